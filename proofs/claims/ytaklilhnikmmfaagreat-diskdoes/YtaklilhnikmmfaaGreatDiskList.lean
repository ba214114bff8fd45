/-
  The walks of List and Read, and of Used, List, Read of disks that are down or that New did not create.
-/
import Derived.Test.YtaklilhnikmmfaaGreatDiskUsed
namespace Go.Proofs.YtaklilhnikmmfaaGreat
open Go.RowKit StrM BlockM FileM DirM DiskM

/-- The names, as lists of bytes. -/
def nms (l : List E) : List (List UInt8) := l.map fun e => e.name.data.toList
theorem nms_len (l : List E) : (nms l).length = l.length := by simp [nms]
theorem nms_next {l : List E} {k : Nat} (hk : k < l.length) : strs (nms (l.take (k + 1))) = strs (nms (l.take k)) ++ [.string l[k].name] := by
  unfold nms strs
  rw [List.take_succ_eq_append_getElem hk, List.map_append, List.map_append]
  rfl

theorem used_dead (v : Value) (w : World) (h : Dead w v) : Calls Tryz.prog 21 #[v] w fun e w' => e = .returned (.int .i64 0) ∧ w = w' := by
  have ST := Lib.hid (state_dead v w h)
  clear h
  go_enter Tryz.func21, Tryz.ntmps21
  go_wp2_with fail
  refine ST.out.mono ?_
  rintro e w' ⟨rfl, rfl⟩
  go_wp2_with fail
  go_ret
  exact ⟨rfl, rfl⟩
theorem used_down (p : Nat) (r : Raw) (w : World) (h : KBox w p r) (hd : r.down = true) : Calls Tryz.prog 21 #[.pointer (some ⟨p, 0, none⟩)] w fun e w' => e = .returned (.int .i64 0) ∧ w = w' := by
  have ST := Lib.hid (state_live p r w h)
  rw [hd] at ST
  clear h hd
  go_enter Tryz.func21, Tryz.ntmps21
  go_wp2_with fail
  refine ST.out.mono ?_
  rintro e w' ⟨rfl, rfl⟩
  go_wp2_with fail
  go_ret
  exact ⟨rfl, rfl⟩
theorem list_dead (v : Value) (w : World) (h : Dead w v) : Calls Tryz.prog 15 #[v] w fun e w' => e = .returned (.slice none 0 0) ∧ w = w' := by
  have ST := Lib.hid (state_dead v w h)
  clear h
  go_enter Tryz.func15, Tryz.ntmps15
  go_wp2_with fail
  refine ST.out.mono ?_
  rintro e w' ⟨rfl, rfl⟩
  go_wp2_with fail
  go_ret
  exact ⟨rfl, rfl⟩
theorem list_down (p : Nat) (r : Raw) (w : World) (h : KBox w p r) (hd : r.down = true) : Calls Tryz.prog 15 #[.pointer (some ⟨p, 0, none⟩)] w fun e w' => e = .returned (.slice none 0 0) ∧ w = w' := by
  have ST := Lib.hid (state_live p r w h)
  rw [hd] at ST
  clear h hd
  go_enter Tryz.func15, Tryz.ntmps15
  go_wp2_with fail
  refine ST.out.mono ?_
  rintro e w' ⟨rfl, rfl⟩
  go_wp2_with fail
  go_ret
  exact ⟨rfl, rfl⟩
theorem read_dead (v : Value) (nm : ByteArray) (w : World) (h : Dead w v) : Calls Tryz.prog 18 #[v, .string nm] w fun e w' => e = .returned (.tuple #[.slice none 0 0, .int .i64 10]) ∧ w = w' := by
  have ST := Lib.hid (state_dead v w h)
  clear h
  go_enter Tryz.func18, Tryz.ntmps18
  go_wp2_with fail
  refine ST.out.mono ?_
  rintro e w' ⟨rfl, rfl⟩
  go_wp2_with fail
  go_ret2
  exact ⟨rfl, rfl⟩
theorem read_down (p : Nat) (r : Raw) (nm : ByteArray) (w : World) (h : KBox w p r) (hd : r.down = true) : Calls Tryz.prog 18 #[.pointer (some ⟨p, 0, none⟩), .string nm] w fun e w' => e = .returned (.tuple #[.slice none 0 0, .int .i64 9]) ∧ w = w' := by
  have ST := Lib.hid (state_live p r w h)
  rw [hd] at ST
  clear h hd
  go_enter Tryz.func18, Tryz.ntmps18
  go_wp2_with fail
  refine ST.out.mono ?_
  rintro e w' ⟨rfl, rfl⟩
  go_wp2_with fail
  go_ret2
  exact ⟨rfl, rfl⟩

/-- What List returns. -/
def LPost (l : List E) (w : World) (e : Ending) (w' : World) : Prop := ∃ v, e = .returned v ∧ SeesV w' v (strs (nms l)) ∧ Below w.heap.size w w'
/-- What Read returns. -/
def RPost (l : List UInt8) (er : Int) (w : World) (e : Ending) (w' : World) : Prop := ∃ v, e = .returned (.tuple #[v, .int .i64 er]) ∧ SeesV w' v (bys l) ∧ Below w.heap.size w w'

/-- The names of a disk in memory. -/
theorem Held.names {w : World} {N p i k : Nat} {s : S} {r : Raw} {g : Int → Option Value} (h : Held w N p i s r k g) (hI : Inv i s) :
    ∃ A0 n0 c0, r.N = .slice A0 n0 c0 ∧ n0 = s.dir.now.length ∧ n0 ≤ 100 ∧ ∀ W, Below w.heap.size w W → SeesE W (.slice A0 n0 c0) s.dir.now := by
  obtain ⟨⟨A0, n0, c0, f0⟩, -, -⟩ := h.dir.form
  have SE : ∀ W, Below w.heap.size w W → SeesE W (.slice A0 n0 c0) s.dir.now := fun W hb => by
    have := (h.later hb).dir
    rw [f0] at this
    obtain ⟨_, _, _, e, h1, -⟩ := this
    injection e with e
    injection e with e
    injection e with e _
    rw [e]; exact h1
  have EN : n0 = s.dir.now.length := by
    have := SE w (Below.refl _ _)
    obtain ⟨_, _, e, _⟩ := SeesN.form this
    injection e
  have FW := (DirM.valid_now hI.dirs).few
  exact ⟨A0, n0, c0, f0, EN, by omega, SE⟩

set_option maxHeartbeats 4000000 in
set_option maxRecDepth 100000 in
theorem list_live (N p i : Nat) (s : S) (w : World) (h : CD N p i s w) (hI : Inv i s) (hd : s.down = false) :
    Calls Tryz.prog 15 #[.pointer (some ⟨p, 0, none⟩)] w (LPost s.dir.now w) := by
  obtain ⟨r, k, g, H⟩ := h
  have ST := Lib.hid (state_live p r w H.box)
  have dn : r.down = false := by rw [H.down]; exact hd
  rw [dn] at ST
  obtain ⟨A0, n0, c0, f0, en, n0l, se⟩ := H.names hI
  have SE := Lib.hid se
  have EN := Lib.hid en
  obtain ⟨-, x1, -⟩ := H.box.cells
  rw [f0] at x1
  generalize s.dir.now = l at *
  clear H hI hd dn f0 se en
  unfold LPost
  go_enter Tryz.func15, Tryz.ntmps15
  go_wp2_with fail
  refine ST.out.mono ?_
  rintro e w' ⟨rfl, rfl⟩
  clear ST
  go_wp2_with fail
  clear x1
  go_loopw [3, 15] (fun s3 s15 wr => ∃ j : Nat, j ≤ n0 ∧ s15 = .int .i64 (j : Int) ∧ wr.ownsRow w.heap.size 9 1 s3 j (strs (nms (l.take j))) ∧ Below w.heap.size w wr) (fun _ s15 _ => n0 - (intOf s15).toNat)
  case atStart => exact ⟨0, Nat.zero_le _, rfl, by simpa [nms, strs] using World.ownsRow_nil _ _ _ _, Below.refl _ _⟩
  case round =>
    obtain ⟨j, hj, rfl, hO, hB⟩ := hrel
    have HB := Lib.hid hB
    have HO := Lib.hid hO
    clear hB hO
    by_cases hlt : j < n0
    · have hkl : j < l.length := by rw [← EN.out]; exact hlt
      obtain ⟨gb, off, rfl, hg, hc1, hc2⟩ := (SE.out _ HB.out).cells hkl
      have NX := Lib.hid (nms_next hkl)
      generalize l[j].node = nd at *
      generalize l[j].name = nm at *
      have B1 := Lib.hid (HB.out.trans ((below_made wr (.cells #[.string nm, .int .i64 nd] 67)).mono HB.out.size))
      have E1 := Lib.hid (Blk.made wr #[.string nm, .int .i64 nd] 67)
      have O1 := Lib.hid (own_belowN HO.out (below_made wr (.cells #[.string nm, .int .i64 nd] 67)))
      have hsz := B1.out.size
      clear HO
      obtain ⟨A, cap, rfl, -⟩ := own_slice O1.out
      have q1 : (j + 1) * 16 ≤ 140737488355328 := by omega
      have q2 : j + 1 ≤ maxLen := by unfold maxLen; omega
      go_wp2_with (at_builtin; refine append_one oneString rfl _ _ rfl w.heap.size _ _ _ rfl O1.out (.string nm) rfl (by simp [Act.eval]) q1 q2 hsz ?_; intro v2 w2 ho2 hb2)
      have O2 := Lib.hid (show w2.ownsRow w.heap.size 9 1 v2 (j + 1) (strs (nms (l.take (j + 1)))) by rw [NX.out]; exact ho2)
      have B2 := Lib.hid (B1.out.trans hb2)
      clear ho2 hb2 O1 B1 E1 NX
      go_wp2_with fail
      go_roundw
      case rel => exact ⟨j + 1, by omega, by go_num, O2.out, B2.out⟩
      case measure => simp [intOf]; omega
    · have HX := Lib.hid (show SeesV wr _ (strs (nms l)) from by
        have := SeesV.of_own HO.out
        rw [show j = l.length by rw [← EN.out]; omega, List.take_length] at this
        exact this)
      go_wp2_with fail
      go_ret
      exact ⟨_, rfl, HX.out, HB.out⟩

set_option maxHeartbeats 4000000 in
set_option maxRecDepth 100000 in
theorem read_live (N p i : Nat) (s : S) (nm : ByteArray) (w : World) (h : CD N p i s w) (hI : Inv i s) (hi : i ≤ 100) (hd : s.down = false) :
    Calls Tryz.prog 18 #[.pointer (some ⟨p, 0, none⟩), .string nm] w (RPost (if has s.dir.now nm then (file s nm).now else []) (if has s.dir.now nm then 0 else 5) w) := by
  obtain ⟨r, k, g, H⟩ := h
  have ST := Lib.hid (state_live p r w H.box)
  have dn : r.down = false := by rw [H.down]; exact hd
  rw [dn] at ST
  have FI := Lib.hid (find_any _ s.dir nm w H.dir (by have := (DirM.valid_now hI.dirs).few; omega))
  obtain ⟨⟨A0, n0, c0, f0⟩, ⟨A1, n1, c1, f1⟩, ⟨A2, n2, c2, f2⟩⟩ := H.dir.form
  have HH := Lib.hid (fun W (hb : Below w.heap.size w W) => H.later hb)
  have HI := Lib.hid hI
  have e0 : fv s.dir.now nm = node s nm := rfl
  rw [e0] at FI
  obtain ⟨room, N0, S0, V0, mm, last, ops, trip, stop, dn'⟩ := r
  dsimp only at f0 f1 f2
  subst f0 f1 f2
  obtain ⟨-, x1, x2, x3, -⟩ := H.box.cells
  dsimp only at x1 x2 x3
  obtain ⟨L, hL⟩ : ∃ L, L = if has s.dir.now nm then (file s nm).now else [] := ⟨_, rfl⟩
  obtain ⟨er, he⟩ : ∃ er : Int, er = if has s.dir.now nm then 0 else 5 := ⟨_, rfl⟩
  rw [← hL, ← he]
  have LN := Lib.hid (show has s.dir.now nm = false → L = [] ∧ er = 5 from fun h => by rw [hL, he, h]; exact ⟨rfl, rfl⟩)
  have LY := Lib.hid (show has s.dir.now nm = true → L = (file s nm).now ∧ er = 0 from fun h => by rw [hL, he, h]; exact ⟨rfl, rfl⟩)
  clear H hI hd dn e0 hL he
  go_enter Tryz.func18, Tryz.ntmps18
  go_wp2_with fail
  refine ST.out.mono ?_
  rintro e w' ⟨rfl, rfl⟩
  clear ST
  go_wp2_with fail
  refine FI.out.mono ?_
  rintro e w1 ⟨rfl, hb1⟩
  have B1 := Lib.hid hb1
  clear hb1 FI x1 x2 x3
  cases hh : has s.dir.now nm with
  | false =>
    obtain ⟨rfl, rfl⟩ := LN.out hh
    clear hh
    go_wp2_with fail
    go_ret2
    exact ⟨_, rfl, ⟨none, 0, rfl, .inl rfl⟩, B1.out⟩
  | true =>
    obtain ⟨rfl, rfl⟩ := LY.out hh
    have NA := Lib.hid (show alive s.dir (node s nm) by
      obtain ⟨k, hk, _, hn, _⟩ := av_has hh
      unfold DiskM.node
      rw [← hn]
      exact now_alive HI.out.dirs _ (List.getElem_mem hk))
    obtain ⟨a, c, a1, m1, d1, a2, m2, d2, hgn, hF, hn1, hn2, -⟩ := (HH.out _ B1.out).node HI.out NA.out
    have LK := (HH.out _ B1.out).map.look (node s nm) (by omega) (by omega) w1 rfl
    rw [hgn] at LK
    dsimp only [Option.getD] at LK
    have HL := FileM.valid_now (HI.out.file nm)
    have SN := Lib.hid (show SeesV w1 (.slice a (file s nm).now.length c) (bys (file s nm).now) from by
      obtain ⟨_, _, _, e, h1, -⟩ := hF
      injection e with e
      injection e with e
      injection e with e _
      rw [← e] at h1; exact h1)
    have CL := Lib.hid (clone_any a (file s nm).now.length c (file s nm).now w1 SN.out (by omega))
    obtain ⟨-, -, -, -, x4, -⟩ := (HH.out _ B1.out).box.cells
    dsimp only at x4
    have FD := field_file
    have LX := Lib.hid LK
    clear hgn hF hh LK
    change Hid ((Instr.lookup _ _ _ _).run _ _ = .ok (.agg #[.slice a (file s nm).now.length c, _, _]) _) at LX
    generalize (file s nm).now.length = q at *
    generalize (file s nm).now = b at *
    have LK := LX.out
    generalize node s nm = nd at *
    go_wp2_with fail
    refine CL.out.mono ?_
    rintro e w2 ⟨v2, rfl, ho2, hb2⟩
    have B2 := Lib.hid (B1.out.trans (hb2.mono B1.out.size))
    have V2 := Lib.hid (SeesV.of_own ho2)
    clear ho2 hb2 CL
    go_wp2_with fail
    go_ret2
    exact ⟨_, rfl, V2.out, B2.out⟩
end Go.Proofs.YtaklilhnikmmfaaGreat
