/-
  The walks of Move, Remove, Used, List and Read.
-/
import Derived.Test.YtaklilhnikmmfaaGreatDiskMake
namespace Go.Proofs.YtaklilhnikmmfaaGreat
open Go.RowKit StrM BlockM FileM DirM DiskM

theorem move_any (N p i : Nat) (s : S) (nm dst : ByteArray) (w : World) (h : CD N p i s w) (hI : Inv i s) (hi : i ≤ 100) :
    Calls Tryz.prog 29 #[.pointer (some ⟨p, 0, none⟩), .string nm, .string dst] w (KEnd N p (i + 1) (dirE s ⟨2, nm, dst, 0⟩) (dirS s ⟨2, nm, dst, 0⟩) w) := by
  have RN := Lib.hid (rename_any N p i s ⟨2, nm, dst, 0⟩ w h hI hi (show ¬ (2 : Int) = 1 by decide))
  clear h hI
  go_enter Tryz.func29, Tryz.ntmps29
  go_wp2_with fail
  refine RN.out.mono ?_
  rintro e w' ⟨rfl, hk⟩
  have HK := Lib.hid hk
  clear hk RN
  go_wp2_with fail
  go_ret
  exact ⟨rfl, HK.out⟩
theorem remove_any (N p i : Nat) (s : S) (nm : ByteArray) (w : World) (h : CD N p i s w) (hI : Inv i s) (hi : i ≤ 100) :
    Calls Tryz.prog 30 #[.pointer (some ⟨p, 0, none⟩), .string nm] w (KEnd N p (i + 1) (dirE s ⟨3, nm, ⟨#[]⟩, 0⟩) (dirS s ⟨3, nm, ⟨#[]⟩, 0⟩) w) := by
  have RN := Lib.hid (rename_any N p i s ⟨3, nm, ⟨#[]⟩, 0⟩ w h hI hi (show ¬ (3 : Int) = 1 by decide))
  clear h hI
  go_enter Tryz.func30, Tryz.ntmps30
  go_wp2_with fail
  refine RN.out.mono ?_
  rintro e w' ⟨rfl, hk⟩
  have HK := Lib.hid hk
  clear hk RN
  go_wp2_with fail
  go_ret
  exact ⟨rfl, HK.out⟩

/-- The file of a node that has a name. -/
theorem Held.node {w : World} {N p i k : Nat} {s : S} {r : Raw} {g : Int → Option Value} (h : Held w N p i s r k g) (hI : Inv i s) {n : Int} (ha : alive s.dir n) :
    ∃ a0 c0 a1 n1 c1 a2 n2 c2, g n = Option.some (.agg #[.slice a0 (fl s.files n).now.length c0, .slice a1 n1 c1, .slice a2 n2 c2]) ∧ SeesF w (.agg #[.slice a0 (fl s.files n).now.length c0, .slice a1 n1 c1, .slice a2 n2 c2]) (fl s.files n) ∧ 1 ≤ n ∧ n ≤ 1000000 + i ∧ n2 ≤ c2 := by
  have hs := h.some n ha
  obtain ⟨v, hv⟩ := Option.isSome_iff_exists.1 hs
  obtain ⟨h1, h2, h3, h4⟩ := h.file n v hv
  obtain ⟨A0, c0, A1, c1, A2, c2, rfl, -⟩ := h3.slices
  have := hI.few
  exact ⟨_, _, _, _, _, _, _, _, hv, h3, h1, by omega, h4 _ _ _ _ _ rfl⟩
theorem field_file (A B C : Option Addr) (n0 c0 n1 c1 n2 c2 : Nat) (w : World) : (Instr.field 70 (.agg #[.slice A n0 c0, .slice B n1 c1, .slice C n2 c2]) 0).run Tryz.prog w = .ok (.slice A n0 c0) w := by
  kernel_rfl
theorem used_le_all {i : Nat} {s : S} (hI : Inv i s) (k : Nat) : usedL (s.dir.now.take k) s.files ≤ 6553600 := by
  have h1 := usedL_le (l := s.dir.now.take k) (fs := s.files) (m := 65536) fun e _ => FileM.valid_now (fl_valid hI.fine _)
  have h2 := (DirM.valid_now hI.dirs).few
  have h3 : (s.dir.now.take k).length ≤ 100 := Nat.le_trans (by rw [List.length_take]; omega) h2
  have h4 : (s.dir.now.take k).length * 65536 ≤ 100 * 65536 := Nat.mul_le_mul_right _ h3
  omega

set_option maxHeartbeats 4000000 in
set_option maxRecDepth 100000 in
theorem used_live (N p i : Nat) (s : S) (w : World) (h : CD N p i s w) (hI : Inv i s) (hi : i ≤ 100) (hd : s.down = false) :
    Calls Tryz.prog 21 #[.pointer (some ⟨p, 0, none⟩)] w fun e w' => e = .returned (.int .i64 (used s : Int)) ∧ Below w.heap.size w w' := by
  obtain ⟨r, k, g, H⟩ := h
  have ST := Lib.hid (state_live p r w H.box)
  have dn : r.down = false := by rw [H.down]; exact hd
  rw [dn] at ST
  have HH := Lib.hid (fun W (hb : Below w.heap.size w W) => H.later hb)
  have HI := Lib.hid hI
  obtain ⟨⟨A0, n0, c0, f0⟩, -, -⟩ := H.dir.form
  have SE := Lib.hid (show ∀ W, Below w.heap.size w W → SeesE W (.slice A0 n0 c0) s.dir.now from fun W hb => by
    have := (H.later hb).dir
    rw [f0] at this
    obtain ⟨_, _, _, e, h1, -⟩ := this
    injection e with e
    injection e with e
    injection e with e _
    rw [e]; exact h1)
  have EN := Lib.hid (show n0 = s.dir.now.length by
    have := SE.out w (Below.refl _ _)
    obtain ⟨_, _, e, _⟩ := SeesN.form this
    injection e)
  have FW := Lib.hid (DirM.valid_now hI.dirs).few
  have NL := Lib.hid (show n0 ≤ 100 by rw [EN.out]; exact FW.out)
  have n0l := NL.out
  have KX := Lib.hid (fun W (hb : Below w.heap.size w W) => (H.later hb).box)
  have hpw := H.box.lt
  obtain ⟨room, N0, S0, V0, mm, last, ops, trip, stop, dn'⟩ := r
  dsimp only at f0
  subst f0
  clear H hI hd dn
  go_enter Tryz.func21, Tryz.ntmps21
  go_wp2_with fail
  refine ST.out.mono ?_
  rintro e w' ⟨rfl, rfl⟩
  obtain ⟨-, x1, -⟩ := (KX.out _ (Below.refl _ _)).cells
  dsimp only at x1
  clear ST
  go_wp2_with fail
  clear x1
  go_loopw [3, 15] (fun s3 s15 wr => ∃ j : Nat, j ≤ n0 ∧ s15 = .int .i64 (j : Int) ∧ s3 = .int .i64 (usedL (s.dir.now.take j) s.files : Int) ∧ Below w.heap.size w wr) (fun _ s15 _ => n0 - (intOf s15).toNat)
  case atStart => exact ⟨0, Nat.zero_le _, rfl, by simp [usedL], Below.refl _ _⟩
  case round =>
    obtain ⟨j, hj, rfl, rfl, hB⟩ := hrel
    have HB := Lib.hid hB
    clear hB
    by_cases hlt : j < n0
    · have hkl : j < s.dir.now.length := by rw [← EN.out]; exact hlt
      obtain ⟨gb, off, rfl, hg, hc1, hc2⟩ := (SE.out _ HB.out).cells hkl
      obtain ⟨a, c, a1, n1, c1, a2, n2, c2, hgn, hF, hn1, hn2, -⟩ := (HH.out _ HB.out).node HI.out (now_alive HI.out.dirs _ (List.getElem_mem hkl))
      have US := Lib.hid (usedL_next (fs := s.files) hkl)
      have U1 := used_le_all HI.out j
      have U2 := used_le_all HI.out (j + 1)
      have VL := FileM.valid_now (fl_valid HI.out.fine s.dir.now[j].node)
      have LK := Lib.hid (fun W hW => (HH.out _ HB.out).map.look s.dir.now[j].node (by omega) (by omega) W hW)
      have LM := Lib.hid (HH.out _ HB.out).map.lt
      rw [hgn] at LK
      dsimp only [Option.getD] at LK LM
      unfold nowLen at US
      generalize s.dir.now[j].node = nd at *
      generalize s.dir.now[j].name = nm at *
      generalize (fl s.files nd).now.length = q at *
      generalize usedL (s.dir.now.take j) s.files = u at *
      generalize husd : usedL (s.dir.now.take (j + 1)) s.files = u' at *
      have HU := Lib.hid husd
      have B1 := Lib.hid (HB.out.trans ((below_made wr (.cells #[.string nm, .int .i64 nd] 67)).mono HB.out.size))
      have E1 := Lib.hid (Blk.made wr #[.string nm, .int .i64 nd] 67)
      have L1 := Lib.hid (fun n => LK.out ((wr.alloc (.cells #[.string nm, .int .i64 nd] 67)).drewN n) (Below.heap_alloc wr _ _ LM.out))
      have FD := field_file
      clear hgn hF husd LK
      go_wp2_with fail
      generalize wr.alloc (.cells #[.string nm, .int .i64 nd] 67) = w1 at *
      obtain ⟨-, -, -, -, x4, -⟩ := (KX.out _ B1.out).cells
      dsimp only at x4
      have y1 : w1.cell? ⟨wr.heap.size, 1, none⟩ = some (.int .i64 nd) := E1.out.cell rfl
      have l1 := L1.out
      go_quiet (fail)
      have BQ := Lib.hid (show Below w.heap.size w (w1.drewN nq) from ⟨B1.out.os, B1.out.tape, B1.out.output, B1.out.size, B1.out.block⟩)
      have UX := Lib.hid (show ((u : Int) + (q : Int)) = ((usedL (s.dir.now.take (j + 1)) s.files : Nat) : Int) by rw [HU.out, US.out]; omega)
      clear x4 y1 l1 L1
      generalize w1.drewN nq = w2 at *
      go_wp2_with fail
      go_roundw
      case rel => exact ⟨j + 1, by omega, by go_num, by rw [UX.out], BQ.out⟩
      case measure => simp [intOf]; omega
    · have HX := Lib.hid (show ((usedL (s.dir.now.take j) s.files : Nat) : Int) = (used s : Int) by
        rw [show j = s.dir.now.length by rw [← EN.out]; omega, List.take_length]; rfl)
      go_wp2_with fail
      go_ret
      exact ⟨ret_int HX.out, HB.out⟩
end Go.Proofs.YtaklilhnikmmfaaGreat
