/-
  The walks of Right, Find, settled, Sync and Crash.
-/
import Derived.Test.YtaklilhnikmmfaaGreatDirRight
import Derived.Deep.RegionHeld3
namespace Go.Proofs.YtaklilhnikmmfaaGreat
open Go.RowKit StrM DirM

theorem dvalid_unord {d : D} (h : ordL d.sure = false) : valid d = false := by unfold valid; rw [h]; rfl
theorem dvalid_err {d : D} (h : ¬ (all d.sure d.pend).2 = 0) : valid d = false := by unfold valid; rw [decide_eq_false h]; simp
theorem dvalid_eq {d : D} (h1 : ordL d.sure = true) (h2 : (all d.sure d.pend).2 = 0) : valid d = decide ((all d.sure d.pend).1 = d.now) := by unfold valid; rw [h1, decide_eq_true h2]; rfl

set_option maxHeartbeats 2000000 in
set_option maxRecDepth 100000 in
theorem dright_any (v : Value) (d : D) (w : World) (hs : SeesD w v d) (hp : d.pend.length ≤ 1000000) :
    Calls Tryz.prog 68 #[v] w fun e w' => e = .returned (.bool (valid d)) ∧ Below w.heap.size w w' := by
  obtain ⟨A0, c0, A1, c1, A2, c2, rfl, h0, h1, h2⟩ := hs.slices
  have S0 := Lib.hid (fun W (hb : Below w.heap.size w W) => h0.later hb)
  have OR := Lib.hid (fun W (hb : Below w.heap.size w W) => ordered_any _ d.sure W (h1.later hb))
  have PE := Lib.hid (fun W (hb : Below w.heap.size w W) (ho : DirM.Ord d.sure) => performed_any _ _ d.sure d.pend W (h1.later hb) (h2.later hb) ho hp)
  unfold PerfPost at PE
  obtain ⟨n0, e0⟩ : ∃ n, n = d.now.length := ⟨_, rfl⟩
  rw [← e0] at S0 ⊢
  generalize d.sure.length = n1 at *
  generalize d.pend.length = n2 at *
  have B0 := Lib.hid (below_made w (.cells #[.slice A0 n0 c0, .slice A1 n1 c1, .slice A2 n2 c2] 32))
  have X0 := Lib.hid (DBox.made w (.slice A0 n0 c0) (.slice A1 n1 c1) (.slice A2 n2 c2))
  clear hs h0 h1 h2 e0
  obtain ⟨r, hr⟩ : ∃ r, r = valid d := ⟨_, rfl⟩
  rw [← hr]
  have HR := Lib.hid hr
  clear hr
  go_enter Tryz.func68, Tryz.ntmps68
  go_wp2_with fail
  refine (OR.out _ B0.out).mono ?_
  rintro e w1 ⟨rfl, hb1⟩
  have B1 := Lib.hid (B0.out.trans (hb1.mono B0.out.size))
  have X1 := Lib.hid (X0.out.later hb1)
  clear hb1 X0 B0 OR
  cases hv : ordL d.sure with
  | false =>
    have HX := Lib.hid (show false = r by rw [HR.out, dvalid_unord hv])
    clear hv PE
    go_wp2_with fail
    go_ret
    exact ⟨ret_bool HX.out, B1.out⟩
  | true =>
    obtain ⟨x0, x1, x2⟩ := X1.out.cells
    have HO := Lib.hid (ordL_iff.1 hv)
    have VE := Lib.hid (fun h => dvalid_err (d := d) h)
    have VO := Lib.hid (fun h => dvalid_eq (d := d) hv h)
    have PX := Lib.hid (PE.out _ B1.out HO.out)
    clear hv PE
    go_wp2_with fail
    refine PX.out.mono ?_
    rintro e w2 ⟨v2, rfl, ho2, hb2⟩
    have B2 := Lib.hid (B1.out.trans (hb2.mono B1.out.size))
    have X2 := Lib.hid (X1.out.later hb2)
    have O2 := Lib.hid ho2
    clear hb2 ho2 x0 x1 x2 X1 PX
    obtain ⟨x0, x1, x2⟩ := X2.out.cells
    obtain ⟨k, hk⟩ : ∃ k, k = (all d.sure d.pend).2 := ⟨_, rfl⟩
    rw [← hk] at VE VO ⊢
    by_cases hk0 : k = 0
    · subst hk0
      have HX := Lib.hid (VO.out rfl)
      have OL := Lib.hid (show (all d.sure d.pend).1.length ≤ 1000000 by have := (all_ord _ HO.out hk.symm).few; omega)
      have SQ := Lib.hid (sequal_any v2 _ _ d.now w2 (SeesE.of_own O2.out) (S0.out _ B2.out) OL.out)
      rw [← HX.out, ← HR.out] at SQ
      clear VE VO hk
      go_wp2_with fail
      refine SQ.out.mono ?_
      rintro e w3 ⟨rfl, hb3⟩
      have B3 := Lib.hid (B2.out.trans (hb3.mono B2.out.size))
      clear hb3
      go_wp2_with fail
      go_ret
      exact ⟨rfl, B3.out⟩
    · have HX := Lib.hid (show false = r by rw [HR.out, VE.out hk0])
      have d1 : (k == 0) = false := by simpa using hk0
      clear VE VO hk hk0
      go_wp2_with fail
      go_ret
      exact ⟨ret_bool HX.out, B2.out⟩

theorem find_at {l : List E} {nm : ByteArray} {k : Nat} (hk : k < l.length) (h0 : ∀ j (hj : j < k), (l[j]'(by omega)).name ≠ nm) (h : l[k].name = nm) : fv l nm = l[k].node ∧ has l nm = true := by
  have := fnd_at l nm k hk h0 h
  simp [fv, has, this]
theorem find_not {l : List E} {nm : ByteArray} (h0 : ∀ j (hj : j < l.length), l[j].name ≠ nm) : fv l nm = 0 ∧ has l nm = false := by
  have := fnd_none l nm (fun x hx => by obtain ⟨j, hj, rfl⟩ := List.mem_iff_getElem.1 hx; exact h0 j hj)
  simp [fv, has, this]

set_option maxHeartbeats 2000000 in
set_option maxRecDepth 100000 in
theorem find_any (v : Value) (d : D) (nm : ByteArray) (w : World) (hs : SeesD w v d) (hn : d.now.length ≤ 1000000) :
    Calls Tryz.prog 39 #[v, .string nm] w fun e w' => e = .returned (.tuple #[.int .i64 (fv d.now nm), .bool (has d.now nm)]) ∧ Below w.heap.size w w' := by
  obtain ⟨A0, c0, A1, c1, A2, c2, rfl, h0, h1, h2⟩ := hs.slices
  have S0 := Lib.hid (fun W (hb : Below w.heap.size w W) => h0.later hb)
  generalize d.now = l at *
  obtain ⟨n, e0⟩ : ∃ n, n = l.length := ⟨_, rfl⟩
  rw [← e0] at S0 hn ⊢
  generalize d.sure.length = n1 at *
  generalize d.pend.length = n2 at *
  have B0 := Lib.hid (below_made w (.cells #[.slice A0 n c0, .slice A1 n1 c1, .slice A2 n2 c2] 32))
  have X0 := Lib.hid (DBox.made w (.slice A0 n c0) (.slice A1 n1 c1) (.slice A2 n2 c2))
  have HN := Lib.hid e0
  clear hs h0 h1 h2 e0
  obtain ⟨r, hr⟩ : ∃ r, r = fv l nm := ⟨_, rfl⟩
  obtain ⟨s, hs⟩ : ∃ s, s = has l nm := ⟨_, rfl⟩
  rw [← hr, ← hs]
  have HR := Lib.hid hr
  have HS := Lib.hid hs
  clear hr hs
  go_enter Tryz.func39, Tryz.ntmps39
  go_wp2_with fail
  go_loopw [11] (fun i wr => ∃ k : Nat, k ≤ n ∧ i = .int .i64 (k : Int) ∧ Below w.heap.size w wr ∧ ∀ j (hj : j < l.length), j < k → l[j].name ≠ nm) (fun i _ => n - (intOf i).toNat)
  case atStart => exact ⟨0, Nat.zero_le _, rfl, B0.out, fun j _ h => by omega⟩
  case round =>
    obtain ⟨k, hk, rfl, hb, ha⟩ := hrel
    have HB := Lib.hid hb
    have HA := Lib.hid ha
    clear hb ha
    by_cases hlt : k < n
    · have k1 : k < l.length := by rw [← HN.out]; exact hlt
      have hlt' : (k : Int) < (n : Int) := by omega
      obtain ⟨g, off, rfl, hg, hc1, hc2⟩ := (S0.out _ HB.out).cells k1
      have FA := Lib.hid (find_at (nm := nm) k1 (fun j hj => HA.out j (by omega) hj))
      have UP := Lib.hid (fun (h : l[k].name ≠ nm) j (hj : j < l.length) (hjk : j < k + 1) => show l[j].name ≠ nm by
          by_cases e : j = k
          · subst e; exact h
          · exact HA.out j hj (by omega))
      generalize l[k] = x at *
      obtain ⟨xn, xm⟩ := x
      simp only at hc1 hc2 FA UP
      have BM := Lib.hid (HB.out.alloc HB.out.size (.cells #[.string xn, .int .i64 xm] 67))
      by_cases e : xn = nm
      · subst e
        obtain ⟨f1, f2⟩ := FA.out rfl
        have HX := Lib.hid (show xm = r by rw [HR.out, f1])
        have HY := Lib.hid (show true = s by rw [HS.out, f2])
        clear FA UP f1 f2
        go_wp2_with fail
        go_ret2
        exact ⟨by rw [← HX.out, ← HY.out]; rfl, BM.out⟩
      · have HX := Lib.hid (UP.out e)
        have d1 := name_ne e
        clear FA UP e
        go_wp2_with fail
        go_roundw
        case rel => exact ⟨k + 1, by omega, by go_num, BM.out, HX.out⟩
        case measure => simp [intOf]; omega
    · obtain ⟨f1, f2⟩ := find_not (l := l) (nm := nm) (fun j hj => HA.out j hj (by have := HN.out; omega))
      have HX := Lib.hid (show 0 = r by rw [HR.out, f1])
      have HY := Lib.hid (show false = s by rw [HS.out, f2])
      clear f1 f2
      go_wp2_with fail
      go_ret2
      exact ⟨by rw [← HX.out, ← HY.out]; rfl, HB.out⟩

set_option maxHeartbeats 2000000 in
set_option maxRecDepth 100000 in
theorem dsettled_any (v : Value) (l : List E) (w : World) (hs : SeesE w v l) (hl : l.length ≤ 1000000) : Calls Tryz.prog 70 #[v] w (DPost ⟨l, l, []⟩ w) := by
  have CL := Lib.hid (fun W (hb : Below w.heap.size w W) => cloneE_any v l W (hs.later hb) hl)
  unfold CloneE at CL
  unfold DPost
  have B0 := Lib.hid (below_made w (.cells #[.slice none 0 0, .slice none 0 0, .slice none 0 0] 32))
  have Y0 := Lib.hid (DBox.made w (.slice none 0 0) (.slice none 0 0) (.slice none 0 0))
  clear hs hl
  go_enter Tryz.func70, Tryz.ntmps70
  go_wp2_with fail
  refine (CL.out _ B0.out).mono ?_
  rintro e w1 ⟨v1, rfl, ho1, hb1⟩
  have B1 := Lib.hid (B0.out.trans (hb1.mono B0.out.size))
  have Y1 := Lib.hid (Y0.out.later hb1)
  have S1 := Lib.hid (SeesE.of_own ho1)
  clear hb1 ho1 B0 Y0
  go_wp2_with fail
  refine (CL.out _ B1.out).mono ?_
  rintro e w2 ⟨v2, rfl, ho2, hb2⟩
  have B2 := Lib.hid (B1.out.trans (hb2.mono B1.out.size))
  have Y2 := Lib.hid (Y1.out.later hb2)
  have T1 := Lib.hid (S1.out.later hb2)
  have T2 := Lib.hid (SeesE.of_own ho2)
  clear hb2 ho2 B1 Y1 S1
  obtain ⟨y0, y1, y2⟩ := Y2.out.cells
  obtain ⟨z0, z1, z2⟩ := Y2.out.soft
  obtain ⟨A0, c0, rfl, -⟩ := SeesN.form T1.out
  obtain ⟨A1, c1, rfl, -⟩ := SeesN.form T2.out
  obtain ⟨n, hn⟩ : ∃ n, n = l.length := ⟨_, rfl⟩
  rw [← hn] at T1 T2 ⊢
  clear hn
  have YF := Lib.hid (Y2.out.set (.slice A0 n c0) (.slice A1 n c1) (.slice none 0 0))
  have HF := Lib.hid (show SeesD (dset w2 w.heap.size (.slice A0 n c0) (.slice A1 n c1) (.slice none 0 0)) (.agg #[.slice A0 n c0, .slice A1 n c1, .slice none 0 0]) ⟨l, l, []⟩ ∧ Below w.heap.size w (dset w2 w.heap.size (.slice A0 n c0) (.slice A1 n c1) (.slice none 0 0)) from
      ⟨⟨_, _, _, rfl, T1.out.dset Y2.out _ _ _, T2.out.dset Y2.out _ _ _, seesO_nil _⟩, dset_below B2.out (Nat.le_refl _) _ _ _⟩)
  go_wp2_with fail
  change bodyPost _ _ _ _ _ (dset w2 w.heap.size (.slice A0 n c0) (.slice A1 n c1) (.slice none 0 0))
  generalize dset w2 w.heap.size (.slice A0 n c0) (.slice A1 n c1) (.slice none 0 0) = w9 at *
  obtain ⟨y0, y1, y2⟩ := YF.out.cells
  exact bodyPost_ret (by simp [results, Tryz.results70, go_sem, y0, y1, y2]) rfl ⟨_, rfl, HF.out.1, HF.out.2⟩
end Go.Proofs.YtaklilhnikmmfaaGreat
