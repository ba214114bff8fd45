/-
  The walks of file.Sync and file.Crash, and of the reference's Sync.
-/
import Derived.Test.YtaklilhnikmmfaaGreatFileWrite
namespace Go.Proofs.YtaklilhnikmmfaaGreat
open Go.RowKit StrM BlockM FileM

set_option maxHeartbeats 2000000 in
set_option maxRecDepth 100000 in
theorem fsync_any (v : Value) (f : Fl) (w : World) (hs : SeesF w v f) (hz : Sz f) : Calls Tryz.prog 56 #[v] w (FPost (syn f) w) := by
  obtain ⟨A0, c0, A1, c1, A2, c2, rfl, h0, h1, h2⟩ := hs.slices
  have RI := Lib.hid (fun W (hb : Below w.heap.size w W) => fright_any _ f W (hs.later hb) hz)
  have SE := Lib.hid (fun W (hb : Below w.heap.size w W) => settled_any _ f.now W (h0.later hb) (by have := hz.now; omega))
  unfold FPost at SE ⊢
  generalize f.now.length = n0 at *
  generalize f.sure.length = n1 at *
  generalize f.pend.length = n2 at *
  have B0 := Lib.hid ((below_made w (.cells #[.slice A0 n0 c0, .slice A1 n1 c1, .slice A2 n2 c2] 70)).alloc (below_made w _).size (.cells #[.slice none 0 0, .slice none 0 0, .slice none 0 0] 70))
  have X0 := Lib.hid ((FBox.made w (.slice A0 n0 c0) (.slice A1 n1 c1) (.slice A2 n2 c2)).later (below_made _ (.cells #[.slice none 0 0, .slice none 0 0, .slice none 0 0] 70)))
  have Y0 := Lib.hid (show FBox _ (w.heap.size + 1) _ _ _ by simpa using FBox.made (w.alloc (.cells #[.slice A0 n0 c0, .slice A1 n1 c1, .slice A2 n2 c2] 70)) (.slice none 0 0) (.slice none 0 0) (.slice none 0 0))
  clear hs h0 h1 h2 hz
  go_enter Tryz.func56, Tryz.ntmps56
  go_wp2_with fail
  refine (RI.out _ B0.out).mono ?_
  rintro e w1 ⟨rfl, hb1⟩
  have B1 := Lib.hid (B0.out.trans (hb1.mono B0.out.size))
  have X1 := Lib.hid (X0.out.later hb1)
  have Y1 := Lib.hid (Y0.out.later hb1)
  clear hb1 X0 Y0 B0
  cases hv : valid f with
  | false =>
    have HF := Lib.hid (syn_no hv)
    obtain ⟨y0, y1, y2⟩ := Y1.out.cells
    obtain ⟨z0, z1, z2⟩ := Y1.out.soft
    have YF := Lib.hid (Y1.out.set (.slice none 0 0) (.slice none 0 0) (.slice none 0 0))
    have BF := Lib.hid (fset_below B1.out (show w.heap.size ≤ w.heap.size + 1 by omega) (.slice none 0 0) (.slice none 0 0) (.slice none 0 0))
    clear hv SE
    go_wp2_with fail
    change bodyPost _ _ _ _ _ (fset w1 (w.heap.size + 1) (.slice none 0 0) (.slice none 0 0) (.slice none 0 0))
    generalize fset w1 (w.heap.size + 1) (.slice none 0 0) (.slice none 0 0) (.slice none 0 0) = w9 at *
    obtain ⟨y0, y1, y2⟩ := YF.out.cells
    exact bodyPost_ret (by simp [results, Tryz.results56, go_sem, y0, y1, y2]; rfl) rfl ⟨_, rfl, by rw [HF.out]; exact SeesF.zero _, BF.out⟩
  | true =>
    have HF := Lib.hid (syn_ok hv)
    obtain ⟨x0, x1, x2⟩ := X1.out.cells
    clear hv
    go_wp2_with fail
    refine (SE.out _ B1.out).mono ?_
    rintro e w2 ⟨v2, rfl, s2, hb2⟩
    obtain ⟨B0, d0, B1', d1, B2', d2, rfl, -⟩ := s2.slices
    have B2 := Lib.hid (B1.out.trans (hb2.mono B1.out.size))
    have Y2 := Lib.hid (Y1.out.later hb2)
    have S2 := Lib.hid s2
    obtain ⟨y0, y1, y2⟩ := Y2.out.cells
    obtain ⟨z0, z1, z2⟩ := Y2.out.soft
    clear hb2 s2
    simp only at S2 ⊢
    generalize f.now.length = m0 at *
    generalize ([] : List P).length = m2 at *
    have YF := Lib.hid (Y2.out.set (.slice B0 m0 d0) (.slice B1' m0 d1) (.slice B2' m2 d2))
    have HF2 := Lib.hid (show SeesF (fset w2 (w.heap.size + 1) (.slice B0 m0 d0) (.slice B1' m0 d1) (.slice B2' m2 d2)) (.agg #[.slice B0 m0 d0, .slice B1' m0 d1, .slice B2' m2 d2]) (syn f) ∧ Below w.heap.size w (fset w2 (w.heap.size + 1) (.slice B0 m0 d0) (.slice B1' m0 d1) (.slice B2' m2 d2)) from
      ⟨by rw [HF.out]; exact S2.out.fset Y2.out _ _ _, fset_below B2.out (by omega) _ _ _⟩)
    go_wp2_with fail
    change bodyPost _ _ _ _ _ (fset w2 (w.heap.size + 1) (.slice B0 m0 d0) (.slice B1' m0 d1) (.slice B2' m2 d2))
    generalize fset w2 (w.heap.size + 1) (.slice B0 m0 d0) (.slice B1' m0 d1) (.slice B2' m2 d2) = w9 at *
    obtain ⟨y0, y1, y2⟩ := YF.out.cells
    exact bodyPost_ret (by simp [results, Tryz.results56, go_sem, y0, y1, y2]) rfl ⟨_, rfl, HF2.out.1, HF2.out.2⟩

set_option maxHeartbeats 2000000 in
set_option maxRecDepth 100000 in
theorem rfsync_any (v : Value) (f : Fl) (w : World) (hs : SeesF w v f) (hz : Sz f) : Calls Tryz.prog 64 #[v] w (FPost (syn f) w) := by
  obtain ⟨A0, c0, A1, c1, A2, c2, rfl, h0, h1, h2⟩ := hs.slices
  have RI := Lib.hid (fun W (hb : Below w.heap.size w W) => rfright_any _ f W (hs.later hb) hz)
  have S0 := Lib.hid h0
  unfold FPost
  generalize f.now.length = n0 at *
  generalize f.sure.length = n1 at *
  generalize f.pend.length = n2 at *
  have B0 := Lib.hid ((below_made w (.cells #[.slice A0 n0 c0, .slice A1 n1 c1, .slice A2 n2 c2] 70)).alloc (below_made w _).size (.cells #[.slice none 0 0, .slice none 0 0, .slice none 0 0] 70))
  have X0 := Lib.hid ((FBox.made w (.slice A0 n0 c0) (.slice A1 n1 c1) (.slice A2 n2 c2)).later (below_made _ (.cells #[.slice none 0 0, .slice none 0 0, .slice none 0 0] 70)))
  have Y0 := Lib.hid (show FBox _ (w.heap.size + 1) _ _ _ by simpa using FBox.made (w.alloc (.cells #[.slice A0 n0 c0, .slice A1 n1 c1, .slice A2 n2 c2] 70)) (.slice none 0 0) (.slice none 0 0) (.slice none 0 0))
  clear hs h0 h1 h2 hz
  go_enter Tryz.func64, Tryz.ntmps64
  go_wp2_with fail
  refine (RI.out _ B0.out).mono ?_
  rintro e w1 ⟨rfl, hb1⟩
  have B1 := Lib.hid (B0.out.trans (hb1.mono B0.out.size))
  have X1 := Lib.hid (X0.out.later hb1)
  have Y1 := Lib.hid (Y0.out.later hb1)
  clear hb1 X0 Y0 B0
  obtain ⟨y0, y1, y2⟩ := Y1.out.cells
  obtain ⟨z0, z1, z2⟩ := Y1.out.soft
  cases hv : valid f with
  | false =>
    have HF := Lib.hid (syn_no hv)
    have YF := Lib.hid (Y1.out.set (.slice none 0 0) (.slice none 0 0) (.slice none 0 0))
    have BF := Lib.hid (fset_below B1.out (show w.heap.size ≤ w.heap.size + 1 by omega) (.slice none 0 0) (.slice none 0 0) (.slice none 0 0))
    clear hv
    go_wp2_with fail
    change bodyPost _ _ _ _ _ (fset w1 (w.heap.size + 1) (.slice none 0 0) (.slice none 0 0) (.slice none 0 0))
    generalize fset w1 (w.heap.size + 1) (.slice none 0 0) (.slice none 0 0) (.slice none 0 0) = w9 at *
    obtain ⟨y0, y1, y2⟩ := YF.out.cells
    exact bodyPost_ret (by simp [results, Tryz.results64, go_sem, y0, y1, y2]; rfl) rfl ⟨_, rfl, by rw [HF.out]; exact SeesF.zero _, BF.out⟩
  | true =>
    have HF := Lib.hid (syn_ok hv)
    obtain ⟨x0, x1, x2⟩ := X1.out.cells
    have YF := Lib.hid (Y1.out.set (.slice A0 n0 c0) (.slice A0 n0 c0) (.slice none 0 0))
    have HF2 := Lib.hid (show SeesF (fset w1 (w.heap.size + 1) (.slice A0 n0 c0) (.slice A0 n0 c0) (.slice none 0 0)) (.agg #[.slice A0 n0 c0, .slice A0 n0 c0, .slice none 0 0]) (syn f) ∧ Below w.heap.size w (fset w1 (w.heap.size + 1) (.slice A0 n0 c0) (.slice A0 n0 c0) (.slice none 0 0)) from
      ⟨by rw [HF.out]; exact ⟨_, _, _, rfl, (S0.out.later B1.out).fset Y1.out _ _ _, (S0.out.later B1.out).fset Y1.out _ _ _, seesP_nil _⟩, fset_below B1.out (by omega) _ _ _⟩)
    clear hv
    go_wp2_with fail
    change bodyPost _ _ _ _ _ (fset w1 (w.heap.size + 1) (.slice A0 n0 c0) (.slice A0 n0 c0) (.slice none 0 0))
    generalize fset w1 (w.heap.size + 1) (.slice A0 n0 c0) (.slice A0 n0 c0) (.slice none 0 0) = w9 at *
    obtain ⟨y0, y1, y2⟩ := YF.out.cells
    exact bodyPost_ret (by simp [results, Tryz.results64, go_sem, y0, y1, y2]) rfl ⟨_, rfl, HF2.out.1, HF2.out.2⟩

set_option maxHeartbeats 4000000 in
set_option maxRecDepth 100000 in
theorem fcrash_any (v bv : Value) (f : Fl) (bs : List Bool) (w : World) (hs : SeesF w v f) (hz : Sz f) (hb : SeesV w bv (bools bs)) : Calls Tryz.prog 46 #[v, bv] w (NPost (crF f bs) (crN f : Int) w) := by
  obtain ⟨A0, c0, A1, c1, A2, c2, rfl, h0, h1, h2⟩ := hs.slices
  obtain ⟨Ab, cb, rfl, -⟩ := id hb
  rw [bools_len] at hb ⊢
  have RI := Lib.hid (fun W (hb : Below w.heap.size w W) => fright_any _ f W (hs.later hb) hz)
  have KE := Lib.hid (fun W (hB : Below w.heap.size w W) => kept_any _ _ f.pend bs W (h2.later hB) (hb.later hB) hz.pend)
  have LA := Lib.hid (fun W v2 (hB : Below w.heap.size w W) (h : SeesP W v2 (keep f.pend bs)) => lay_any A1 f.sure.length c1 f.sure v2 (keep f.pend bs) W rfl hz.sure (h1.later hB) h (fun x hx => hz.places x (keep_mem _ _ x hx)) (by have := keep_len f.pend bs; have := hz.pend; omega))
  have SE := Lib.hid (fun W v2 (hv : valid f = true) (h : SeesV W v2 (bys (crC f bs))) => settled_any v2 (crC f bs) W h (by have := crC_len hv bs; omega))
  unfold FPost at SE
  unfold PPost at KE
  unfold LayPost at LA
  rw [show lay f.sure (keep f.pend bs) = crC f bs from rfl] at LA
  unfold NPost
  generalize f.now.length = n0 at *
  generalize f.sure.length = n1 at *
  obtain ⟨n2, hn2⟩ : ∃ n, n = f.pend.length := ⟨_, rfl⟩
  rw [← hn2] at RI KE ⊢
  generalize bs.length = nb at *
  have HN2 := Lib.hid hn2
  have B0 := Lib.hid ((below_made w (.cells #[.slice A0 n0 c0, .slice A1 n1 c1, .slice A2 n2 c2] 70)).alloc (below_made w _).size (.cells #[.slice none 0 0, .slice none 0 0, .slice none 0 0] 70))
  have X0 := Lib.hid ((FBox.made w (.slice A0 n0 c0) (.slice A1 n1 c1) (.slice A2 n2 c2)).later (below_made _ (.cells #[.slice none 0 0, .slice none 0 0, .slice none 0 0] 70)))
  have Y0 := Lib.hid (show FBox _ (w.heap.size + 1) _ _ _ by simpa using FBox.made (w.alloc (.cells #[.slice A0 n0 c0, .slice A1 n1 c1, .slice A2 n2 c2] 70)) (.slice none 0 0) (.slice none 0 0) (.slice none 0 0))
  clear hs h0 h1 h2 hz hb hn2
  have VN := Lib.hid (fun h => crF_no (f := f) h bs)
  have VO := Lib.hid (fun h => crF_ok (f := f) h bs)
  have WN := Lib.hid (fun h => crN_no (f := f) h)
  have WO := Lib.hid (fun h => crN_ok (f := f) h)
  generalize crC f bs = C at *
  go_enter Tryz.func46, Tryz.ntmps46
  go_wp2_with fail
  refine (RI.out _ B0.out).mono ?_
  rintro e w1 ⟨rfl, hb1⟩
  have B1 := Lib.hid (B0.out.trans (hb1.mono B0.out.size))
  have X1 := Lib.hid (X0.out.later hb1)
  have Y1 := Lib.hid (Y0.out.later hb1)
  clear hb1 X0 Y0 B0
  cases hv : valid f with
  | false =>
    have HF := Lib.hid (VN.out hv)
    have HE := Lib.hid (WN.out hv)
    obtain ⟨y0, y1, y2⟩ := Y1.out.cells
    obtain ⟨z0, z1, z2⟩ := Y1.out.soft
    have YF := Lib.hid (Y1.out.set (.slice none 0 0) (.slice none 0 0) (.slice none 0 0))
    have BF := Lib.hid (fset_below B1.out (show w.heap.size ≤ w.heap.size + 1 by omega) (.slice none 0 0) (.slice none 0 0) (.slice none 0 0))
    clear hv SE KE LA VN VO WN WO
    go_wp2_with fail
    change bodyPost _ _ _ _ _ (fset w1 (w.heap.size + 1) (.slice none 0 0) (.slice none 0 0) (.slice none 0 0))
    generalize fset w1 (w.heap.size + 1) (.slice none 0 0) (.slice none 0 0) (.slice none 0 0) = w9 at *
    obtain ⟨y0, y1, y2⟩ := YF.out.cells
    exact bodyPost_ret (by simp [results, Tryz.results46, go_sem, y0, y1, y2]; rfl) rfl ⟨_, by rw [HE.out]; rfl, by rw [HF.out]; exact SeesF.zero _, BF.out⟩
  | true =>
    have HF := Lib.hid (VO.out hv)
    have HE := Lib.hid (show (n2 : Int) = (crN f : Int) by rw [WO.out hv, ← HN2.out])
    have SE := Lib.hid (fun W v2 h => SE.out W v2 hv h)
    obtain ⟨x0, x1, x2⟩ := X1.out.cells
    have BD := Lib.hid B1.out.drew
    have XD := Lib.hid (X1.out.later (below_drew _ (Nat.le_refl _)))
    have YD := Lib.hid (Y1.out.later (below_drew _ (Nat.le_refl _)))
    have hnq : w.heap.size ≠ w.heap.size + 1 := by omega
    clear hv VN VO WN WO
    go_wp2_with fail
    go_region_held3 (fun W => W.cell? ⟨w.heap.size, 0, none⟩ = some (.slice A0 n0 c0) ∧ W.cell? ⟨w.heap.size, 1, none⟩ = some (.slice A1 n1 c1) ∧ W.cell? ⟨w.heap.size, 2, none⟩ = some (.slice A2 n2 c2))
      (first | exact XD.out.cells | exact hX3.cells | exact hX4.cells | exact hX5.cells | exact ⟨(fset_cell hnq _ _ _).trans hX5.cells.1, (fset_cell hnq _ _ _).trans hX5.cells.2.1, (fset_cell hnq _ _ _).trans hX5.cells.2.2⟩)
      (first
        | (go_at_call 77; (with_reducible refine (KE.out _ BD.out).mono ?_); rintro e w3 ⟨v3, rfl, s3, b3⟩; obtain ⟨A3, c3, rfl, -⟩ := id s3; have hX3 := XD.out.later b3; have hB3 := BD.out.trans (b3.mono BD.out.size))
        | (go_at_call 76; (with_reducible refine (LA.out _ _ hB3 s3).mono ?_); rintro e w4 ⟨v4, rfl, s4, b4⟩; obtain ⟨A4, c4, rfl, -⟩ := id s4; have hX4 := hX3.later b4; have hB4 := hB3.trans (b4.mono hB3.size))
        | (go_at_call 75; (with_reducible refine (SE.out _ _ s4).mono ?_); rintro e w5 ⟨v5, rfl, s5, b5⟩; obtain ⟨D0, d0, D1, d1, D2, d2, rfl, -⟩ := s5.slices; have hX5 := hX4.later b5; have hB5 := hB4.trans (b5.mono hB4.size); have hY5 := ((YD.out.later b3).later b4).later b5; obtain ⟨y0, y1, y2⟩ := hY5.cells; obtain ⟨z0, z1, z2⟩ := hY5.soft))
    all_goals
      have YF := Lib.hid (hY5.set (.slice D0 C.length d0) (.slice D1 C.length d1) (.slice D2 0 d2))
      have HF2 := Lib.hid (show SeesF (fset w5 (w.heap.size + 1) (.slice D0 C.length d0) (.slice D1 C.length d1) (.slice D2 0 d2)) (.agg #[.slice D0 C.length d0, .slice D1 C.length d1, .slice D2 0 d2]) (crF f bs) ∧ Below w.heap.size w (fset w5 (w.heap.size + 1) (.slice D0 C.length d0) (.slice D1 C.length d1) (.slice D2 0 d2)) from
        ⟨by rw [HF.out]; exact s5.fset hY5 _ _ _, fset_below hB5 (by omega) _ _ _⟩)
      clear s5 b5 hX5 hB5 hY5 y0 y1 y2 z0 z1 z2 s4 b4 hX4 hB4 s3 b3 hX3 hB3
      go_wp2_with fail
      change bodyPost _ _ _ _ _ (fset w5 (w.heap.size + 1) (.slice D0 C.length d0) (.slice D1 C.length d1) (.slice D2 0 d2))
      generalize fset w5 (w.heap.size + 1) (.slice D0 C.length d0) (.slice D1 C.length d1) (.slice D2 0 d2) = w9 at *
      obtain ⟨y0, y1, y2⟩ := YF.out.cells
      exact bodyPost_ret (by simp [results, Tryz.results46, go_sem, y0, y1, y2]; rfl) rfl ⟨_, by rw [HE.out], HF2.out.1, HF2.out.2⟩
end Go.Proofs.YtaklilhnikmmfaaGreat
