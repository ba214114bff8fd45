/-
  The walk of Do.
-/
import Derived.Test.YtaklilhnikmmfaaGreatDirSync
namespace Go.Proofs.YtaklilhnikmmfaaGreat
open Go.RowKit StrM DirM

theorem doE_no {d : D} (h : valid d = false) (o : O) : doE d o = 10 := by unfold doE; rw [h]; rfl
theorem doE_ok {d : D} (h : valid d = true) (o : O) : doE d o = err d.now o := by unfold doE; rw [h]; rfl
theorem doD_no {d : D} (h : valid d = false) (o : O) : doD d o = zd := by unfold doD; rw [h]; rfl
theorem doD_err {d : D} {o : O} (h : valid d = true) (he : ¬ err d.now o = 0) : doD d o = zd := by unfold doD; rw [h, if_pos rfl, if_neg he]
theorem doD_ok {d : D} {o : O} (h : valid d = true) (he : err d.now o = 0) : doD d o = ⟨done d.now o, d.sure, d.pend ++ [o]⟩ := by unfold doD; rw [h, if_pos rfl, if_pos he]
theorem all_one (l : List E) (o : O) : all l [o] = if err l o = 0 then (done l o, 0) else ([], err l o) := rfl

/-- The row of operations is copied, and what was copied ahead of it stays. -/
def Mid6 (w2 : World) (B : Nat) (vS v4 : Value) (d : D) (W : World) : Prop :=
  W.ownsRow B 65 4 v4 d.pend.length (ocs d.pend) ∧ B ≤ W.heap.size ∧ w2.heap.size ≤ B ∧ (∀ W', Below B W W' → SeesE W' vS d.sure) ∧ Below w2.heap.size w2 W
theorem Mid6.done {w2 w6 : World} {B : Nat} {vS v4 v6 : Value} {d : D} {o : O} {W W1 : World} (h : Mid6 w2 B vS v4 d W) (h1 : Below B W W1) (ho : w6.ownsRow B 65 4 v6 (d.pend.length + 1) (ocs d.pend ++ oc o)) (hb : Below B W1 w6) :
    SeesO w6 v6 (d.pend ++ [o]) ∧ SeesE w6 vS d.sure ∧ Below w2.heap.size w2 w6 := by
  refine ⟨?_, h.2.2.2.1 _ (h1.trans hb), h.2.2.2.2.trans ((h1.trans hb).mono h.2.2.1)⟩
  have : SeesN w6 v6 (d.pend.length + 1) (ocs d.pend ++ oc o) := SeesN.of_own ho
  unfold SeesO
  rw [List.length_append, ocs_add]
  exact this

set_option maxHeartbeats 8000000 in
set_option maxRecDepth 100000 in
theorem ddo_any (v : Value) (d : D) (o : O) (w : World) (hs : SeesD w v d) (hp : d.pend.length ≤ 999999) :
    Calls Tryz.prog 48 #[v, .agg #[.int .i64 o.kind, .string o.name, .string o.dst, .int .i64 o.node]] w (DEPost (doD d o) (doE d o) w) := by
  obtain ⟨A0, c0, A1, c1, A2, c2, rfl, h0, h1, h2⟩ := hs.slices
  have RI := Lib.hid (fun W (hb : Below w.heap.size w W) => dright_any _ d W (hs.later hb) (by omega))
  have PE := Lib.hid (fun W u (hb : Below w.heap.size w W) (hu : SeesO W u [o]) (hv : valid d = true) => performed_any _ _ d.now [o] W (h0.later hb) hu (valid_now hv) (by simp))
  have CE := Lib.hid (fun W (hb : Below w.heap.size w W) (hv : valid d = true) => cloneE_any _ d.sure W (h1.later hb) (by have := (valid_iff.1 hv).1.few; omega))
  have CO := Lib.hid (fun W (hb : Below w.heap.size w W) => cloneO_any _ d.pend W (h2.later hb) (by omega))
  unfold PerfPost at PE
  rw [all_one] at PE
  unfold CloneE at CE
  unfold CloneO at CO
  unfold DEPost
  have VN := Lib.hid (fun h => doD_no (d := d) h o)
  have VE := Lib.hid (fun h => doD_err (d := d) (o := o) h)
  have VO := Lib.hid (fun h => doD_ok (d := d) (o := o) h)
  have WN := Lib.hid (fun h => doE_no (d := d) h o)
  have WO := Lib.hid (fun h => doE_ok (d := d) h o)
  have SO := Lib.hid (fun W : World => SeesN.one W 65 (oc o))
  have HPL := Lib.hid hp
  obtain ⟨n0, e0⟩ : ∃ n, n = d.now.length := ⟨_, rfl⟩
  obtain ⟨n1, e1⟩ : ∃ n, n = d.sure.length := ⟨_, rfl⟩
  obtain ⟨n2, e2⟩ : ∃ n, n = d.pend.length := ⟨_, rfl⟩
  rw [← e0] at RI PE ⊢
  rw [← e1] at RI CE ⊢
  rw [← e2] at RI CO HPL ⊢
  have HN1 := Lib.hid e1
  have HN2 := Lib.hid e2
  have B0 := Lib.hid (((below_made w (.cells #[.slice A0 n0 c0, .slice A1 n1 c1, .slice A2 n2 c2] 32)).alloc (below_made w _).size (.cells #[.int .i64 o.kind, .string o.name, .string o.dst, .int .i64 o.node] 65)).alloc ((below_made w _).alloc (below_made w _).size _).size (.cells #[.slice none 0 0, .slice none 0 0, .slice none 0 0] 32))
  have X0 := Lib.hid (((DBox.made w (.slice A0 n0 c0) (.slice A1 n1 c1) (.slice A2 n2 c2)).later (below_made _ (.cells #[.int .i64 o.kind, .string o.name, .string o.dst, .int .i64 o.node] 65))).later (below_made _ (.cells #[.slice none 0 0, .slice none 0 0, .slice none 0 0] 32)))
  have P0 := Lib.hid (show OBox _ (w.heap.size + 1) _ by simpa using (OBox.made (w.alloc (.cells #[.slice A0 n0 c0, .slice A1 n1 c1, .slice A2 n2 c2] 32)) o).later (below_made _ (.cells #[.slice none 0 0, .slice none 0 0, .slice none 0 0] 32)))
  have Y0 := Lib.hid (show DBox _ (w.heap.size + 1 + 1) _ _ _ by simpa using DBox.made ((w.alloc (.cells #[.slice A0 n0 c0, .slice A1 n1 c1, .slice A2 n2 c2] 32)).alloc (.cells #[.int .i64 o.kind, .string o.name, .string o.dst, .int .i64 o.node] 65)) (.slice none 0 0) (.slice none 0 0) (.slice none 0 0))
  clear hs h0 h1 h2 hp e0 e1 e2
  obtain ⟨er, her⟩ : ∃ er, er = err d.now o := ⟨_, rfl⟩
  rw [← her] at PE VE VO WO
  have HER := Lib.hid her
  have HO := Lib.hid (show o = ⟨o.kind, o.name, o.dst, o.node⟩ from rfl)
  obtain ⟨nx, hnx⟩ : ∃ nx, nx = done d.now o := ⟨_, rfl⟩
  rw [← hnx] at PE VO
  have dl : d.pend ++ [o] = d.pend ++ [o] := rfl
  obtain ⟨de, hde⟩ : ∃ de, de = doD d o := ⟨_, rfl⟩
  obtain ⟨ee, hee⟩ : ∃ ee, ee = doE d o := ⟨_, rfl⟩
  rw [← hde] at VN VE VO ⊢
  rw [← hee] at WN WO ⊢
  have OC := Lib.hid (show oc o = [.int .i64 o.kind, .string o.name, .string o.dst, .int .i64 o.node] from rfl)
  obtain ⟨lp, hlp⟩ : ∃ lp, lp = d.pend ++ [o] := ⟨_, rfl⟩
  rw [← hlp] at VO
  have HLP := Lib.hid hlp
  obtain ⟨us, hus⟩ : ∃ us, us = oc o := ⟨_, rfl⟩
  have HUS := Lib.hid hus
  rw [← hus] at SO OC
  have US4 := Lib.hid (show us.length = 4 by rw [hus]; rfl)
  have US1 := Lib.hid (show ∀ c ∈ us, c.oneCell' = true by rw [hus]; exact oc_ones o)
  have PF := Lib.hid (fun W u (hb : Below w.heap.size w W) (hu : SeesN W u 1 us) hv => PE.out W u hb (show SeesN W u 1 (ocs [o]) by rw [ocs_one, ← hus]; exact hu) hv)
  clear her hnx dl hde hee hlp hus PE
  obtain ⟨kd, nm, ds, nd⟩ := o
  simp only at B0 X0 P0 Y0 OC ⊢
  have UA := OC.out
  go_enter Tryz.func48, Tryz.ntmps48
  go_wp2_with fail
  refine (RI.out _ B0.out).mono ?_
  rintro e w1 ⟨rfl, hb1⟩
  have B1 := Lib.hid (B0.out.trans (hb1.mono B0.out.size))
  have X1 := Lib.hid (X0.out.later hb1)
  have P1 := Lib.hid (P0.out.later hb1)
  have Y1 := Lib.hid (Y0.out.later hb1)
  clear hb1 X0 Y0 B0 P0 RI
  cases hv : valid d with
  | false =>
    have HF := Lib.hid (VN.out hv)
    have HE := Lib.hid (WN.out hv)
    obtain ⟨y0, y1, y2⟩ := Y1.out.cells
    obtain ⟨z0, z1, z2⟩ := Y1.out.soft
    have YF := Lib.hid (Y1.out.set (.slice none 0 0) (.slice none 0 0) (.slice none 0 0))
    have BF := Lib.hid (dset_below B1.out (show w.heap.size ≤ w.heap.size + 1 + 1 by omega) (.slice none 0 0) (.slice none 0 0) (.slice none 0 0))
    clear hv CE CO PF VN VO VE WN WO UA
    go_wp2_with fail
    change bodyPost _ _ _ _ _ (dset w1 (w.heap.size + 1 + 1) (.slice none 0 0) (.slice none 0 0) (.slice none 0 0))
    generalize dset w1 (w.heap.size + 1 + 1) (.slice none 0 0) (.slice none 0 0) (.slice none 0 0) = w9 at *
    obtain ⟨y0, y1, y2⟩ := YF.out.cells
    exact bodyPost_ret (by simp [results, Tryz.results48, go_sem, y0, y1, y2]; rfl) rfl ⟨_, by rw [HE.out], by rw [HF.out]; exact SeesD.zero _, BF.out⟩
  | true =>
    have HE := Lib.hid (WO.out hv)
    have CF := Lib.hid (fun W hb => CE.out W hb hv)
    have VF := Lib.hid (VE.out hv)
    have VP := Lib.hid (VO.out hv)
    clear CE VE VO
    have PX := Lib.hid (PF.out (w1.alloc (.cells #[.int .i64 kd, .string nm, .string ds, .int .i64 nd] 65)) (.slice (some ⟨w1.heap.size, 0, none⟩) 1 1) (B1.out.alloc B1.out.size _) (by have h := SO.out w1; rw [UA] at h ⊢; exact h) hv)
    have XA := Lib.hid (X1.out.later (below_made w1 (.cells #[.int .i64 kd, .string nm, .string ds, .int .i64 nd] 65)))
    have PA := Lib.hid (P1.out.later (below_made w1 (.cells #[.int .i64 kd, .string nm, .string ds, .int .i64 nd] 65)))
    have YA := Lib.hid (Y1.out.later (below_made w1 (.cells #[.int .i64 kd, .string nm, .string ds, .int .i64 nd] 65)))
    have BA := Lib.hid (B1.out.alloc B1.out.size (.cells #[.int .i64 kd, .string nm, .string ds, .int .i64 nd] 65))
    obtain ⟨x0, x1, x2⟩ := X1.out.cells
    obtain ⟨p0, p1, p2, p3⟩ := P1.out.cells
    simp only at p0 p1 p2 p3
    clear hv VN WN WO PF UA
    go_wp2_with fail
    refine PX.out.mono ?_
    rintro e w2 ⟨v2, rfl, ho2, hb2⟩
    have B2 := Lib.hid (BA.out.trans (hb2.mono BA.out.size))
    have X2 := Lib.hid (XA.out.later hb2)
    have P2 := Lib.hid (PA.out.later hb2)
    have Y2 := Lib.hid (YA.out.later hb2)
    clear hb2 X1 P1 Y1 B1 XA PA YA BA x0 x1 x2 p0 p1 p2 p3 PX
    by_cases h0 : er = 0
    · subst h0
      rw [if_pos rfl] at ho2 ⊢
      have S2 := Lib.hid (SeesE.of_own ho2)
      have HF := Lib.hid (VP.out rfl)
      obtain ⟨m0, hm0⟩ : ∃ m, m = nx.length := ⟨_, rfl⟩
      obtain ⟨D0, d0, rfl, -⟩ := SeesN.form S2.out
      rw [← hm0] at S2 ⊢
      clear VF VP ho2 hm0
      have HB2 := Lib.hid (fun W (hb : Below w2.heap.size w2 W) => B2.out.trans (hb.mono B2.out.size))
      have CX := Lib.hid (show ∀ W (hb : Below w2.heap.size w2 W), Calls Tryz.prog 78 #[.slice A1 n1 c1] W fun e w' => ∃ A c, e = .returned (.slice A n1 c) ∧ SeesE w' (.slice A n1 c) d.sure ∧ Below W.heap.size W w' ∧ Below w2.heap.size w2 w' from fun W hb => by
        refine (CF.out W (HB2.out W hb)).mono ?_
        rintro e w' ⟨v, he, ho, hb'⟩
        have hS := SeesE.of_own ho
        obtain ⟨A, c, rfl, -⟩ := SeesN.form hS
        rw [← HN1.out] at he hS
        exact ⟨A, c, he, hS, hb', hb.trans (hb'.mono hb.size)⟩)
      have CY := Lib.hid (show ∀ W vS (hb : Below w2.heap.size w2 W) (hS : SeesE W vS d.sure), Calls Tryz.prog 79 #[.slice A2 n2 c2] W fun e w' => ∃ v4, e = .returned v4 ∧ Below W.heap.size W w' ∧ Mid6 w2 W.heap.size vS v4 d w' from fun W vS hb hS => by
        refine (CO.out W (HB2.out W hb)).mono ?_
        rintro e w' ⟨v, he, ho, hb'⟩
        exact ⟨v, he, hb', ho, hb'.size, hb.size, fun W' hW' => hS.later (hb'.trans hW'), hb.trans (hb'.mono hb.size)⟩)
      have KD : Below w2.heap.size w2 w2.drew := below_drew _ (Nat.le_refl _)
      have KA : Below w2.heap.size w2 (w2.alloc (.cells #[.int .i64 kd, .string nm, .string ds, .int .i64 nd] 65)).drew := (below_made w2 _).drew
      have SA := Lib.hid (show SeesN (w2.alloc (.cells #[.int .i64 kd, .string nm, .string ds, .int .i64 nd] 65)).drew (.slice (some ⟨w2.heap.size, 0, none⟩) 1 1) 1 us from by
        have h := SO.out w2
        rw [OC.out] at h ⊢
        exact SeesN.later h (below_drew _ (Nat.le_refl _)))
      have SB := Lib.hid (show ∀ W : World, SeesN (W.alloc (.cells #[.int .i64 kd, .string nm, .string ds, .int .i64 nd] 65)) (.slice (some ⟨W.heap.size, 0, none⟩) 1 1) 1 us from fun W => by
        have h := SO.out W
        rw [OC.out] at h ⊢
        exact h)
      have HC := Lib.hid (show ∀ W, Below w2.heap.size w2 W → (W.cell? ⟨w.heap.size, 1, none⟩ = some (.slice A1 n1 c1) ∧ W.cell? ⟨w.heap.size, 2, none⟩ = some (.slice A2 n2 c2)) ∧ W.cell? ⟨w.heap.size + 1, 0, none⟩ = some (.int .i64 kd) ∧ W.cell? ⟨w.heap.size + 1, 1, none⟩ = some (.string nm) ∧ W.cell? ⟨w.heap.size + 1, 2, none⟩ = some (.string ds) ∧ W.cell? ⟨w.heap.size + 1, 3, none⟩ = some (.int .i64 nd) from
        fun W hb => ⟨(X2.out.later hb).cells.2, (P2.out.later hb).cells⟩)
      have N1 := Lib.hid (show (d.pend.length + 1) * 48 ≤ 140737488355328 by have := HPL.out; rw [← HN2.out]; omega)
      have N2 := Lib.hid (show d.pend.length + 1 ≤ maxLen by have := HPL.out; rw [← HN2.out]; unfold maxLen; omega)
      have hq1 : w.heap.size ≠ w.heap.size + 1 + 1 := by omega
      have hq2 : w.heap.size + 1 ≠ w.heap.size + 1 + 1 := by omega
      obtain ⟨⟨x1, x2⟩, p0, p1, p2, p3⟩ := HC.out _ (Below.refl _ _)
      clear CF CO
      go_wp2_with fail
      go_region_held3 (fun W => W.cell? ⟨w.heap.size, 1, none⟩ = some (.slice A1 n1 c1) ∧ W.cell? ⟨w.heap.size, 2, none⟩ = some (.slice A2 n2 c2) ∧ W.cell? ⟨w.heap.size + 1, 0, none⟩ = some (.int .i64 kd) ∧ W.cell? ⟨w.heap.size + 1, 1, none⟩ = some (.string nm) ∧ W.cell? ⟨w.heap.size + 1, 2, none⟩ = some (.string ds) ∧ W.cell? ⟨w.heap.size + 1, 3, none⟩ = some (.int .i64 nd))
        (first | exact and_assoc.1 (HC.out _ KD) | exact and_assoc.1 (HC.out _ KA) | exact and_assoc.1 (HC.out _ k6) | exact and_assoc.1 (HC.out _ m4.2.2.2.2) | exact and_assoc.1 (HC.out _ (m4.2.2.2.2.alloc m4.2.2.2.2.size _)) | exact and_assoc.1 (HC.out _ k3) | exact and_assoc.1 (HC.out _ (k3.alloc k3.size _)) | exact ⟨(dset_cell hq1 _ _ _).trans (HC.out _ k6).1.1, (dset_cell hq1 _ _ _).trans (HC.out _ k6).1.2, (dset_cell hq2 _ _ _).trans (HC.out _ k6).2.1, (dset_cell hq2 _ _ _).trans (HC.out _ k6).2.2.1, (dset_cell hq2 _ _ _).trans (HC.out _ k6).2.2.2.1, (dset_cell hq2 _ _ _).trans (HC.out _ k6).2.2.2.2⟩)
        (first
          | (go_at_call 78; (with_reducible refine (CX.out _ (by assumption)).mono ?_); rintro e w3 ⟨A3, c3, rfl, s3, b3, k3⟩)
          | (go_at_call 79; (first | (with_reducible refine (CY.out _ _ k3 s3).mono ?_) | (with_reducible refine (CY.out _ _ (k3.alloc k3.size _) (s3.later (below_made _ _))).mono ?_)); rintro e w4 ⟨v4, rfl, b4, m4⟩)
          | (refine step_append_n1 nOp rfl (.tmp 30) (.tmp 32) rfl _ v4 d.pend.length (ocs d.pend) (by simp [Act.eval]) m4.1 us _ (by simp [Act.eval]) ((SA.out.later b3).later b4) US4.out US1.out N1.out N2.out m4.2.1 ?_; intro v6 w6 o6 b6 st6; have hX := m4.done (o := ⟨kd, nm, ds, nd⟩) (Below.refl _ _) (by rw [← HUS.out]; exact o6) b6; have k6 := hX.2.2; obtain ⟨A6, c6, rfl, -⟩ := SeesN.form (SeesN.of_own o6); have hY6 := Y2.out.later k6; obtain ⟨y0, y1, y2⟩ := hY6.cells; obtain ⟨z0, z1, z2⟩ := hY6.soft)
          | (refine step_append_n1 nOp rfl (.tmp 30) (.tmp 32) rfl _ v4 d.pend.length (ocs d.pend) (by simp [Act.eval]) m4.1 us _ (by simp [Act.eval]) ((SB.out w3).later b4) US4.out US1.out N1.out N2.out m4.2.1 ?_; intro v6 w6 o6 b6 st6; have hX := m4.done (o := ⟨kd, nm, ds, nd⟩) (Below.refl _ _) (by rw [← HUS.out]; exact o6) b6; have k6 := hX.2.2; obtain ⟨A6, c6, rfl, -⟩ := SeesN.form (SeesN.of_own o6); have hY6 := Y2.out.later k6; obtain ⟨y0, y1, y2⟩ := hY6.cells; obtain ⟨z0, z1, z2⟩ := hY6.soft)
          | (refine step_append_n1 nOp rfl (.tmp 30) (.tmp 32) rfl _ v4 d.pend.length (ocs d.pend) (by simp [Act.eval]) (m4.1.alloc _) us _ (by simp [Act.eval]) (SB.out w4) US4.out US1.out N1.out N2.out (by have := m4.2.1; simp; omega) ?_; intro v6 w6 o6 b6 st6; have hX := m4.done (o := ⟨kd, nm, ds, nd⟩) ((Below.refl _ _).alloc m4.2.1 _) (by rw [← HUS.out]; exact o6) b6; have k6 := hX.2.2; obtain ⟨A6, c6, rfl, -⟩ := SeesN.form (SeesN.of_own o6); have hY6 := Y2.out.later k6; obtain ⟨y0, y1, y2⟩ := hY6.cells; obtain ⟨z0, z1, z2⟩ := hY6.soft))
      all_goals
        have HF2 := Lib.hid (show SeesD (dset w6 (w.heap.size + 1 + 1) (.slice D0 m0 d0) (.slice A3 n1 c3) (.slice A6 (d.pend.length + 1) c6)) (.agg #[.slice D0 m0 d0, .slice A3 n1 c3, .slice A6 (d.pend.length + 1) c6]) de ∧ Below w.heap.size w (dset w6 (w.heap.size + 1 + 1) (.slice D0 m0 d0) (.slice A3 n1 c3) (.slice A6 (d.pend.length + 1) c6)) from
          ⟨by rw [HF.out, HLP.out]; exact ⟨_, _, _, rfl, (S2.out.later k6).dset hY6 _ _ _, hX.2.1.dset hY6 _ _ _, hX.1.dset hY6 _ _ _⟩, dset_below (B2.out.trans (k6.mono B2.out.size)) (by omega) _ _ _⟩)
        have YF := Lib.hid (hY6.set (.slice D0 m0 d0) (.slice A3 n1 c3) (.slice A6 (d.pend.length + 1) c6))
        clear hX k6 hY6 y0 y1 y2 z0 z1 z2 o6 b6 st6 m4 b4 s3 b3 k3
        go_wp2_with fail
        change bodyPost _ _ _ _ _ (dset w6 (w.heap.size + 1 + 1) (.slice D0 m0 d0) (.slice A3 n1 c3) (.slice A6 (d.pend.length + 1) c6))
        generalize dset w6 (w.heap.size + 1 + 1) (.slice D0 m0 d0) (.slice A3 n1 c3) (.slice A6 (d.pend.length + 1) c6) = w9 at *
        obtain ⟨y0, y1, y2⟩ := YF.out.cells
        exact bodyPost_ret (by simp [results, Tryz.results48, go_sem, y0, y1, y2]; rfl) rfl ⟨_, by rw [HE.out], HF2.out.1, HF2.out.2⟩
    · rw [if_neg h0] at ho2 ⊢
      have HF := Lib.hid (VF.out h0)
      have d1 : (er == 0) = false := by simpa using h0
      obtain ⟨y0, y1, y2⟩ := Y2.out.cells
      obtain ⟨z0, z1, z2⟩ := Y2.out.soft
      have YF := Lib.hid (Y2.out.set (.slice none 0 0) (.slice none 0 0) (.slice none 0 0))
      have BF := Lib.hid (dset_below B2.out (show w.heap.size ≤ w.heap.size + 1 + 1 by omega) (.slice none 0 0) (.slice none 0 0) (.slice none 0 0))
      clear VF VP CF CO ho2 h0
      go_wp2_with fail
      change bodyPost _ _ _ _ _ (dset w2 (w.heap.size + 1 + 1) (.slice none 0 0) (.slice none 0 0) (.slice none 0 0))
      generalize dset w2 (w.heap.size + 1 + 1) (.slice none 0 0) (.slice none 0 0) (.slice none 0 0) = w9 at *
      obtain ⟨y0, y1, y2⟩ := YF.out.cells
      exact bodyPost_ret (by simp [results, Tryz.results48, go_sem, y0, y1, y2]; rfl) rfl ⟨_, by rw [HE.out], by rw [HF.out]; exact SeesD.zero _, BF.out⟩
end Go.Proofs.YtaklilhnikmmfaaGreat
