/-
  The walk of the reference's Do.
-/
import Derived.Test.YtbpdlfcghlopmaaDirRefSync
namespace Go.Proofs.Ytbpdlfcghlopmaa
open Go.RowKit StrM DirM

theorem SeesN.of_heap {w : World} {q : Nat} {e : TypeId} {us : List Value} (h : w.heap[q]? = some (.cells us.toArray e (0, 0))) : SeesN w (.slice (some ⟨q, 0, none⟩) 1 1) 1 us := by
  refine ⟨_, 1, rfl, Nat.le_refl _, .inr ⟨q, 0, rfl, (Array.getElem?_eq_some_iff.1 h).1, fun k c hk => ?_⟩⟩
  rw [cell_of_row w q _ _ _ (0, 0) h]
  simpa using hk

/-- The operations behind the append of one more. -/
theorem pend_done {w6 : World} {B : Nat} {v6 : Value} {l : List O} {o : O} (ho : w6.ownsRow B 27 4 v6 (l.length + 1) (ocs l ++ oc o)) : SeesO w6 v6 (l ++ [o]) := by
  have : SeesN w6 v6 (l.length + 1) (ocs l ++ oc o) := SeesN.of_own ho
  unfold SeesO
  rw [List.length_append, ocs_add]
  exact this

set_option maxHeartbeats 8000000 in
set_option maxRecDepth 100000 in
theorem rddo_any (v : Value) (d : D) (o : O) (w : World) (hs : SeesD w v d) (hz : Sz d) (hp : d.pend.length ≤ 999999) (ho : OkO o) :
    Calls Try.prog 8 #[v, .agg #[.int .i64 o.kind, .string o.name, .string o.dst, .int .i64 o.node]] w (DEPost (doD d o) (doE d o) w) := by
  obtain ⟨A0, c0, A1, c1, A2, c2, rfl, h0, h1, h2⟩ := hs.slices
  have RI := Lib.hid (fun W (hb : Below w.heap.size w W) => rdright_any _ d W (hs.later hb) hz)
  have PE := Lib.hid (fun W (hb : Below w.heap.size w W) (hv : valid d = true) => rdone_any _ d.now o W (h0.later hb) (by have := (valid_now hv).few; omega) ho)
  have S1 := Lib.hid (fun W (hb : Below w.heap.size w W) => h1.later hb)
  have S2P := Lib.hid (fun W (hb : Below w.heap.size w W) => h2.later hb)
  unfold RDPost at PE
  unfold DEPost
  have VN := Lib.hid (fun h => doD_no (d := d) h o)
  have VE := Lib.hid (fun h => doD_err (d := d) (o := o) h)
  have VO := Lib.hid (fun h => doD_ok (d := d) (o := o) h)
  have WN := Lib.hid (fun h => doE_no (d := d) h o)
  have WO := Lib.hid (fun h => doE_ok (d := d) h o)
  have HPL := Lib.hid hp
  obtain ⟨n0, e0⟩ : ∃ n, n = d.now.length := ⟨_, rfl⟩
  obtain ⟨n1, e1⟩ : ∃ n, n = d.sure.length := ⟨_, rfl⟩
  obtain ⟨n2, e2⟩ : ∃ n, n = d.pend.length := ⟨_, rfl⟩
  rw [← e0] at RI PE ⊢
  rw [← e1] at RI S1 ⊢
  rw [← e2] at RI S2P HPL ⊢
  have HN1 := Lib.hid e1
  have HN2 := Lib.hid e2
  have B0 := Lib.hid (((below_made w (.cells #[.slice A0 n0 c0, .slice A1 n1 c1, .slice A2 n2 c2] 25)).alloc (below_made w _).size (.cells #[.int .i64 o.kind, .string o.name, .string o.dst, .int .i64 o.node] 27)).alloc ((below_made w _).alloc (below_made w _).size _).size (.cells #[.slice none 0 0, .slice none 0 0, .slice none 0 0] 25))
  have X0 := Lib.hid (((DBox.made w (.slice A0 n0 c0) (.slice A1 n1 c1) (.slice A2 n2 c2)).later (below_made _ (.cells #[.int .i64 o.kind, .string o.name, .string o.dst, .int .i64 o.node] 27))).later (below_made _ (.cells #[.slice none 0 0, .slice none 0 0, .slice none 0 0] 25)))
  have P0 := Lib.hid (show OBox _ (w.heap.size + 1) _ by simpa using (OBox.made (w.alloc (.cells #[.slice A0 n0 c0, .slice A1 n1 c1, .slice A2 n2 c2] 25)) o).later (below_made _ (.cells #[.slice none 0 0, .slice none 0 0, .slice none 0 0] 25)))
  have Y0 := Lib.hid (show DBox _ (w.heap.size + 1 + 1) _ _ _ by simpa using DBox.made ((w.alloc (.cells #[.slice A0 n0 c0, .slice A1 n1 c1, .slice A2 n2 c2] 25)).alloc (.cells #[.int .i64 o.kind, .string o.name, .string o.dst, .int .i64 o.node] 27)) (.slice none 0 0) (.slice none 0 0) (.slice none 0 0))
  clear hs h0 h1 h2 hp e0 e1 e2 hz ho
  obtain ⟨er, her⟩ : ∃ er, er = err d.now o := ⟨_, rfl⟩
  rw [← her] at PE VE VO WO
  have HER := Lib.hid her
  have HO := Lib.hid (show o = ⟨o.kind, o.name, o.dst, o.node⟩ from rfl)
  obtain ⟨nx, hnx⟩ : ∃ nx, nx = done d.now o := ⟨_, rfl⟩
  rw [← hnx] at PE VO
  have dl : d.pend ++ [o] = d.pend ++ [o] := rfl
  obtain ⟨de, hde⟩ : ∃ de, de = doD d o := ⟨_, rfl⟩
  obtain ⟨ee, hee⟩ : ∃ ee, ee = doE d o := ⟨_, rfl⟩
  rw [← hde] at VN VE VO ⊢
  rw [← hee] at WN WO ⊢
  have OC := Lib.hid (show oc o = [.int .i64 o.kind, .string o.name, .string o.dst, .int .i64 o.node] from rfl)
  obtain ⟨lp, hlp⟩ : ∃ lp, lp = d.pend ++ [o] := ⟨_, rfl⟩
  rw [← hlp] at VO
  have HLP := Lib.hid hlp
  obtain ⟨us, hus⟩ : ∃ us, us = oc o := ⟨_, rfl⟩
  have HUS := Lib.hid hus
  rw [← hus] at OC
  have US4 := Lib.hid (show us.length = 4 by rw [hus]; rfl)
  have US1 := Lib.hid (show ∀ c ∈ us, c.oneCell' = true by rw [hus]; exact oc_ones o)
  clear her hnx dl hde hee hlp hus
  obtain ⟨kd, nm, ds, nd⟩ := o
  simp only at B0 X0 P0 Y0 OC ⊢
  go_enter Try.func8, Try.ntmps8
  go_wp2_with fail
  refine (RI.out _ B0.out).mono ?_
  rintro e w1 ⟨rfl, hb1⟩
  have B1 := Lib.hid (B0.out.trans (hb1.mono B0.out.size))
  have X1 := Lib.hid (X0.out.later hb1)
  have P1 := Lib.hid (P0.out.later hb1)
  have Y1 := Lib.hid (Y0.out.later hb1)
  clear hb1 X0 Y0 B0 P0 RI
  cases hv : valid d with
  | false =>
    have HF := Lib.hid (VN.out hv)
    have HE := Lib.hid (WN.out hv)
    obtain ⟨y0, y1, y2⟩ := Y1.out.cells
    obtain ⟨z0, z1, z2⟩ := Y1.out.soft
    have YF := Lib.hid (Y1.out.set (.slice none 0 0) (.slice none 0 0) (.slice none 0 0))
    have BF := Lib.hid (dset_below B1.out (show w.heap.size ≤ w.heap.size + 1 + 1 by omega) (.slice none 0 0) (.slice none 0 0) (.slice none 0 0))
    clear hv PE VN VO VE WN WO
    go_wp2_with fail
    change bodyPost _ _ _ _ _ (dset w1 (w.heap.size + 1 + 1) (.slice none 0 0) (.slice none 0 0) (.slice none 0 0))
    generalize dset w1 (w.heap.size + 1 + 1) (.slice none 0 0) (.slice none 0 0) (.slice none 0 0) = w9 at *
    obtain ⟨y0, y1, y2⟩ := YF.out.cells
    exact bodyPost_ret (by simp [results, Try.results8, go_sem, y0, y1, y2]; rfl) rfl ⟨_, by rw [HE.out], by rw [HF.out]; exact SeesD.zero _, BF.out⟩
  | true =>
    have HE := Lib.hid (WO.out hv)
    have VF := Lib.hid (VE.out hv)
    have VP := Lib.hid (VO.out hv)
    have PX := Lib.hid (PE.out w1 B1.out hv)
    obtain ⟨res, hres⟩ : ∃ res, res = if er = 0 then nx else [] := ⟨_, rfl⟩
    rw [← hres] at PX
    have RO := Lib.hid (fun h : er = 0 => show res = nx by rw [hres, if_pos h])
    obtain ⟨x0, x1, x2⟩ := X1.out.cells
    obtain ⟨p0, p1, p2, p3⟩ := P1.out.cells
    simp only at p0 p1 p2 p3
    clear hv VN WN WO PE VE VO hres
    go_wp2_with fail
    refine PX.out.mono ?_
    rintro e w2 ⟨v2, rfl, s2, hb2⟩
    have B2 := Lib.hid (B1.out.trans (hb2.mono B1.out.size))
    have X2 := Lib.hid (X1.out.later hb2)
    have P2 := Lib.hid (P1.out.later hb2)
    have Y2 := Lib.hid (Y1.out.later hb2)
    clear hb2 X1 P1 Y1 B1 x0 x1 x2 p0 p1 p2 p3 PX
    by_cases h0 : er = 0
    · subst h0
      have S2 := Lib.hid (show SeesE w2 v2 nx by rw [← RO.out rfl]; exact s2)
      have HF := Lib.hid (VP.out rfl)
      obtain ⟨m0, hm0⟩ : ∃ m, m = nx.length := ⟨_, rfl⟩
      obtain ⟨D0, d0, rfl, -⟩ := SeesN.form S2.out
      rw [← hm0] at S2 ⊢
      clear VF VP RO s2 hm0
      have HB2 := Lib.hid (fun W (hb : Below w2.heap.size w2 W) => B2.out.trans (hb.mono B2.out.size))
      have KD : Below w2.heap.size w2 w2.drew := below_drew _ (Nat.le_refl _)
      have KO : Below w2.heap.size w2 (w2.alloc (.cells #[.int .i64 kd, .string nm, .string ds, .int .i64 nd] 27)).drew := (below_made w2 _).drew
      have K1 := Lib.hid (show Below w2.heap.size w2 (w2.alloc (.cells #[] 27)).drew from (below_made w2 _).drew)
      have K2 := Lib.hid (show Below w2.heap.size w2 ((w2.alloc (.cells #[] 27)).alloc (.cells #[.int .i64 kd, .string nm, .string ds, .int .i64 nd] 27)).drew from ((below_made w2 _).alloc (below_made w2 _).size _).drew)
      have K3 := Lib.hid (show Below w2.heap.size w2 ((w2.alloc (.cells #[.int .i64 kd, .string nm, .string ds, .int .i64 nd] 27)).alloc (.cells #[] 27)).drew from ((below_made w2 _).alloc (below_made w2 _).size _).drew)
      have E1 := Lib.hid (show ((w2.alloc (.cells #[] 27)).drew).ownsRow w2.heap.size 27 4 (.slice (some ⟨w2.heap.size, 0, none⟩) 0 0) 0 [] from own_belowN (own_madeN w2 _ 4) (below_drew _ (Nat.le_refl _)))
      have E2 := Lib.hid (show (((w2.alloc (.cells #[] 27)).alloc (.cells #[.int .i64 kd, .string nm, .string ds, .int .i64 nd] 27)).drew).ownsRow w2.heap.size 27 4 (.slice (some ⟨w2.heap.size, 0, none⟩) 0 0) 0 [] from own_belowN ((own_madeN w2 _ 4).alloc _) (below_drew _ (Nat.le_refl _)))
      have E3 := Lib.hid (show (((w2.alloc (.cells #[.int .i64 kd, .string nm, .string ds, .int .i64 nd] 27)).alloc (.cells #[] 27)).drew).ownsRow w2.heap.size 27 4 (.slice (some ⟨w2.heap.size + 1, 0, none⟩) 0 0) 0 [] from by
        have h := own_belowN (own_madeN (w2.alloc (.cells #[.int .i64 kd, .string nm, .string ds, .int .i64 nd] 27)) 27 4) (below_drew _ (Nat.le_refl _))
        rw [show (w2.alloc (.cells #[.int .i64 kd, .string nm, .string ds, .int .i64 nd] 27)).heap.size = w2.heap.size + 1 by simp] at h
        exact own_baseN h (by omega))
      have Q2 := Lib.hid (show (((w2.alloc (.cells #[] 27)).alloc (.cells #[.int .i64 kd, .string nm, .string ds, .int .i64 nd] 27)).drew).heap[w2.heap.size + 1]? = some (.cells #[.int .i64 kd, .string nm, .string ds, .int .i64 nd] 27) from by
        have h := heap_alloc_new (w2.alloc (.cells #[] 27)) (.cells #[.int .i64 kd, .string nm, .string ds, .int .i64 nd] 27)
        rw [show (w2.alloc (.cells #[] 27)).heap.size = w2.heap.size + 1 by simp] at h
        exact h)
      have Q3 := Lib.hid (show (((w2.alloc (.cells #[.int .i64 kd, .string nm, .string ds, .int .i64 nd] 27)).alloc (.cells #[] 27)).drew).heap[w2.heap.size]? = some (.cells #[.int .i64 kd, .string nm, .string ds, .int .i64 nd] 27) from by
        have h := heap_alloc_new w2 (.cells #[.int .i64 kd, .string nm, .string ds, .int .i64 nd] 27)
        have h2 := Below.heap_alloc (w2.alloc (.cells #[.int .i64 kd, .string nm, .string ds, .int .i64 nd] 27)) (.cells #[] 27) w2.heap.size (by simp)
        show ((w2.alloc (.cells #[.int .i64 kd, .string nm, .string ds, .int .i64 nd] 27)).alloc (.cells #[] 27)).heap[w2.heap.size]? = _
        rw [h2]
        exact h)
      have SQ := Lib.hid (fun (W : World) (q : Nat) (h : W.heap[q]? = some (.cells #[.int .i64 kd, .string nm, .string ds, .int .i64 nd] 27)) => show SeesN W (.slice (some ⟨q, 0, none⟩) 1 1) 1 us from SeesN.of_heap (e := 27) (by rw [h, OC.out]))
      have HC := Lib.hid (show ∀ W, Below w2.heap.size w2 W → (W.cell? ⟨w.heap.size, 1, none⟩ = some (.slice A1 n1 c1) ∧ W.cell? ⟨w.heap.size, 2, none⟩ = some (.slice A2 n2 c2)) ∧ W.cell? ⟨w.heap.size + 1, 0, none⟩ = some (.int .i64 kd) ∧ W.cell? ⟨w.heap.size + 1, 1, none⟩ = some (.string nm) ∧ W.cell? ⟨w.heap.size + 1, 2, none⟩ = some (.string ds) ∧ W.cell? ⟨w.heap.size + 1, 3, none⟩ = some (.int .i64 nd) from
        fun W hb => ⟨(X2.out.later hb).cells.2, (P2.out.later hb).cells⟩)
      have N1 := Lib.hid (show (d.pend.length + 1) * 48 ≤ 140737488355328 by have := HPL.out; rw [← HN2.out]; omega)
      have N2 := Lib.hid (show d.pend.length + 1 ≤ maxLen by have := HPL.out; rw [← HN2.out]; unfold maxLen; omega)
      have N3 := Lib.hid (show (0 + d.pend.length) * 48 ≤ 140737488355328 by have := N1.out; omega)
      have N4 := Lib.hid (show 0 + d.pend.length ≤ maxLen by have := N2.out; omega)
      have SP := Lib.hid (fun W (hb : Below w2.heap.size w2 W) => show SeesN W (.slice A2 n2 c2) d.pend.length (ocs d.pend) from S2P.out W (HB2.out W hb))
      have OCL := Lib.hid (ocs_len d.pend)
      have hq1 : w.heap.size ≠ w.heap.size + 1 + 1 := by omega
      have hq2 : w.heap.size + 1 ≠ w.heap.size + 1 + 1 := by omega
      obtain ⟨⟨x1, x2⟩, p0, p1, p2, p3⟩ := HC.out _ (Below.refl _ _)
      go_wp2_with fail
      go_region_held3 (fun W => W.cell? ⟨w.heap.size, 1, none⟩ = some (.slice A1 n1 c1) ∧ W.cell? ⟨w.heap.size, 2, none⟩ = some (.slice A2 n2 c2) ∧ W.cell? ⟨w.heap.size + 1, 0, none⟩ = some (.int .i64 kd) ∧ W.cell? ⟨w.heap.size + 1, 1, none⟩ = some (.string nm) ∧ W.cell? ⟨w.heap.size + 1, 2, none⟩ = some (.string ds) ∧ W.cell? ⟨w.heap.size + 1, 3, none⟩ = some (.int .i64 nd))
        (first | exact and_assoc.1 (HC.out _ KD) | exact and_assoc.1 (HC.out _ KO) | exact and_assoc.1 (HC.out _ K1.out) | exact and_assoc.1 (HC.out _ K2.out) | exact and_assoc.1 (HC.out _ K3.out) | exact and_assoc.1 (HC.out _ k6) | exact and_assoc.1 (HC.out _ k5) | exact and_assoc.1 (HC.out _ (k5.alloc k5.size _)) | exact ⟨(dset_cell hq1 _ _ _).trans (HC.out _ k6).1.1, (dset_cell hq1 _ _ _).trans (HC.out _ k6).1.2, (dset_cell hq2 _ _ _).trans (HC.out _ k6).2.1, (dset_cell hq2 _ _ _).trans (HC.out _ k6).2.2.1, (dset_cell hq2 _ _ _).trans (HC.out _ k6).2.2.2.1, (dset_cell hq2 _ _ _).trans (HC.out _ k6).2.2.2.2⟩)
        (first
          | (refine step_append_n nOp rfl (.tmp 26) (.tmp 28) rfl w2.heap.size _ 0 [] (by simp [Act.eval]) E1.out _ d.pend.length (ocs d.pend) (by simp [Act.eval]) (SP.out _ K1.out) OCL.out (ocs_ones _) N3.out N4.out K1.out.size ?_; intro v5 w5 o5 b5 st5; have k5 := K1.out.trans b5; have o5 := (show w5.ownsRow w2.heap.size 27 4 v5 d.pend.length (ocs d.pend) by simpa using o5))
          | (refine step_append_n nOp rfl (.tmp 26) (.tmp 28) rfl w2.heap.size _ 0 [] (by simp [Act.eval]) E2.out _ d.pend.length (ocs d.pend) (by simp [Act.eval]) (SP.out _ K2.out) OCL.out (ocs_ones _) N3.out N4.out K2.out.size ?_; intro v5 w5 o5 b5 st5; have k5 := K2.out.trans b5; have q5 := SQ.out _ _ (st5 _ _ Q2.out (by simp [Value.ownBlock])); have o5 := (show w5.ownsRow w2.heap.size 27 4 v5 d.pend.length (ocs d.pend) by simpa using o5))
          | (refine step_append_n nOp rfl (.tmp 26) (.tmp 28) rfl w2.heap.size _ 0 [] (by simp [Act.eval]) E3.out _ d.pend.length (ocs d.pend) (by simp [Act.eval]) (SP.out _ K3.out) OCL.out (ocs_ones _) N3.out N4.out K3.out.size ?_; intro v5 w5 o5 b5 st5; have k5 := K3.out.trans b5; have q5 := SQ.out _ _ (st5 _ _ Q3.out (by simp [Value.ownBlock])); have o5 := (show w5.ownsRow w2.heap.size 27 4 v5 d.pend.length (ocs d.pend) by simpa using o5))
          | (refine step_append_n1 nOp rfl (.tmp 29) (.tmp 31) rfl w2.heap.size v5 d.pend.length (ocs d.pend) (by simp [Act.eval]) o5 us _ (by simp [Act.eval]) q5 US4.out US1.out N1.out N2.out k5.size ?_; intro v6 w6 o6 b6 st6; have k6 := k5.trans b6; have s6 := pend_done (o := ⟨kd, nm, ds, nd⟩) (by rw [← HUS.out]; exact o6); obtain ⟨A6, c6, rfl, -⟩ := SeesN.form (SeesN.of_own o6); have hY6 := Y2.out.later k6; obtain ⟨y0, y1, y2⟩ := hY6.cells; obtain ⟨z0, z1, z2⟩ := hY6.soft)
          | (refine step_append_n1 nOp rfl (.tmp 29) (.tmp 31) rfl w2.heap.size v5 d.pend.length (ocs d.pend) (by simp [Act.eval]) (o5.alloc _) us _ (by simp [Act.eval]) (SQ.out _ _ (heap_alloc_new w5 _)) US4.out US1.out N1.out N2.out (k5.alloc k5.size _).size ?_; intro v6 w6 o6 b6 st6; have k6 := (k5.alloc k5.size _).trans b6; have s6 := pend_done (o := ⟨kd, nm, ds, nd⟩) (by rw [← HUS.out]; exact o6); obtain ⟨A6, c6, rfl, -⟩ := SeesN.form (SeesN.of_own o6); have hY6 := Y2.out.later k6; obtain ⟨y0, y1, y2⟩ := hY6.cells; obtain ⟨z0, z1, z2⟩ := hY6.soft))
      all_goals
        have HF2 := Lib.hid (show SeesD (dset w6 (w.heap.size + 1 + 1) (.slice D0 m0 d0) (.slice A1 n1 c1) (.slice A6 (d.pend.length + 1) c6)) (.agg #[.slice D0 m0 d0, .slice A1 n1 c1, .slice A6 (d.pend.length + 1) c6]) de ∧ Below w.heap.size w (dset w6 (w.heap.size + 1 + 1) (.slice D0 m0 d0) (.slice A1 n1 c1) (.slice A6 (d.pend.length + 1) c6)) from
          ⟨by rw [HF.out, HLP.out]; exact ⟨_, _, _, rfl, (S2.out.later k6).dset hY6 _ _ _, (S1.out _ (HB2.out _ k6)).dset hY6 _ _ _, s6.dset hY6 _ _ _⟩, dset_below (B2.out.trans (k6.mono B2.out.size)) (by omega) _ _ _⟩)
        have YF := Lib.hid (hY6.set (.slice D0 m0 d0) (.slice A1 n1 c1) (.slice A6 (d.pend.length + 1) c6))
        clear s6 k6 hY6 y0 y1 y2 z0 z1 z2 o6 b6 st6 o5 b5 st5 k5
        go_wp2_with fail
        change bodyPost _ _ _ _ _ (dset w6 (w.heap.size + 1 + 1) (.slice D0 m0 d0) (.slice A1 n1 c1) (.slice A6 (d.pend.length + 1) c6))
        generalize dset w6 (w.heap.size + 1 + 1) (.slice D0 m0 d0) (.slice A1 n1 c1) (.slice A6 (d.pend.length + 1) c6) = w9 at *
        obtain ⟨y0, y1, y2⟩ := YF.out.cells
        exact bodyPost_ret (by simp [results, Try.results8, go_sem, y0, y1, y2]; rfl) rfl ⟨_, by rw [HE.out], HF2.out.1, HF2.out.2⟩
    · have HF := Lib.hid (VF.out h0)
      have d1 : (er == 0) = false := by simpa using h0
      obtain ⟨y0, y1, y2⟩ := Y2.out.cells
      obtain ⟨z0, z1, z2⟩ := Y2.out.soft
      have YF := Lib.hid (Y2.out.set (.slice none 0 0) (.slice none 0 0) (.slice none 0 0))
      have BF := Lib.hid (dset_below B2.out (show w.heap.size ≤ w.heap.size + 1 + 1 by omega) (.slice none 0 0) (.slice none 0 0) (.slice none 0 0))
      clear VF VP RO s2 h0
      go_wp2_with fail
      change bodyPost _ _ _ _ _ (dset w2 (w.heap.size + 1 + 1) (.slice none 0 0) (.slice none 0 0) (.slice none 0 0))
      generalize dset w2 (w.heap.size + 1 + 1) (.slice none 0 0) (.slice none 0 0) (.slice none 0 0) = w9 at *
      clear y0 y1 y2
      obtain ⟨y0, y1, y2⟩ := YF.out.cells
      exact bodyPost_ret (by simp [results, Try.results8, go_sem, y0, y1, y2]; rfl) rfl ⟨_, by rw [HE.out], by rw [HF.out]; exact SeesD.zero _, BF.out⟩
end Go.Proofs.Ytbpdlfcghlopmaa
