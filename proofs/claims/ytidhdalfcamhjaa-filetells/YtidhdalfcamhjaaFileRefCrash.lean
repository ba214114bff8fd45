/-
  The walk of the reference's Crash.
-/
import Derived.Test.YtidhdalfcamhjaaFileSync
namespace Go.Proofs.Ytidhdalfcamhjaa
open Go.RowKit StrM BlockM FileM

set_option maxHeartbeats 4000000 in
set_option maxRecDepth 100000 in
theorem rfcrash_any (v bv : Value) (f : Fl) (bs : List Bool) (w : World) (hs : SeesF w v f) (hz : Sz f) (hb : SeesV w bv (bools bs)) : Calls Try.prog 11 #[v, bv] w (NPost (crF f bs) (crN f : Int) w) := by
  obtain ⟨A0, c0, A1, c1, A2, c2, rfl, h0, h1, h2⟩ := hs.slices
  obtain ⟨Ab, cb, rfl, -⟩ := id hb
  rw [bools_len] at hb ⊢
  have RI := Lib.hid (fun W (hb : Below w.heap.size w W) => rfright_any _ f W (hs.later hb) hz)
  have HBS := Lib.hid (fun W (hB : Below w.heap.size w W) => hb.later hB)
  have S2P := Lib.hid (fun W (hB : Below w.heap.size w W) => h2.later hB)
  have LA := Lib.hid (fun W v2 (hB : Below w.heap.size w W) (h : SeesP W v2 (keep f.pend bs)) => rlay_any A1 f.sure.length c1 f.sure v2 (keep f.pend bs) W rfl hz.sure (h1.later hB) h (fun x hx => hz.places x (keep_mem _ _ x hx)) (by have := keep_len f.pend bs; have := hz.pend; omega))
  unfold LayPost at LA
  rw [show lay f.sure (keep f.pend bs) = crC f bs from rfl] at LA
  unfold NPost
  generalize f.now.length = n0 at *
  generalize f.sure.length = n1 at *
  obtain ⟨n2, hn2⟩ : ∃ n, n = f.pend.length := ⟨_, rfl⟩
  obtain ⟨nb, hnb⟩ : ∃ n, n = bs.length := ⟨_, rfl⟩
  have hm2 : n2 ≤ 900000 := by rw [hn2]; exact hz.pend
  rw [← hn2] at RI S2P ⊢
  rw [← hnb] at HBS ⊢
  have HN2 := Lib.hid hn2
  have HNB := Lib.hid hnb
  have B0 := Lib.hid ((below_made w (.cells #[.slice A0 n0 c0, .slice A1 n1 c1, .slice A2 n2 c2] 25)).alloc (below_made w _).size (.cells #[.slice none 0 0, .slice none 0 0, .slice none 0 0] 25))
  have X0 := Lib.hid ((FBox.made w (.slice A0 n0 c0) (.slice A1 n1 c1) (.slice A2 n2 c2)).later (below_made _ (.cells #[.slice none 0 0, .slice none 0 0, .slice none 0 0] 25)))
  have Y0 := Lib.hid (show FBox _ (w.heap.size + 1) _ _ _ by simpa using FBox.made (w.alloc (.cells #[.slice A0 n0 c0, .slice A1 n1 c1, .slice A2 n2 c2] 25)) (.slice none 0 0) (.slice none 0 0) (.slice none 0 0))
  clear hs h0 h1 h2 hz hb hn2 hnb
  have VN := Lib.hid (fun h => crF_no (f := f) h bs)
  have VO := Lib.hid (fun h => crF_ok (f := f) h bs)
  have WN := Lib.hid (fun h => crN_no (f := f) h)
  have WO := Lib.hid (fun h => crN_ok (f := f) h)
  generalize crC f bs = C at *
  go_enter Try.func11, Try.ntmps11
  go_wp2_with fail
  refine (RI.out _ B0.out).mono ?_
  rintro e w1 ⟨rfl, hb1⟩
  have B1 := Lib.hid (B0.out.trans (hb1.mono B0.out.size))
  have X1 := Lib.hid (X0.out.later hb1)
  have Y1 := Lib.hid (Y0.out.later hb1)
  clear hb1 X0 Y0 B0
  cases hv : valid f with
  | false =>
    have HF := Lib.hid (VN.out hv)
    have HE := Lib.hid (WN.out hv)
    obtain ⟨y0, y1, y2⟩ := Y1.out.cells
    obtain ⟨z0, z1, z2⟩ := Y1.out.soft
    have YF := Lib.hid (Y1.out.set (.slice none 0 0) (.slice none 0 0) (.slice none 0 0))
    have BF := Lib.hid (fset_below B1.out (show w.heap.size ≤ w.heap.size + 1 by omega) (.slice none 0 0) (.slice none 0 0) (.slice none 0 0))
    clear hv LA VN VO WN WO HBS S2P
    go_wp2_with fail
    change bodyPost _ _ _ _ _ (fset w1 (w.heap.size + 1) (.slice none 0 0) (.slice none 0 0) (.slice none 0 0))
    generalize fset w1 (w.heap.size + 1) (.slice none 0 0) (.slice none 0 0) (.slice none 0 0) = w9 at *
    obtain ⟨y0, y1, y2⟩ := YF.out.cells
    exact bodyPost_ret (by simp [results, Try.results11, go_sem, y0, y1, y2]; rfl) rfl ⟨_, by rw [HE.out]; rfl, by rw [HF.out]; exact SeesF.zero _, BF.out⟩
  | true =>
    have HF := Lib.hid (VO.out hv)
    have HE := Lib.hid (show (n2 : Int) = (crN f : Int) by rw [WO.out hv, ← HN2.out])
    have HS := Lib.hid (S2P.out _ B1.out)
    have HB := Lib.hid (HBS.out _ B1.out)
    have K0 := Lib.hid (KRel.empty w1)
    clear hv VN VO WN WO S2P HBS
    go_wp2_with fail
    go_loopw [6, 7] (fun x i wr => ∃ (k : Nat) (la : List PB), k ≤ n2 ∧ i = .int .i64 (k : Int) ∧ la.map Prod.fst = keepTo f.pend bs k ∧ KRel w1 x la wr) (fun _ i _ => n2 - (intOf i).toNat)
    case atStart => exact ⟨0, [], Nat.zero_le _, rfl, rfl, K0.out⟩
    case round =>
      clear K0
      obtain ⟨k, la, hk, rfl, hla, hK⟩ := hrel
      have HLA := Lib.hid hla
      have HK := Lib.hid hK
      have hlen : la.length ≤ k := by
        have h := congrArg List.length hla
        rw [List.length_map] at h
        rw [h]; exact keepTo_len _ _ _
      have X2 := Lib.hid (X1.out.later hK.2.2)
      obtain ⟨x0, x1, x2⟩ := X2.out.cells
      clear hla hK
      by_cases hlt : k < n2
      · have hkl : k < f.pend.length := by rw [← HN2.out]; exact hlt
        obtain ⟨g, off, A3, bc, rfl, hg, cc1, cc2, csv⟩ := HS.out.cells hkl
        have hyes := fun h => keepTo_yes (l := f.pend) (bs := bs) hkl h
        have hc1 : wr.cell? ⟨g, off + k * 2, none⟩ = some (.int .i64 f.pend[k].p) := (HK.out.2.2.cell (p := ⟨g, off + k * 2, none⟩) hg).trans cc1
        have hc2 : wr.cell? ⟨g, off + k * 2 + 1, none⟩ = some (.slice A3 f.pend[k].b.length bc) := (HK.out.2.2.cell (p := ⟨g, off + k * 2 + 1, none⟩) hg).trans cc2
        have hno := fun h => keepTo_no (l := f.pend) (bs := bs) (k := k) h
        clear cc1 cc2
        generalize f.pend[k] = u at *
        obtain ⟨p, b⟩ := u
        simp only at hc1 hc2 csv
        obtain ⟨bl, hbl⟩ : ∃ bl, bl = b.length := ⟨_, rfl⟩
        rw [← hbl] at hc2 csv
        have CSV := Lib.hid csv
        clear csv hbl
        by_cases hb : k < nb
        · have hbl2 : k < bs.length := by rw [← HNB.out]; exact hb
          obtain ⟨gb, ob, rfl, hgb, cb0⟩ := HB.out.bool hbl2
          have hb' : (k : Int) < (nb : Int) := by omega
          have hbit := bit_at hbl2
          have hcb : wr.cell? ⟨gb, ob + k, none⟩ = some (.bool bs[k]) := (HK.out.2.2.cell (p := ⟨gb, ob + k, none⟩) hgb).trans cb0
          clear cb0
          generalize bs[k] = t at *
          cases t with
          | false =>
            have HX := Lib.hid (hno hbit)
            clear hyes hno hbit
            go_wp2_with fail
            go_roundw
            case rel => exact ⟨k + 1, la, by omega, by go_num, by rw [HX.out]; exact HLA.out, HK.out⟩
            case measure => simp [intOf]; omega
          | true =>
            have HX := Lib.hid (hyes hbit)
            clear hyes hno hbit
            go_wp2_with (at_builtin; refine append_piece rfl _ _ rfl w1.heap.size _ _ _ rfl HK.out.1 (⟨p, b⟩, .slice A3 bl bc) rfl (by simp [Act.eval]) ?a1 ?a2 ?_)
            case a1 => omega
            case a2 => exact HK.out.2.2.size
            intro v2 w2 ho hb2 hst
            have K2 := Lib.hid (show KRel w1 v2 (la ++ [(⟨p, b⟩, .slice A3 bl bc)]) w2 from ⟨by rw [List.length_append]; exact ho, fun x hx => by
              rcases List.mem_append.1 hx with hx | hx
              · exact HK.out.2.1 x hx
              · have : x = (⟨p, b⟩, .slice A3 bl bc) := by simpa using hx
                subst this
                exact CSV.out, HK.out.2.2.trans hb2⟩)
            clear ho hb2 hst
            go_wp2_with fail
            go_roundw
            case rel => exact ⟨k + 1, _, by omega, by go_num, by rw [HX.out, List.map_append, HLA.out]; rfl, K2.out⟩
            case measure => simp [intOf]; omega
        · have hb' : decide (k < nb) = false := by simpa using hb
          have HX := Lib.hid (hno (bit_out (by rw [← HNB.out]; exact hb)))
          clear hyes hno hb
          go_wp2_with fail
          go_roundw
          case rel => exact ⟨k + 1, la, by omega, by go_num, by rw [HX.out]; exact HLA.out, HK.out⟩
          case measure => simp [intOf]; omega
      · have SX := Lib.hid (show SeesP wr u6 (keep f.pend bs) by
          have h := HK.out.sees
          rw [HLA.out, show k = f.pend.length by rw [← HN2.out]; omega] at h
          exact h)
        have B2 := Lib.hid (B1.out.trans (HK.out.2.2.mono B1.out.size))
        have Y2 := Lib.hid (Y1.out.later HK.out.2.2)
        have hnq : w.heap.size ≠ w.heap.size + 1 := by omega
        go_wp2_with fail
        refine (LA.out _ _ B2.out SX.out).mono ?_
        rintro e w3 ⟨v3, rfl, s3, b3⟩
        obtain ⟨A4, c4, rfl, -⟩ := id s3
        have B3 := Lib.hid (B2.out.trans (b3.mono B2.out.size))
        have X3 := Lib.hid (X2.out.later b3)
        have Y3 := Lib.hid (Y2.out.later b3)
        have S3 := Lib.hid s3
        clear s3 b3 x0 x1 x2
        have XD := Lib.hid (X3.out.later (below_drew _ (Nat.le_refl _)))
        have YD := Lib.hid (Y3.out.later (below_drew _ (Nat.le_refl _)))
        have SD := Lib.hid (S3.out.later (below_drew _ (Nat.le_refl _)))
        obtain ⟨x0, x1, x2⟩ := X3.out.cells
        obtain ⟨y0, y1, y2⟩ := Y3.out.cells
        obtain ⟨z0, z1, z2⟩ := Y3.out.soft
        have YF := Lib.hid (YD.out.set (.slice A4 (bys C).length c4) (.slice A4 (bys C).length c4) (.slice none 0 0))
        have HF2 := Lib.hid (show SeesF (fset w3.drew (w.heap.size + 1) (.slice A4 (bys C).length c4) (.slice A4 (bys C).length c4) (.slice none 0 0)) (.agg #[.slice A4 (bys C).length c4, .slice A4 (bys C).length c4, .slice none 0 0]) (crF f bs) ∧ Below w.heap.size w (fset w3.drew (w.heap.size + 1) (.slice A4 (bys C).length c4) (.slice A4 (bys C).length c4) (.slice none 0 0)) from
          ⟨by rw [HF.out]; exact ⟨_, _, _, rfl, SD.out.fset YD.out _ _ _, SD.out.fset YD.out _ _ _, seesP_nil _⟩, fset_below B3.out.drew (by omega) _ _ _⟩)
        go_wp2_with fail
        go_region_held3 (fun W => W.cell? ⟨w.heap.size, 0, none⟩ = some (.slice A0 n0 c0) ∧ W.cell? ⟨w.heap.size, 1, none⟩ = some (.slice A1 n1 c1) ∧ W.cell? ⟨w.heap.size, 2, none⟩ = some (.slice A2 n2 c2))
          (first | exact XD.out.cells | exact ⟨(fset_cell hnq _ _ _).trans XD.out.cells.1, (fset_cell hnq _ _ _).trans XD.out.cells.2.1, (fset_cell hnq _ _ _).trans XD.out.cells.2.2⟩)
          (fail)
        all_goals
          clear x0 x1 x2 y0 y1 y2 z0 z1 z2
          go_wp2_with fail
          change bodyPost _ _ _ _ _ (fset w3.drew (w.heap.size + 1) (.slice A4 (bys C).length c4) (.slice A4 (bys C).length c4) (.slice none 0 0))
          generalize fset w3.drew (w.heap.size + 1) (.slice A4 (bys C).length c4) (.slice A4 (bys C).length c4) (.slice none 0 0) = w9 at *
          obtain ⟨y0, y1, y2⟩ := YF.out.cells
          exact bodyPost_ret (by simp [results, Try.results11, go_sem, y0, y1, y2]; rfl) rfl ⟨_, by rw [HE.out], HF2.out.1, HF2.out.2⟩
end Go.Proofs.Ytidhdalfcamhjaa
