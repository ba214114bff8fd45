/-
  The walk of the reference's Write.
-/
import Derived.Test.YtidhdalfcamhjaaFileWrite
import Derived.Test.YtidhdalfcamhjaaBlockRefPieces
namespace Go.Proofs.Ytidhdalfcamhjaa
open Go.RowKit StrM BlockM FileM

/-- Pieces that were there before are appended. -/
theorem KRel.app {w wr w' : World} {v v' : Value} {la lb : List PB} (h : KRel w v la wr) (hs : ∀ x ∈ lb, SeesV w x.2 (bys x.1.b)) (ho : w'.ownsRow w.heap.size 54 2 v' (la.length + lb.length) (pcs (la ++ lb))) (hb : Below w.heap.size wr w') : KRel w v' (la ++ lb) w' :=
  ⟨by rw [List.length_append]; exact ho, fun x hx => (List.mem_append.1 hx).elim (h.2.1 x) (hs x), h.2.2.trans hb⟩

set_option maxHeartbeats 4000000 in
set_option maxRecDepth 100000 in
theorem rfwrite_any (v : Value) (f : Fl) (p : Int) (A : Option Addr) (lb cb : Nat) (b : List UInt8) (w : World) (hs : SeesF w v f) (hz : Sz f) (hb : SeesV w (.slice A lb cb) (bys b)) (hlb : b.length = lb) (hmax : lb ≤ 50000) :
    Calls Try.prog 9 #[v, .int .i64 p, .slice A lb cb] w (NPost (wrF f p b) (wrE f p lb) w) := by
  obtain ⟨A0, c0, A1, c1, A2, c2, rfl, h0, h1, h2⟩ := hs.slices
  have RI := Lib.hid (fun W (hb : Below w.heap.size w W) => rfright_any _ f W (hs.later hb) hz)
  have PI := Lib.hid (fun W (hB : Below w.heap.size w W) => rpieces_any p A lb cb b W (hb.later hB) hlb (by omega))
  have LA := Lib.hid (fun W v2 (hB : Below w.heap.size w W) (h : SeesP W v2 (f.pend ++ pList p b)) => rlay_any A1 f.sure.length c1 f.sure v2 (f.pend ++ pList p b) W rfl hz.sure (h1.later hB) h (fun x hx => (List.mem_append.1 hx).elim (hz.places x) (pList_places p b x)) (by have := pList_len p b; have := hz.pend; rw [List.length_append]; omega))
  have S1 := Lib.hid (fun W (hB : Below w.heap.size w W) => h1.later hB)
  have S2P := Lib.hid (fun W (hB : Below w.heap.size w W) => h2.later hB)
  unfold PiecesPost at PI
  unfold LayPost at LA
  unfold NPost
  rw [hlb] at PI
  have HPL := Lib.hid (show (pList p b).length ≤ 50000 by have := pList_len p b; omega)
  have HPE := Lib.hid hz.pend
  have HLB := Lib.hid hlb
  have B0 := Lib.hid ((below_made w (.cells #[.slice A0 f.now.length c0, .slice A1 f.sure.length c1, .slice A2 f.pend.length c2] 25)).alloc (below_made w _).size (.cells #[.slice none 0 0, .slice none 0 0, .slice none 0 0] 25))
  have X0 := Lib.hid ((FBox.made w (.slice A0 f.now.length c0) (.slice A1 f.sure.length c1) (.slice A2 f.pend.length c2)).later (below_made _ (.cells #[.slice none 0 0, .slice none 0 0, .slice none 0 0] 25)))
  have Y0 := Lib.hid (show FBox _ (w.heap.size + 1) _ _ _ by simpa using FBox.made (w.alloc (.cells #[.slice A0 f.now.length c0, .slice A1 f.sure.length c1, .slice A2 f.pend.length c2] 25)) (.slice none 0 0) (.slice none 0 0) (.slice none 0 0))
  obtain ⟨n0, hn0⟩ : ∃ n, n = f.now.length := ⟨_, rfl⟩
  obtain ⟨n1, hn1⟩ : ∃ n, n = f.sure.length := ⟨_, rfl⟩
  obtain ⟨n2, hn2⟩ : ∃ n, n = f.pend.length := ⟨_, rfl⟩
  rw [← hn0] at B0 X0 Y0 RI ⊢
  rw [← hn1] at B0 X0 Y0 RI LA S1 ⊢
  rw [← hn2] at B0 X0 Y0 RI S2P HPE ⊢
  have HN2 := Lib.hid hn2
  clear hs h0 h1 h2 hz hb hn0 hn1 hn2 hlb hmax
  have VN := Lib.hid (fun h => wrF_no (f := f) h p b)
  have VE := Lib.hid (fun h => wrF_err (f := f) (p := p) (b := b) h)
  have VO := Lib.hid (fun (h : valid f = true) e => (wrF_ok (f := f) (p := p) (b := b) h e).trans (show wrote f (pList p b) = ⟨lay f.sure (f.pend ++ pList p b), f.sure, f.pend ++ pList p b⟩ by rw [wrote_ref h]; rfl))
  have WN := Lib.hid (fun h => wrE_no (f := f) h p lb)
  have WO := Lib.hid (fun h => wrE_ok (f := f) h p lb)
  rw [HLB.out] at VE VO
  generalize lay f.sure (f.pend ++ pList p b) = L at *
  go_enter Try.func9, Try.ntmps9
  go_wp2_with fail
  refine (RI.out _ B0.out).mono ?_
  rintro e w1 ⟨rfl, hb1⟩
  have B1 := Lib.hid (B0.out.trans (hb1.mono B0.out.size))
  have X1 := Lib.hid (X0.out.later hb1)
  have Y1 := Lib.hid (Y0.out.later hb1)
  clear hb1 X0 Y0 B0
  cases hv : valid f with
  | false =>
    have HF := Lib.hid (VN.out hv)
    have HE := Lib.hid (WN.out hv)
    obtain ⟨y0, y1, y2⟩ := Y1.out.cells
    obtain ⟨z0, z1, z2⟩ := Y1.out.soft
    have YF := Lib.hid (Y1.out.set (.slice none 0 0) (.slice none 0 0) (.slice none 0 0))
    have BF := Lib.hid (fset_below B1.out (show w.heap.size ≤ w.heap.size + 1 by omega) (.slice none 0 0) (.slice none 0 0) (.slice none 0 0))
    clear VN VE VO WN WO PI LA S1 S2P hv
    go_wp2_with fail
    change bodyPost _ _ _ _ _ (fset w1 (w.heap.size + 1) (.slice none 0 0) (.slice none 0 0) (.slice none 0 0))
    generalize fset w1 (w.heap.size + 1) (.slice none 0 0) (.slice none 0 0) (.slice none 0 0) = w9 at *
    obtain ⟨y0, y1, y2⟩ := YF.out.cells
    exact bodyPost_ret (by simp [results, Try.results9, go_sem, y0, y1, y2]; rfl) rfl ⟨_, by rw [HE.out], by rw [HF.out]; exact SeesF.zero _, BF.out⟩
  | true =>
    have HE := Lib.hid (WO.out hv)
    have VE := Lib.hid (VE.out hv)
    have VO := Lib.hid (VO.out hv)
    clear VN WN WO hv
    go_wp2_with fail
    refine (PI.out _ B1.out).mono ?_
    rintro e w2 ⟨v2, rfl, s2, hb2⟩
    obtain ⟨Al, cl, rfl, -⟩ := id s2
    have B2 := Lib.hid (B1.out.trans (hb2.mono B1.out.size))
    have X2 := Lib.hid (X1.out.later hb2)
    have Y2 := Lib.hid (Y1.out.later hb2)
    have S2 := Lib.hid s2
    clear hb2 X1 Y1 B1 s2
    obtain ⟨np, hnp⟩ : ∃ n, n = (pList p b).length := ⟨_, rfl⟩
    rw [← hnp] at S2 HPL ⊢
    have HNP := Lib.hid hnp
    clear hnp
    have hcase := pErr_cases p lb
    generalize pErr p lb = er at *
    have hE : er = 1 ∨ er = 4 ∨ er = 0 := hcase
    clear hcase
    obtain ⟨y0, y1, y2⟩ := Y2.out.cells
    obtain ⟨z0, z1, z2⟩ := Y2.out.soft
    by_cases h0 : er = 0
    · subst h0
      have HF := Lib.hid (VO.out rfl)
      clear VE VO hE
      obtain ⟨lq, hlq, hsq⟩ := (S2P.out _ B2.out).src
      obtain ⟨lp, hlp, hsp⟩ := S2.out.src
      have hq2 : lq.length = n2 := by rw [HN2.out, ← hlq, List.length_map]
      have hp2 : lp.length = np := by rw [HNP.out, ← hlp, List.length_map]
      have K0 := Lib.hid (KRel.empty w2)
      have hx2 := ((X2.out.later (below_made w2 (.cells #[] 54))).cells).2.2
      have SQ := Lib.hid hsq
      have SP := Lib.hid hsp
      have HLQ := Lib.hid hlq
      have HLP := Lib.hid hlp
      have HQ2 := Lib.hid hq2
      have HP2 := Lib.hid hp2
      clear y0 y1 y2 z0 z1 z2 hsq hsp hlq hlp hq2 hp2
      go_wp2_with (at_builtin; refine append_pieces rfl _ _ rfl w2.heap.size _ 0 [] rfl K0.out.1 _ lq rfl (SQ.out.later (below_made w2 _)) ?a1 ?a2 ?_)
      case a1 => rw [HQ2.out]; have := HPE.out; omega
      case a2 => simp
      intro va wa oa ba sta
      have KA := Lib.hid (show KRel w2 va lq wa from ⟨oa, SQ.out.2, K0.out.2.2.trans ba⟩)
      clear oa ba sta
      go_wp2_with (at_builtin; refine append_pieces rfl _ _ rfl w2.heap.size _ lq.length lq rfl KA.out.1 _ lp rfl (SP.out.later KA.out.2.2) ?a1 ?a2 ?_)
      case a1 => rw [HQ2.out, HP2.out]; have := HPE.out; have := HPL.out; omega
      case a2 => exact KA.out.2.2.size
      intro vb wb ob bb stb
      have KB := Lib.hid (show KRel w2 vb (lq ++ lp) wb from KA.out.app SP.out.2 ob bb)
      obtain ⟨Ab, cb2, rfl⟩ := own_slice2 ob
      have SB := Lib.hid (show SeesP wb (.slice Ab (lq.length + lp.length) cb2) (f.pend ++ pList p b) by
        have h := KB.out.sees
        rw [List.map_append, HLQ.out, HLP.out] at h
        exact h)
      have BB := Lib.hid (B2.out.trans (KB.out.2.2.mono B2.out.size))
      have XB := Lib.hid (X2.out.later KB.out.2.2)
      have YB := Lib.hid (Y2.out.later KB.out.2.2)
      clear ob bb stb KA K0 hx2
      generalize lq.length + lp.length = nq at *
      have BD := Lib.hid BB.out.drew
      have XD := Lib.hid (XB.out.later (below_drew _ (Nat.le_refl _)))
      have YD := Lib.hid (YB.out.later (below_drew _ (Nat.le_refl _)))
      have SD := Lib.hid (SB.out.later (below_drew _ (Nat.le_refl _)))
      obtain ⟨x0, x1, x2⟩ := XB.out.cells
      have hnq : w.heap.size ≠ w.heap.size + 1 := by omega
      go_wp2_with fail
      go_region_held3 (fun W => W.cell? ⟨w.heap.size, 0, none⟩ = some (.slice A0 n0 c0) ∧ W.cell? ⟨w.heap.size, 1, none⟩ = some (.slice A1 n1 c1) ∧ W.cell? ⟨w.heap.size, 2, none⟩ = some (.slice A2 n2 c2))
        (first | exact XD.out.cells | exact hX3.cells | exact ⟨(fset_cell hnq _ _ _).trans hX3.cells.1, (fset_cell hnq _ _ _).trans hX3.cells.2.1, (fset_cell hnq _ _ _).trans hX3.cells.2.2⟩)
        (first
          | (go_at_call 25; (with_reducible refine (LA.out _ _ BD.out SD.out).mono ?_); rintro e w3 ⟨v3, rfl, s3, b3⟩; obtain ⟨A3, c3, rfl, -⟩ := id s3; have hX3 := XD.out.later b3; have hB3 := BD.out.trans (b3.mono BD.out.size); have hY3 := YD.out.later b3; obtain ⟨y0, y1, y2⟩ := hY3.cells; obtain ⟨z0, z1, z2⟩ := hY3.soft))
      all_goals
        have YF := Lib.hid (hY3.set (.slice A3 (bys L).length c3) (.slice A1 n1 c1) (.slice Ab nq cb2))
        have HF2 := Lib.hid (show SeesF (fset w3 (w.heap.size + 1) (.slice A3 (bys L).length c3) (.slice A1 n1 c1) (.slice Ab nq cb2)) (.agg #[.slice A3 (bys L).length c3, .slice A1 n1 c1, .slice Ab nq cb2]) (wrF f p b) ∧ Below w.heap.size w (fset w3 (w.heap.size + 1) (.slice A3 (bys L).length c3) (.slice A1 n1 c1) (.slice Ab nq cb2)) from
          ⟨by rw [HF.out]; exact ⟨_, _, _, rfl, s3.fset hY3 _ _ _, (S1.out _ hB3).fset hY3 _ _ _, (SD.out.later b3).fset hY3 _ _ _⟩, fset_below hB3 (by omega) _ _ _⟩)
        clear s3 b3 hX3 hB3 hY3 y0 y1 y2 z0 z1 z2
        go_wp2_with fail
        change bodyPost _ _ _ _ _ (fset w3 (w.heap.size + 1) (.slice A3 (bys L).length c3) (.slice A1 n1 c1) (.slice Ab nq cb2))
        generalize fset w3 (w.heap.size + 1) (.slice A3 (bys L).length c3) (.slice A1 n1 c1) (.slice Ab nq cb2) = w9 at *
        obtain ⟨y0, y1, y2⟩ := YF.out.cells
        exact bodyPost_ret (by simp [results, Try.results9, go_sem, y0, y1, y2]; rfl) rfl ⟨_, by rw [HE.out], HF2.out.1, HF2.out.2⟩
    · rcases hE with rfl | rfl | h
      · clear h0
        have HF := Lib.hid (VE.out (by decide))
        have YF := Lib.hid (Y2.out.set (.slice none 0 0) (.slice none 0 0) (.slice none 0 0))
        have BF := Lib.hid (fset_below B2.out (show w.heap.size ≤ w.heap.size + 1 by omega) (.slice none 0 0) (.slice none 0 0) (.slice none 0 0))
        clear VE VO LA S1 S2P
        go_wp2_with fail
        change bodyPost _ _ _ _ _ (fset w2 (w.heap.size + 1) (.slice none 0 0) (.slice none 0 0) (.slice none 0 0))
        generalize fset w2 (w.heap.size + 1) (.slice none 0 0) (.slice none 0 0) (.slice none 0 0) = w9 at *
        obtain ⟨y0, y1, y2⟩ := YF.out.cells
        exact bodyPost_ret (by simp [results, Try.results9, go_sem, y0, y1, y2]; rfl) rfl ⟨_, by rw [HE.out], by rw [HF.out]; exact SeesF.zero _, BF.out⟩
      · clear h0
        have HF := Lib.hid (VE.out (by decide))
        have YF := Lib.hid (Y2.out.set (.slice none 0 0) (.slice none 0 0) (.slice none 0 0))
        have BF := Lib.hid (fset_below B2.out (show w.heap.size ≤ w.heap.size + 1 by omega) (.slice none 0 0) (.slice none 0 0) (.slice none 0 0))
        clear VE VO LA S1 S2P
        go_wp2_with fail
        change bodyPost _ _ _ _ _ (fset w2 (w.heap.size + 1) (.slice none 0 0) (.slice none 0 0) (.slice none 0 0))
        generalize fset w2 (w.heap.size + 1) (.slice none 0 0) (.slice none 0 0) (.slice none 0 0) = w9 at *
        obtain ⟨y0, y1, y2⟩ := YF.out.cells
        exact bodyPost_ret (by simp [results, Try.results9, go_sem, y0, y1, y2]; rfl) rfl ⟨_, by rw [HE.out], by rw [HF.out]; exact SeesF.zero _, BF.out⟩
      · exact absurd h h0
end Go.Proofs.Ytidhdalfcamhjaa
