/-
  The walk of file.Write.
-/
import Derived.Test.YtidhdalfcamhjaaFileRight
import Derived.Test.YtidhdalfcamhjaaFileCopies
namespace Go.Proofs.Ytidhdalfcamhjaa
open Go.RowKit StrM BlockM FileM

/-- What Write returns. -/
def wrF (f : Fl) (p : Int) (b : List UInt8) : Fl := if valid f then (if pErr p b.length = 0 then wrote f (pList p b) else zf) else zf
def wrE (f : Fl) (p : Int) (n : Nat) : Int := if valid f then pErr p n else 10
theorem wrF_no {f : Fl} (h : valid f = false) (p : Int) (b : List UInt8) : wrF f p b = zf := by simp [wrF, h]
theorem wrE_no {f : Fl} (h : valid f = false) (p : Int) (n : Nat) : wrE f p n = 10 := by simp [wrE, h]
theorem wrE_ok {f : Fl} (h : valid f = true) (p : Int) (n : Nat) : wrE f p n = pErr p n := by simp [wrE, h]
theorem wrF_err {f : Fl} (h : valid f = true) {p : Int} {b : List UInt8} (he : ¬ pErr p b.length = 0) : wrF f p b = zf := by simp [wrF, h, he]
theorem wrF_ok {f : Fl} (h : valid f = true) {p : Int} {b : List UInt8} (he : pErr p b.length = 0) : wrF f p b = wrote f (pList p b) := by simp [wrF, h, he]
theorem pErr_cases (p : Int) (n : Nat) : pErr p n = 1 ∨ pErr p n = 4 ∨ pErr p n = 0 := by
  unfold pErr
  split
  · exact .inl rfl
  · split
    · exact .inr (.inl rfl)
    · exact .inr (.inr rfl)
theorem pList_ok (p : Int) (b : List UInt8) : ∀ x ∈ pList p b, ok x = true := by
  unfold pList
  split
  · intro x hx; cases hx
  · split
    · intro x hx; cases hx
    · exact pieces_ok _ _ (by omega)
theorem pList_places (p : Int) (b : List UInt8) : ∀ x ∈ pList p b, x.p ≤ 9223372036854775807 := by
  intro x hx
  obtain ⟨n, h1, _, _, _, _, h6⟩ := ok_facts (pList_ok p b x hx)
  omega
theorem pList_len (p : Int) (b : List UInt8) : (pList p b).length ≤ b.length := by
  have := pieces_len p.toNat b
  unfold pList
  split
  · simp
  · split
    · simp
    · exact this

theorem Src.later {w w' : World} {u : Value} {lb : List PB} (h : Src w u lb) (hb : Below w.heap.size w w') : Src w' u lb := by
  obtain ⟨⟨A, cap, rfl, hc⟩, hB⟩ := h
  refine ⟨⟨A, cap, rfl, ?_⟩, fun x hx => (hB x hx).later hb⟩
  rcases hc with h | ⟨ad, rfl, hc⟩
  · exact .inl h
  · refine .inr ⟨ad, rfl, fun j c hj => ?_⟩
    have h := hc j c hj
    exact (hb.cell (p := ad.add j) (World.block_lt_of_cell? w _ h)).trans h
theorem own_slice2 {w : World} {base n : Nat} {e : TypeId} {v : Value} {xs : List Value} (h : w.ownsRow base e 2 v n xs) : ∃ A cap, v = .slice A n cap := by
  rcases h.2 with ⟨rfl, rfl⟩ | ⟨g, cap, cur, rfl, _⟩
  · exact ⟨none, 0, rfl⟩
  · exact ⟨_, cap, rfl⟩

/-- What a function returns that hands back a file and a number. -/
def NPost (f : Fl) (n : Int) (w : World) (e : Ending) (w' : World) : Prop := ∃ v, e = .returned (.tuple #[v, .int .i64 n]) ∧ SeesF w' v f ∧ Below w.heap.size w w'

theorem wr_done {w3 w4 w5 w6 : World} {v2 v3 v4 v5 v6 : Value} {N S : List UInt8} {la lb : List PB} {m : Nat} (h3 : SeesV w3 v3 (bys N)) (b34 : Below w3.heap.size w3 w4) (ho4 : w4.ownsRow w3.heap.size 5 1 v4 m (bys S)) (hP : PRel w4 v5 la w5) (hs4 : Src w4 v2 lb)
    (ho6 : w6.ownsRow w4.heap.size 54 2 v6 (la.length + lb.length) (pcs (la ++ lb))) (hb6 : Below w4.heap.size w5 w6) (hst : Stays w5 w6 v5) :
    SeesF w6 (.agg #[v3, v4, v6]) ⟨N, S, la.map Prod.fst ++ lb.map Prod.fst⟩ ∧ Below w4.heap.size w4 w6 := by
  have b46 : Below w4.heap.size w4 w6 := hP.2.2.trans hb6
  refine ⟨⟨v3, v4, v6, rfl, (h3.later b34).later b46, (SeesV.of_own ho4).later b46, ?_⟩, b46⟩
  rw [← List.map_append]
  refine sees_pcs ho6 (by rw [List.length_append]) fun x hx => ?_
  rcases List.mem_append.1 hx with hx | hx
  · have hx5 := hP.2.1 x hx
    exact SeesV.of_own (own_keep hx5 hst (own_diff (by decide) hP.1 hx5))
  · exact (hs4.2 x hx).later b46

set_option maxHeartbeats 4000000 in
set_option maxRecDepth 100000 in
theorem fwrite_any (v : Value) (f : Fl) (p : Int) (A : Option Addr) (lb cb : Nat) (b : List UInt8) (w : World) (hs : SeesF w v f) (hz : Sz f) (hb : SeesV w (.slice A lb cb) (bys b)) (hlb : b.length = lb) (hcb : lb ≤ cb) (hmax : lb ≤ 50000) (hp : p ≤ 9223372036854775807) :
    Calls Try.prog 8 #[v, .int .i64 p, .slice A lb cb] w (NPost (wrF f p b) (wrE f p lb) w) := by
  obtain ⟨A0, c0, A1, c1, A2, c2, rfl, h0, h1, h2⟩ := hs.slices
  have RI := Lib.hid (fun W (hb : Below w.heap.size w W) => fright_any _ f W (hs.later hb) hz)
  have PI := Lib.hid (fun W (hB : Below w.heap.size w W) => pieces_any p A lb cb b W (hb.later hB) hlb hcb (by omega) hp)
  have LA := Lib.hid (fun W v2 (hB : Below w.heap.size w W) (h : SeesP W v2 (pList p b)) => lay_any A0 f.now.length c0 f.now v2 (pList p b) W rfl hz.now (h0.later hB) h (pList_places p b) (by have := pList_len p b; omega))
  have CL := Lib.hid (fun W (hB : Below w.heap.size w W) => clone_any A1 f.sure.length c1 f.sure W (h1.later hB) (by have := hz.sure; omega))
  have CO := Lib.hid (fun W (hB : Below w.heap.size w W) (hv : valid f = true) => copies_any (.slice A2 f.pend.length c2) f.pend W (h2.later hB) hz.pend (fun x hx => by have := (valid_pend hv x hx).2; omega))
  unfold PiecesPost at PI
  unfold LayPost at LA
  unfold EndPost at CL
  unfold CopyPost at CO
  unfold NPost
  rw [hlb] at PI
  have HPL := Lib.hid (show (pList p b).length ≤ 50000 by have := pList_len p b; omega)
  have HPE := Lib.hid hz.pend
  have HLB := Lib.hid hlb
  have B0 := Lib.hid ((below_made w (.cells #[.slice A0 f.now.length c0, .slice A1 f.sure.length c1, .slice A2 f.pend.length c2] 25)).alloc (below_made w _).size (.cells #[.slice none 0 0, .slice none 0 0, .slice none 0 0] 25))
  have X0 := Lib.hid ((FBox.made w (.slice A0 f.now.length c0) (.slice A1 f.sure.length c1) (.slice A2 f.pend.length c2)).later (below_made _ (.cells #[.slice none 0 0, .slice none 0 0, .slice none 0 0] 25)))
  have Y0 := Lib.hid (show FBox _ (w.heap.size + 1) _ _ _ by simpa using FBox.made (w.alloc (.cells #[.slice A0 f.now.length c0, .slice A1 f.sure.length c1, .slice A2 f.pend.length c2] 25)) (.slice none 0 0) (.slice none 0 0) (.slice none 0 0))
  obtain ⟨n0, hn0⟩ : ∃ n, n = f.now.length := ⟨_, rfl⟩
  obtain ⟨n1, hn1⟩ : ∃ n, n = f.sure.length := ⟨_, rfl⟩
  obtain ⟨n2, hn2⟩ : ∃ n, n = f.pend.length := ⟨_, rfl⟩
  rw [← hn0] at B0 X0 Y0 RI LA ⊢
  rw [← hn1] at B0 X0 Y0 RI CL ⊢
  rw [← hn2] at B0 X0 Y0 RI CO HPE ⊢
  have HN1 := Lib.hid hn1
  have HN2 := Lib.hid hn2
  clear hs h0 h1 h2 hz hb hn0 hn1 hn2 hlb hcb hmax hp
  have VN := Lib.hid (fun h => wrF_no (f := f) h p b)
  have VE := Lib.hid (fun h => wrF_err (f := f) (p := p) (b := b) h)
  have VO := Lib.hid (fun h => wrF_ok (f := f) (p := p) (b := b) h)
  have WN := Lib.hid (fun h => wrE_no (f := f) h p lb)
  have WO := Lib.hid (fun h => wrE_ok (f := f) h p lb)
  rw [HLB.out] at VE VO
  go_enter Try.func8, Try.ntmps8
  go_wp2_with fail
  refine (RI.out _ B0.out).mono ?_
  rintro e w1 ⟨rfl, hb1⟩
  have B1 := Lib.hid (B0.out.trans (hb1.mono B0.out.size))
  have X1 := Lib.hid (X0.out.later hb1)
  have Y1 := Lib.hid (Y0.out.later hb1)
  clear hb1 X0 Y0 B0
  cases hv : valid f with
  | false =>
    have HF := Lib.hid (VN.out hv)
    have HE := Lib.hid (WN.out hv)
    obtain ⟨y0, y1, y2⟩ := Y1.out.cells
    obtain ⟨z0, z1, z2⟩ := Y1.out.soft
    have YF := Lib.hid (Y1.out.set (.slice none 0 0) (.slice none 0 0) (.slice none 0 0))
    have BF := Lib.hid (fset_below B1.out (show w.heap.size ≤ w.heap.size + 1 by omega) (.slice none 0 0) (.slice none 0 0) (.slice none 0 0))
    clear VN VE VO WN WO PI LA CL CO hv
    go_wp2_with fail
    change bodyPost _ _ _ _ _ (fset w1 (w.heap.size + 1) (.slice none 0 0) (.slice none 0 0) (.slice none 0 0))
    generalize fset w1 (w.heap.size + 1) (.slice none 0 0) (.slice none 0 0) (.slice none 0 0) = w9 at *
    obtain ⟨y0, y1, y2⟩ := YF.out.cells
    exact bodyPost_ret (by simp [results, Try.results8, go_sem, y0, y1, y2]; rfl) rfl ⟨_, by rw [HE.out], by rw [HF.out]; exact SeesF.zero _, BF.out⟩
  | true =>
    have CO := Lib.hid (fun W hB => CO.out W hB hv)
    have HE := Lib.hid (WO.out hv)
    have VE := Lib.hid (VE.out hv)
    have VO := Lib.hid (VO.out hv)
    clear VN WN WO hv
    go_wp2_with fail
    refine (PI.out _ B1.out).mono ?_
    rintro e w2 ⟨v2, rfl, s2, hb2⟩
    obtain ⟨Al, cl, rfl, -⟩ := id s2
    have B2 := Lib.hid (B1.out.trans (hb2.mono B1.out.size))
    have X2 := Lib.hid (X1.out.later hb2)
    have Y2 := Lib.hid (Y1.out.later hb2)
    have S2 := Lib.hid s2
    clear hb2 X1 Y1 B1 s2
    obtain ⟨np, hnp⟩ : ∃ n, n = (pList p b).length := ⟨_, rfl⟩
    rw [← hnp] at S2 HPL ⊢
    have HNP := Lib.hid hnp
    clear hnp
    have hcase := pErr_cases p lb
    generalize pErr p lb = er at *
    have hE : er = 1 ∨ er = 4 ∨ er = 0 := hcase
    clear hcase
    obtain ⟨y0, y1, y2⟩ := Y2.out.cells
    obtain ⟨z0, z1, z2⟩ := Y2.out.soft
    by_cases h0 : er = 0
    · subst h0
      have HF := Lib.hid (VO.out rfl)
      clear VE VO hE
      obtain ⟨x0, x1, x2⟩ := X2.out.cells
      have BD := Lib.hid B2.out.drew
      have XD := Lib.hid (X2.out.later (below_drew _ (Nat.le_refl _)))
      have YD := Lib.hid (Y2.out.later (below_drew _ (Nat.le_refl _)))
      have SD := Lib.hid (S2.out.later (below_drew _ (Nat.le_refl _)))
      have hnq : w.heap.size ≠ w.heap.size + 1 := by omega
      clear y0 y1 y2 z0 z1 z2
      go_wp2_with fail
      go_region_held3 (fun W => W.cell? ⟨w.heap.size, 0, none⟩ = some (.slice A0 n0 c0) ∧ W.cell? ⟨w.heap.size, 1, none⟩ = some (.slice A1 n1 c1) ∧ W.cell? ⟨w.heap.size, 2, none⟩ = some (.slice A2 n2 c2))
        (first | exact XD.out.cells | exact hX3.cells | exact hX4.cells | exact hX5.cells | exact hX6.cells | exact ⟨(fset_cell hnq _ _ _).trans hX6.cells.1, (fset_cell hnq _ _ _).trans hX6.cells.2.1, (fset_cell hnq _ _ _).trans hX6.cells.2.2⟩)
        (first
          | (go_at_call 21; (with_reducible refine (LA.out _ _ BD.out SD.out).mono ?_); rintro e w3 ⟨v3, rfl, s3, b3⟩; obtain ⟨A3, c3, rfl, -⟩ := id s3; have hX3 := XD.out.later b3; have hB3 := BD.out.trans (b3.mono BD.out.size))
          | (go_at_call 22; (with_reducible refine (CL.out _ hB3).mono ?_); rintro e w4 ⟨v4, rfl, o4, b4⟩; obtain ⟨A4, c4, rfl, -⟩ := own_slice o4; have hX4 := hX3.later b4; have hB4 := hB3.trans (b4.mono hB3.size); obtain ⟨lp, hlp, hsrc⟩ := ((SD.out.later b3).later b4).src)
          | (go_at_call 23; (with_reducible refine (CO.out _ hB4).mono ?_); rintro e w5 ⟨v5, la, rfl, hla, hP⟩; have hX5 := hX4.later hP.2.2; have hB5 := hB4.trans (hP.2.2.mono hB4.size); have hbound : la.length + lp.length ≤ 1000000 := (by have h1 := congrArg List.length hla; have h2 := congrArg List.length hlp; rw [List.length_map] at h1 h2; rw [← HN2.out] at h1; rw [← HNP.out] at h2; have := HPE.out; have := HPL.out; omega))
          | (refine step_append_pieces rfl (.tmp 33) (.tmp 34) rfl w4.heap.size v5 la.length la (by simp [Act.eval]) hP.1 _ lp (by simp [Act.eval]) (hsrc.later hP.2.2) hbound hP.2.2.size ?_; intro v6 w6 o6 b6 st6; obtain ⟨A6, c6, rfl⟩ := own_slice2 o6; have hW := wr_done s3 b4 o4 hP hsrc o6 b6 st6; have hX6 := hX4.later hW.2; have hY6 := ((YD.out.later b3).later b4).later hW.2; obtain ⟨y0, y1, y2⟩ := hY6.cells; obtain ⟨z0, z1, z2⟩ := hY6.soft))
      all_goals
        have HF2 := Lib.hid (show SeesF (fset w6 (w.heap.size + 1) (.slice A3 (bys (lay f.now (pList p b))).length c3) (.slice A4 n1 c4) (.slice A6 (la.length + lp.length) c6)) (.agg #[.slice A3 (bys (lay f.now (pList p b))).length c3, .slice A4 n1 c4, .slice A6 (la.length + lp.length) c6]) (wrF f p b) ∧ Below w.heap.size w (fset w6 (w.heap.size + 1) (.slice A3 (bys (lay f.now (pList p b))).length c3) (.slice A4 n1 c4) (.slice A6 (la.length + lp.length) c6)) from
          ⟨by rw [HF.out]
              have h := hW.1
              rw [hla, hlp] at h
              exact h.fset hY6 _ _ _, fset_below (hB4.trans (hW.2.mono hB4.size)) (by omega) _ _ _⟩)
        have YF := Lib.hid (hY6.set (.slice A3 (bys (lay f.now (pList p b))).length c3) (.slice A4 n1 c4) (.slice A6 (la.length + lp.length) c6))
        clear hW hX6 hY6 y0 y1 y2 z0 z1 z2 st6 b6 o6 hP hla hlp hsrc hbound hX5 hB5 hX4 hB4 o4 b4 hX3 hB3 s3 b3
        go_wp2_with fail
        change bodyPost _ _ _ _ _ (fset w6 (w.heap.size + 1) (.slice A3 (bys (lay f.now (pList p b))).length c3) (.slice A4 n1 c4) (.slice A6 (la.length + lp.length) c6))
        generalize fset w6 (w.heap.size + 1) (.slice A3 (bys (lay f.now (pList p b))).length c3) (.slice A4 n1 c4) (.slice A6 (la.length + lp.length) c6) = w9 at *
        obtain ⟨y0, y1, y2⟩ := YF.out.cells
        exact bodyPost_ret (by simp [results, Try.results8, go_sem, y0, y1, y2]; rfl) rfl ⟨_, by rw [HE.out], HF2.out.1, HF2.out.2⟩
    · rcases hE with rfl | rfl | h
      · clear h0
        have HF := Lib.hid (VE.out (by decide))
        have YF := Lib.hid (Y2.out.set (.slice none 0 0) (.slice none 0 0) (.slice none 0 0))
        have BF := Lib.hid (fset_below B2.out (show w.heap.size ≤ w.heap.size + 1 by omega) (.slice none 0 0) (.slice none 0 0) (.slice none 0 0))
        clear VE VO LA CL CO
        go_wp2_with fail
        change bodyPost _ _ _ _ _ (fset w2 (w.heap.size + 1) (.slice none 0 0) (.slice none 0 0) (.slice none 0 0))
        generalize fset w2 (w.heap.size + 1) (.slice none 0 0) (.slice none 0 0) (.slice none 0 0) = w9 at *
        obtain ⟨y0, y1, y2⟩ := YF.out.cells
        exact bodyPost_ret (by simp [results, Try.results8, go_sem, y0, y1, y2]; rfl) rfl ⟨_, by rw [HE.out], by rw [HF.out]; exact SeesF.zero _, BF.out⟩
      · clear h0
        have HF := Lib.hid (VE.out (by decide))
        have YF := Lib.hid (Y2.out.set (.slice none 0 0) (.slice none 0 0) (.slice none 0 0))
        have BF := Lib.hid (fset_below B2.out (show w.heap.size ≤ w.heap.size + 1 by omega) (.slice none 0 0) (.slice none 0 0) (.slice none 0 0))
        clear VE VO LA CL CO
        go_wp2_with fail
        change bodyPost _ _ _ _ _ (fset w2 (w.heap.size + 1) (.slice none 0 0) (.slice none 0 0) (.slice none 0 0))
        generalize fset w2 (w.heap.size + 1) (.slice none 0 0) (.slice none 0 0) (.slice none 0 0) = w9 at *
        obtain ⟨y0, y1, y2⟩ := YF.out.cells
        exact bodyPost_ret (by simp [results, Try.results8, go_sem, y0, y1, y2]; rfl) rfl ⟨_, by rw [HE.out], by rw [HF.out]; exact SeesF.zero _, BF.out⟩
      · exact absurd h h0
end Go.Proofs.Ytidhdalfcamhjaa
