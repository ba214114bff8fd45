/-
  The walk of the example that the statements of layer 9 share: awake returns true, and makes only new memory.
-/
import Derived.Test.YtidhdalfcamhjaaFileSync
namespace Go.Proofs.Ytidhdalfcamhjaa
open Go.RowKit StrM BlockM FileM

def exN : List UInt8 := [0, 0, 0, 0, 0, 0, 0, 0, 0, 0, 0, 0, 0, 0, 0, 1, 2]
def exC : List UInt8 := [0, 0, 0, 0, 0, 0, 0, 0, 0, 0, 0, 0, 0, 0, 0, 0, 2]
def exF : Fl := ⟨exN, [], [⟨15, [1]⟩, ⟨16, [2]⟩]⟩
theorem ex_pieces : pieces 15 [1, 2] = [⟨15, [1]⟩, ⟨16, [2]⟩] := by
  rw [pieces_some 15 (by simp), show room 15 = 1 from rfl, show ([1, 2] : List UInt8).take 1 = [1] from rfl, show ([1, 2] : List UInt8).drop 1 = [2] from rfl,
    pieces_short 16 (by simp) (by simp [room])]
  rfl
theorem ex_list : pList 15 [1, 2] = [⟨15, [1]⟩, ⟨16, [2]⟩] := by
  rw [pList, if_neg (by decide), if_neg (by decide)]; exact ex_pieces
theorem ex_err : pErr 15 2 = 0 := by decide
theorem ex_wr : wrF zf 15 [1, 2] = exF := by
  rw [wrF_ok valid_zf ex_err, ex_list]
  have : lay [] [⟨15, [1]⟩, ⟨16, [2]⟩] = exN := by decide
  show (⟨lay [] _, [], [] ++ _⟩ : Fl) = _
  rw [this]; rfl
theorem ex_we : wrE zf 15 2 = 0 := by rw [wrE_ok valid_zf, ex_err]
theorem ex_valid : valid exF = true := by decide
theorem ex_cr : crF exF [false, true] = ⟨exC, exC, []⟩ := by
  rw [crF_ok ex_valid]
  have : crC exF [false, true] = exC := by decide
  rw [this]
theorem ex_cn : crN exF = 2 := by rw [crN_ok ex_valid]; rfl
theorem ex_sy : syn exF = ⟨exN, exN, []⟩ := syn_ok ex_valid
theorem ex_sv : valid ⟨exN, exN, []⟩ = true := by rw [← ex_sy]; exact valid_syn _
theorem ex_sc : crF ⟨exN, exN, []⟩ [] = ⟨exN, exN, []⟩ := by
  rw [crF_ok ex_sv]; rfl
theorem ex_sn : crN ⟨exN, exN, []⟩ = 0 := by rw [crN_ok ex_sv]; rfl
theorem ex_sz : Sz exF := ⟨by decide, by decide, by decide, by intro x hx; simp [exF] at hx; rcases hx with rfl | rfl <;> decide⟩
theorem ex_sz0 : Sz zf := ⟨by decide, by decide, by decide, by intro x hx; cases hx⟩
theorem ex_szs : Sz ⟨exN, exN, []⟩ := ⟨by decide, by decide, by decide, by intro x hx; cases hx⟩

theorem SeesF.slices' {w : World} {v : Value} {f : Fl} (h : SeesF w v f) {n0 n1 n2 : Nat} (e0 : f.now.length = n0) (e1 : f.sure.length = n1) (e2 : f.pend.length = n2) : ∃ A0 c0 A1 c1 A2 c2, v = .agg #[.slice A0 n0 c0, .slice A1 n1 c1, .slice A2 n2 c2] ∧
    SeesV w (.slice A0 n0 c0) (bys f.now) ∧ SeesV w (.slice A1 n1 c1) (bys f.sure) ∧ SeesP w (.slice A2 n2 c2) f.pend := by
  subst e0 e1 e2
  exact h.slices

theorem fa1 (w : World) : Calls Try.prog 8 #[.agg #[.slice none 0 0, .slice none 0 0, .slice none 0 0], .int .i64 15, .slice (some ⟨w.heap.size, 0, none⟩) 2 2] (w.alloc (.cells #[.int .u8 1, .int .u8 2] 5)) (fun e w' => ∃ v, e = .returned (.tuple #[v, .int .i64 0]) ∧ SeesF w' v exF ∧ Below w.heap.size w w') := by
  refine (fwrite_any _ zf 15 _ 2 2 [1, 2] _ (SeesF.zero _) ex_sz0 (SeesV.of_own (own_built w [1, 2] (by unfold maxLen; simp))) rfl (by decide) (by decide) (by decide)).mono ?_
  rintro e w' ⟨v, rfl, hs, hb⟩
  rw [ex_wr] at hs
  exact ⟨v, by rw [ex_we], hs, (below_made w _).trans (hb.mono (below_made w _).size)⟩
theorem bools_built (w : World) : SeesV (w.alloc (.cells #[.bool false, .bool true] 4)) (.slice (some ⟨w.heap.size, 0, none⟩) 2 2) (bools [false, true]) := by
  refine ⟨_, 2, rfl, .inr ⟨w.heap.size, 0, rfl, by simp, fun k hk => ?_⟩⟩
  rw [cell_of_row _ w.heap.size _ _ _ (0, 0) (heap_alloc_new w _)]
  have hk : k < 2 := hk
  match k, hk with
  | 0, _ => rfl
  | 1, _ => rfl
theorem fa2 (v : Value) (w : World) (q : Nat) (hq : w.heap.size = q) (h : SeesF w v exF) : Calls Try.prog 10 #[v, .slice (some ⟨q, 0, none⟩) 2 2] (w.alloc (.cells #[.bool false, .bool true] 4)) (fun e w' => ∃ v, e = .returned (.tuple #[v, .int .i64 2]) ∧ SeesF w' v ⟨exC, exC, []⟩ ∧ Below w.heap.size w w') := by
  subst hq
  refine (fcrash_any _ _ exF [false, true] _ (h.later (below_made _ _)) ex_sz (bools_built w)).mono ?_
  rintro e w' ⟨v, rfl, hs, hb⟩
  rw [ex_cr] at hs
  exact ⟨v, by rw [ex_cn]; rfl, hs, (below_made w _).trans (hb.mono (below_made w _).size)⟩
theorem fa3 (v : Value) (w : World) (h : SeesF w v exF) : Calls Try.prog 15 #[v] w (fun e w' => ∃ v, e = .returned v ∧ SeesF w' v ⟨exN, exN, []⟩ ∧ Below w.heap.size w w') := by
  refine (fsync_any _ exF _ h ex_sz).mono ?_
  rintro e w' ⟨v, rfl, hs, hb⟩
  rw [ex_sy] at hs
  exact ⟨v, rfl, hs, hb⟩
theorem fa4 (v : Value) (w : World) (h : SeesF w v ⟨exN, exN, []⟩) : Calls Try.prog 10 #[v, .slice none 0 0] w (fun e w' => ∃ v, e = .returned (.tuple #[v, .int .i64 0]) ∧ SeesF w' v ⟨exN, exN, []⟩ ∧ Below w.heap.size w w') := by
  refine (fcrash_any _ _ _ [] _ h ex_szs ⟨none, 0, rfl, .inl rfl⟩).mono ?_
  rintro e w' ⟨v, rfl, hs, hb⟩
  rw [ex_sc] at hs
  exact ⟨v, by rw [ex_sn]; rfl, hs, hb⟩
theorem fa5 (v : Value) (w : World) (h : SeesF w v exF) : Calls Try.prog 12 #[v] w (fun e w' => e = .returned (.bool true) ∧ Below w.heap.size w w') := by
  refine (fright_any _ exF _ h ex_sz).mono ?_
  rintro e w' ⟨rfl, hb⟩
  exact ⟨by rw [ex_valid], hb⟩

set_option maxHeartbeats 4000000 in
set_option maxRecDepth 100000 in
theorem fawake_any (w : World) :
    Calls Try.prog 7 #[] w fun e w' => e = .returned (.bool true) ∧ Below w.heap.size w w' := by
  go_enter Try.func7, Try.ntmps7
  go_wp2_with fail
  refine (fa1 _).mono ?_
  rintro e w1 ⟨v1, rfl, s1, b1⟩
  obtain ⟨A0, c0, A1, c1, A2, c2, rfl, -, -, -⟩ := s1.slices' (n0 := 17) (n1 := 0) (n2 := 2) rfl rfl rfl
  have X1 := Lib.hid (FBox.made w1 (.slice A0 17 c0) (.slice A1 0 c1) (.slice A2 2 c2))
  have BX := Lib.hid (below_made w1 (.cells #[.slice A0 17 c0, .slice A1 0 c1, .slice A2 2 c2] 25))
  have B1' := Lib.hid (b1.trans (BX.out.mono b1.size))
  have S1' := Lib.hid (s1.later BX.out)
  clear s1 b1
  go_wp2_with fail
  refine (fa2 _ _ _ (by simp) S1'.out).mono ?_
  rintro e w2 ⟨v2, rfl, s2, b2⟩
  have B2 := Lib.hid (B1'.out.trans (b2.mono B1'.out.size))
  have X2 := Lib.hid (X1.out.later b2)
  have S2 := Lib.hid (S1'.out.later b2)
  obtain ⟨D0, d0, D1, d1, D2, d2, rfl, -, -, -⟩ := s2.slices' (n0 := 17) (n1 := 17) (n2 := 0) rfl rfl rfl
  have G2 := Lib.hid s2
  clear s2 b2 X1 BX B1' S1'
  have Y3 := Lib.hid (FBox.made w2 (.slice D0 17 d0) (.slice D1 17 d1) (.slice D2 0 d2))
  have BY := Lib.hid (below_made w2 (.cells #[.slice D0 17 d0, .slice D1 17 d1, .slice D2 0 d2] 25))
  have B3 := Lib.hid (B2.out.trans (BY.out.mono B2.out.size))
  have X3 := Lib.hid (X2.out.later BY.out)
  have S3 := Lib.hid (S2.out.later BY.out)
  have G3 := Lib.hid (G2.out.later BY.out)
  obtain ⟨x0, x1, x2⟩ := X2.out.cells
  have hlt : w1.heap.size < w2.heap.size := X2.out.lt
  have hne : ¬ w1.heap.size = w2.heap.size := by omega
  clear B2 X2 S2 G2 BY
  go_wp2_with fail
  refine (fa3 _ _ S3.out).mono ?_
  rintro e w3 ⟨v3, rfl, s3, b3⟩
  have B4 := Lib.hid (B3.out.trans (b3.mono B3.out.size))
  have X4 := Lib.hid (X3.out.later b3)
  have Y4 := Lib.hid (Y3.out.later b3)
  have S4 := Lib.hid (S3.out.later b3)
  have G4 := Lib.hid (G3.out.later b3)
  have H4 := Lib.hid s3
  clear x0 x1 x2 B3 X3 Y3 S3 G3 s3 b3
  go_wp2_with fail
  refine (fa4 _ _ H4.out).mono ?_
  rintro e w4 ⟨v4, rfl, s4, b4⟩
  have B5 := Lib.hid (B4.out.trans (b4.mono B4.out.size))
  have X5 := Lib.hid (X4.out.later b4)
  have Y5 := Lib.hid (Y4.out.later b4)
  have S5 := Lib.hid (S4.out.later b4)
  have G5 := Lib.hid (G4.out.later b4)
  obtain ⟨E0, e0, E1, e1, E2, e2, rfl, h0, -, -⟩ := s4.slices' (n0 := 17) (n1 := 17) (n2 := 0) rfl rfl rfl
  obtain ⟨_, _, _, hag, g0, -, -⟩ := G5.out
  injection hag with hag
  simp at hag
  obtain ⟨rfl, rfl, rfl⟩ := hag
  have hN : w4.heap.size = w4.heap.size := rfl
  obtain ⟨q, o, rfl, hq, y15⟩ := SeesV.cell g0 (k := 15) (by decide)
  obtain ⟨q', o', ee, hq', y16⟩ := SeesV.cell g0 (k := 16) (by decide)
  obtain ⟨r, p, rfl, hr, z15⟩ := SeesV.cell h0 (k := 15) (by decide)
  injection ee with ee
  injection ee with e1' e2' _
  subst e1' e2'
  have BZ := Lib.hid (below_made w4 (.cells #[.slice (some ⟨r, p, none⟩) 17 e0, .slice E1 17 e1, .slice E2 0 e2] 25))
  have B6 := Lib.hid (B5.out.trans (BZ.out.mono B5.out.size))
  have S6 := Lib.hid (S5.out.later BZ.out)
  obtain ⟨x0, x1, x2⟩ := X5.out.cells
  obtain ⟨y0, y1, y2⟩ := Y5.out.cells
  have l1 : w1.heap.size < w4.heap.size := X5.out.lt
  have l2 : w2.heap.size < w4.heap.size := Y5.out.lt
  clear s4 b4 X4 Y4 S4 G4 H4 B4 g0 h0 B5 S5 G5
  simp [exC, exN] at y15 y16 z15
  go_wp2_with fail
  refine (fa5 _ _ S6.out).mono ?_
  rintro e w5 ⟨rfl, b5⟩
  have B7 := Lib.hid (B6.out.trans (b5.mono B6.out.size))
  clear b5
  go_wp2_with fail
  go_ret
  exact ⟨rfl, B7.out⟩
end Go.Proofs.Ytidhdalfcamhjaa
