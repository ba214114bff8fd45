/-
  The walk of the example that the statements of layer 8 share: awake returns true, and makes only new memory.
-/
import Derived.Test.YtknkjoaihnipbaaBlockPieces
import Derived.Test.YtknkjoaihnipbaaBlockLay
namespace Go.Proofs.Ytknkjoaihnipbaa
open Go.RowKit StrM BlockM

theorem pieces_ex : pieces 10 (List.replicate 20 0) = [⟨10, List.replicate 6 0⟩, ⟨16, List.replicate 14 0⟩] := by
  rw [pieces_some 10 (by simp), show room 10 = 6 from rfl, show (List.replicate 20 (0 : UInt8)).take 6 = List.replicate 6 0 from rfl, show (List.replicate 20 (0 : UInt8)).drop 6 = List.replicate 14 0 from rfl,
    pieces_short 16 (by simp) (by simp [room])]
  rfl
theorem lay_ex : lay [1] [⟨3, [9]⟩] = [1, 0, 0, 9] := by decide

theorem bytes_same' (v1 v2 : Value) (l : List UInt8) (w : World) (h1 : SeesV w v1 (bys l)) (h2 : SeesV w v2 (bys l)) :
    Calls Try.prog 12 #[v1, v2] w fun e w' => e = .returned (.bool true) ∧ Below w.heap.size w w' := by
  refine (bytes_same v1 v2 l w h1 h2).mono ?_
  rintro e w' ⟨rfl, rfl⟩
  exact ⟨rfl, Below.refl _ _⟩

theorem aw1 (g : Nat) (w : World) (h : Whole w g (List.replicate 20 0)) : Calls Try.prog 7 #[.int .i64 10, .slice (some ⟨g, 0, none⟩) 20 20] w fun e w' => ∃ v, e = .returned (.tuple #[v, .int .i64 0]) ∧ SeesP w' v [⟨10, List.replicate 6 0⟩, ⟨16, List.replicate 14 0⟩] ∧ Below w.heap.size w w' := by
  refine (pieces_any 10 _ 20 20 (List.replicate 20 0) w (h.sees 20 20 (by simp)) (by simp) (by decide) (by decide) (by decide)).mono ?_
  rintro e w' ⟨v, rfl, hv, hb⟩
  refine ⟨v, by rw [List.length_replicate]; rfl, ?_, hb⟩
  have e1 : pList 10 (List.replicate 20 0) = pieces 10 (List.replicate 20 0) := by
    rw [pList, if_neg (by decide), if_neg (by rw [List.length_replicate]; decide)]; rfl
  rw [e1, pieces_ex] at hv
  exact hv
theorem aw2 (w : World) : Calls Try.prog 7 #[.int .i64 65536, .slice (some ⟨w.heap.size, 0, none⟩) 1 1] (w.alloc (.cells #[.int .u8 1] 5)) fun e w' => ∃ v, e = .returned (.tuple #[v, .int .i64 4]) ∧ Below w.heap.size w w' := by
  refine (pieces_any 65536 _ 1 1 [1] _ (SeesV.of_own (own_built w [1] (by unfold maxLen; simp))) rfl (by decide) (by decide) (by decide)).mono ?_
  rintro e w' ⟨v, rfl, -, hb⟩
  exact ⟨v, rfl, (below_made w _).trans (hb.mono (below_made w _).size)⟩
/-- What awake lays ahead of Lay: the bytes 1 and 9, and a row of one piece. -/
theorem aw3 (w : World) : Calls Try.prog 13 #[.slice (some ⟨w.heap.size, 0, none⟩) 1 1, .slice (some ⟨w.heap.size + 1 + 1, 0, none⟩) 1 1] (((w.alloc (.cells #[.int .u8 1] 5)).alloc (.cells #[.int .u8 9] 5)).alloc (.cells #[.int .i64 3, .slice (some ⟨w.heap.size + 1, 0, none⟩) 1 1] 32)) fun e w' => ∃ v, e = .returned v ∧ SeesV w' v (bys [1, 0, 0, 9]) ∧ Below w.heap.size w w' := by
  obtain ⟨wa, ha⟩ : ∃ wa, wa = w.alloc (.cells #[.int .u8 1] 5) := ⟨_, rfl⟩
  obtain ⟨wb, hb⟩ : ∃ wb, wb = wa.alloc (.cells #[.int .u8 9] 5) := ⟨_, rfl⟩
  obtain ⟨wc, hc⟩ : ∃ wc, wc = wb.alloc (.cells #[.int .i64 3, .slice (some ⟨w.heap.size + 1, 0, none⟩) 1 1] 32) := ⟨_, rfl⟩
  rw [← ha, ← hb, ← hc]
  have sa : wa.heap.size = w.heap.size + 1 := by rw [ha]; simp
  have sb : wb.heap.size = w.heap.size + 1 + 1 := by rw [hb]; simp [sa]
  have b1 : Below w.heap.size w wa := by rw [ha]; exact below_made w _
  have b2 : Below wa.heap.size wa wb := by rw [hb]; exact below_made wa _
  have b3 : Below wb.heap.size wb wc := by rw [hc]; exact below_made wb _
  have s1 : SeesV wa (.slice (some ⟨w.heap.size, 0, none⟩) 1 1) (bys [1]) := by rw [ha]; exact SeesV.of_own (own_built w [1] (by unfold maxLen; simp))
  have s2 : SeesV wb (.slice (some ⟨w.heap.size + 1, 0, none⟩) 1 1) (bys [9]) := by rw [hb, ← sa]; exact SeesV.of_own (own_built wa [9] (by unfold maxLen; simp))
  have bo : PBox wc wb.heap.size 3 (.slice (some ⟨w.heap.size + 1, 0, none⟩) 1 1) := by rw [hc]; exact PBox.made wb 3 _
  have sp : SeesP wc (.slice (some ⟨w.heap.size + 1 + 1, 0, none⟩) 1 1) [⟨3, [9]⟩] := by
    rw [← sb]
    refine ⟨_, 1, rfl, .inr ⟨_, 0, rfl, bo.2.2, fun k hk => ?_⟩⟩
    have hk : k = 0 := by simpa using hk
    subst hk
    exact ⟨bo.1, _, bo.2.1, s2.later b3⟩
  have b123 : Below w.heap.size w wc := (b1.trans (b2.mono b1.size)).trans (b3.mono (b1.trans (b2.mono b1.size)).size)
  refine (lay_any _ 1 1 [1] _ [⟨3, [9]⟩] wc rfl (by decide) ((s1.later b2).later b3) sp (by intro x hx; simp at hx; subst hx; decide) (by decide)).mono ?_
  rintro e w' ⟨v, rfl, hv, hbb⟩
  rw [lay_ex] at hv
  exact ⟨v, rfl, hv, b123.trans (hbb.mono b123.size)⟩
theorem aw4 (w : World) : SeesV (w.alloc (.cells #[.int .u8 1, .int .u8 0, .int .u8 0, .int .u8 9] 5)) (.slice (some ⟨w.heap.size, 0, none⟩) 4 4) (bys [1, 0, 0, 9]) :=
  SeesV.of_own (own_built w [1, 0, 0, 9] (by unfold maxLen; decide))

set_option maxHeartbeats 2000000 in
set_option maxRecDepth 100000 in
theorem bawake_any (w : World) :
    Calls Try.prog 6 #[] w fun e w' => e = .returned (.bool true) ∧ Below w.heap.size w w' := by
  obtain ⟨w1, hmk, hw1, hb1⟩ := made_whole w 20 (by decide)
  have W1 := Lib.hid hw1
  have B1 := Lib.hid hb1
  have hmk : (Instr.makeSlice 22 (.int .i64 20) (.int .i64 20)).run Try.prog w = .ok (.slice (some ⟨w.heap.size, 0, none⟩) 20 20) w1 := hmk
  clear hw1 hb1
  go_enter Try.func6, Try.ntmps6
  go_wp2_with fail
  refine (aw1 _ _ W1.out).mono ?_
  rintro e w2 ⟨v2, rfl, hs, hb⟩
  obtain ⟨a2, c2, rfl, -⟩ := id hs
  have S2 := Lib.hid hs
  have B2 := Lib.hid (B1.out.trans (hb.mono B1.out.size))
  clear hs hb hmk
  go_wp2_with fail
  refine (aw2 _).mono ?_
  rintro e w3 ⟨v3, rfl, hb⟩
  have B3 := Lib.hid (B2.out.trans (hb.mono B2.out.size))
  have S3 := Lib.hid (S2.out.later hb)
  obtain ⟨g, off, A1, c1, rfl, hg, h1, h2, -⟩ := S3.out.cells (k := 0) (by simp)
  obtain ⟨g', off', A1', c1', hgg, hg', h1', h2', -⟩ := S3.out.cells (k := 1) (by simp)
  injection hgg with hgg
  injection hgg with e1 e2 _
  subst e1 e2
  simp at h1 h2 h1' h2'
  clear hb
  go_wp2_with fail
  refine (aw3 _).mono ?_
  rintro e w4 ⟨v4, rfl, hs, hb⟩
  have B4 := Lib.hid (B3.out.trans (hb.mono B3.out.size))
  have S4 := Lib.hid hs
  clear hs hb
  go_wp2_with fail
  refine (bytes_same' _ _ [1, 0, 0, 9] _ (S4.out.later (below_made _ _)) (aw4 _)).mono ?_
  rintro e w5 ⟨rfl, hb⟩
  have B5 := Lib.hid ((B4.out.alloc B4.out.size _).trans (hb.mono (B4.out.alloc B4.out.size _).size))
  clear hb
  go_wp2_with fail
  go_ret
  exact ⟨rfl, B5.out⟩
end Go.Proofs.Ytknkjoaihnipbaa
