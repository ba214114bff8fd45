/-
  The walk of the example that the statements of layer 7 share: awake returns true, and makes only new memory.
-/
import Derived.Test.YtnjnlbcbdhdipaaCodeRefTake
namespace Go.Proofs.Ytnjnlbcbdhdipaa
open Go.RowKit StrM VaryM CodeM

/-- A row of values that is built with its elements. -/
theorem own_vals (w : World) (l : List V) (hl : l.length ≤ 1000) : (w.alloc (.cells (vals l).toArray 37)).ownsRow w.heap.size 37 3 (.slice (some ⟨w.heap.size, 0, none⟩) l.length l.length) l.length (vals l) :=
  ⟨vals_len l, .inr ⟨w.heap.size, l.length, (vals l).toArray, rfl, Nat.le_refl _, heap_alloc_new w _, Nat.le_refl _, by unfold maxLen; omega, by simp [vals_len], by rw [List.take_of_length_le (by simp [vals_len])]⟩⟩

theorem num_below (n : Int) (w : World) : Calls Try.prog 16 #[.int .i64 n] w fun e w' => e = .returned (.agg #[.int .i64 1, .int .i64 n, .string ⟨#[]⟩]) ∧ Below w.heap.size w w' := by
  refine (num_any n w).mono ?_
  rintro e w' ⟨rfl, rfl⟩
  exact ⟨rfl, below_made w _⟩
theorem text_below (s : ByteArray) (w : World) : Calls Try.prog 17 #[.string s] w fun e w' => e = .returned (.agg #[.int .i64 2, .int .i64 0, .string s]) ∧ Below w.heap.size w w' := by
  refine (text_any s w).mono ?_
  rintro e w' ⟨rfl, rfl⟩
  exact ⟨rfl, below_made w _⟩

theorem put_ex : put [⟨1, 1, ⟨#[]⟩⟩, ⟨2, 0, ⟨#[97]⟩⟩] = [2, 1, 2, 2, 1, 97] := by
  rw [put, encs, encs, encs, enc_num rfl, enc_text (show (2 : Int) ≠ 1 by decide)]
  rw [show (zig (V.n ⟨1, 1, ⟨#[]⟩⟩)).toNat = 2 from rfl, show (V.t ⟨2, 0, ⟨#[97]⟩⟩).size = 1 from rfl, putL_small (by decide), putL_small (by decide), putL_small (by decide)]
  rfl
theorem right_ex : CodeM.right [⟨1, 1, ⟨#[]⟩⟩, ⟨2, 0, ⟨#[97]⟩⟩] = true := by kernel_rfl
theorem right_no : CodeM.right [⟨0, 0, ⟨#[]⟩⟩] = false := by kernel_rfl
theorem take_ex : CodeM.take [1, 2, 0, 7] = ([⟨2, 0, ⟨#[]⟩⟩], 3, 0) := by kernel_rfl
theorem take_no : CodeM.take [1, 3] = ([], 0, 16) := by kernel_rfl

theorem cw1 (w : World) : Calls Try.prog 8 #[.slice (some ⟨w.heap.size, 0, none⟩) 2 2] (w.alloc (.cells #[.int .i64 1, .int .i64 1, .string ⟨#[]⟩, .int .i64 2, .int .i64 0, .string ⟨#[97]⟩] 37)) fun d w' => ∃ v, d = .returned (.tuple #[v, .int .i64 0]) ∧ SeesV w' v (bys [2, 1, 2, 2, 1, 97]) ∧ Below w.heap.size w w' := by
  refine (puts_any _ [⟨1, 1, ⟨#[]⟩⟩, ⟨2, 0, ⟨#[97]⟩⟩] _ (SeesS.of_own (own_vals w [⟨1, 1, ⟨#[]⟩⟩, ⟨2, 0, ⟨#[97]⟩⟩] (by decide))) (by
    intro v hv
    simp at hv
    rcases hv with rfl | rfl <;> exact ⟨by simp, by simp⟩)).mono ?_
  rintro d w' ⟨v, rfl, ho, hb⟩
  rw [right_ex] at ho ⊢
  simp only [if_true] at ho
  rw [put_ex] at ho
  exact ⟨v, rfl, SeesV.of_own ho, (below_made w _).trans (hb.mono (below_made w _).size)⟩
theorem cw2 (w : World) : Calls Try.prog 13 #[.slice (some ⟨w.heap.size, 0, none⟩) 4 4] (w.alloc (.cells #[.int .u8 1, .int .u8 2, .int .u8 0, .int .u8 7] 5)) fun d w' => ∃ v, d = .returned (.tuple #[v, .int .i64 3, .int .i64 0]) ∧ SeesS w' v [⟨2, 0, ⟨#[]⟩⟩] ∧ Below w.heap.size w w' := by
  refine (takes_any _ 4 4 [1, 2, 0, 7] _ (SeesV.of_own (own_built w [1, 2, 0, 7] (by unfold maxLen; simp))) (by decide) (by decide)).mono ?_
  rintro d w' ⟨v, rfl, ho, hb⟩
  rw [take_ex] at ho ⊢
  exact ⟨v, rfl, SeesS.of_own ho, (below_made w _).trans (hb.mono (below_made w _).size)⟩
theorem cw3 (w : World) : Calls Try.prog 13 #[.slice (some ⟨w.heap.size, 0, none⟩) 2 2] (w.alloc (.cells #[.int .u8 1, .int .u8 3] 5)) fun d w' => ∃ v, d = .returned (.tuple #[v, .int .i64 0, .int .i64 16]) ∧ Below w.heap.size w w' := by
  refine (takes_any _ 2 2 [1, 3] _ (SeesV.of_own (own_built w [1, 3] (by unfold maxLen; simp))) (by decide) (by decide)).mono ?_
  rintro d w' ⟨v, rfl, ho, hb⟩
  rw [take_no]
  exact ⟨v, rfl, (below_made w _).trans (hb.mono (below_made w _).size)⟩
theorem cw4 (w : World) : SeesV (w.alloc (.cells #[.int .u8 2, .int .u8 1, .int .u8 2, .int .u8 2, .int .u8 1, .int .u8 97] 5)) (.slice (some ⟨w.heap.size, 0, none⟩) 6 6) (bys [2, 1, 2, 2, 1, 97]) :=
  SeesV.of_own (own_built w [2, 1, 2, 2, 1, 97] (by unfold maxLen; decide))
theorem cw5 (v : Value) (w : World) (h : SeesS w v [⟨2, 0, ⟨#[]⟩⟩]) : Calls Try.prog 15 #[v, .slice (some ⟨w.heap.size, 0, none⟩) 1 1] (w.alloc (.cells #[.int .i64 2, .int .i64 0, .string ⟨#[]⟩] 37)) fun e w' => e = .returned (.bool true) ∧ Below w.heap.size w w' := by
  refine (vals_same _ _ [⟨2, 0, ⟨#[]⟩⟩] _ (h.later (below_made w _)) (SeesS.of_own (own_vals w [⟨2, 0, ⟨#[]⟩⟩] (by decide))) (by decide)).mono ?_
  rintro e w' ⟨rfl, hb⟩
  exact ⟨rfl, (below_made w _).trans (hb.mono (below_made w _).size)⟩
theorem cw6 (w : World) : Calls Try.prog 10 #[.slice (some ⟨w.heap.size, 0, none⟩) 1 1] (w.alloc (.cells #[.int .i64 0, .int .i64 0, .string ⟨#[]⟩] 37)) fun e w' => e = .returned (.bool false) ∧ Below w.heap.size w w' := by
  refine (rights_any _ [⟨0, 0, ⟨#[]⟩⟩] _ (SeesS.of_own (own_vals w [⟨0, 0, ⟨#[]⟩⟩] (by decide)))).mono ?_
  rintro e w' ⟨rfl, hb⟩
  rw [right_no]
  exact ⟨rfl, (below_made w _).trans (hb.mono (below_made w _).size)⟩

/-- Bytes, and a letter for the world behind it. -/
theorem bytes_same' (v1 v2 : Value) (l : List UInt8) (w : World) (h1 : SeesV w v1 (bys l)) (h2 : SeesV w v2 (bys l)) :
    Calls Try.prog 11 #[v1, v2] w fun e w' => e = .returned (.bool true) ∧ Below w.heap.size w w' := by
  refine (bytes_same v1 v2 l w h1 h2).mono ?_
  rintro e w' ⟨rfl, rfl⟩
  exact ⟨rfl, Below.refl _ _⟩

set_option maxHeartbeats 2000000 in
set_option maxRecDepth 100000 in
theorem cawake_any (w : World) :
    Calls Try.prog 7 #[] w fun e w' => e = .returned (.bool true) ∧ Below w.heap.size w w' := by
  go_enter Try.func7, Try.ntmps7
  go_wp2_with fail
  refine (num_below _ _).mono ?_
  rintro e w1 ⟨rfl, hb⟩
  have HB1 := Lib.hid hb
  clear hb
  go_wp2_with fail
  refine (text_below _ _).mono ?_
  rintro e w2 ⟨rfl, hb⟩
  have HB2 := Lib.hid (HB1.out.trans (hb.mono HB1.out.size))
  clear hb HB1
  go_wp2_with fail
  refine (cw1 _).mono ?_
  rintro e w3 ⟨v3, rfl, hs, hb⟩
  have HB3 := Lib.hid (HB2.out.trans (hb.mono HB2.out.size))
  have S3 := Lib.hid hs
  clear hb HB2 hs
  go_wp2_with fail
  refine (cw2 _).mono ?_
  rintro e w4 ⟨v4, rfl, hs, hb⟩
  have HB4 := Lib.hid (HB3.out.trans (hb.mono HB3.out.size))
  have T3 := Lib.hid (S3.out.later hb)
  have S4 := Lib.hid hs
  clear hb HB3 hs S3
  go_wp2_with fail
  refine (cw3 _).mono ?_
  rintro e w5 ⟨v5, rfl, hb⟩
  have HB5 := Lib.hid (HB4.out.trans (hb.mono HB4.out.size))
  have U3 := Lib.hid (T3.out.later hb)
  have T4 := Lib.hid (S4.out.later hb)
  clear hb HB4 S4 T3
  go_wp2_with fail
  refine (bytes_same' _ _ [2, 1, 2, 2, 1, 97] _ (U3.out.later (below_made _ _)) (cw4 _)).mono ?_
  rintro e w6 ⟨rfl, hb⟩
  have HB6 := Lib.hid ((HB5.out.alloc HB5.out.size _).trans (hb.mono (HB5.out.alloc HB5.out.size _).size))
  have U4 := Lib.hid ((T4.out.later (below_made _ _)).later hb)
  clear hb HB5 T4
  go_wp2_with fail
  refine (cw5 _ _ U4.out).mono ?_
  rintro e w7 ⟨rfl, hb⟩
  have HB7 := Lib.hid (HB6.out.trans (hb.mono HB6.out.size))
  clear hb HB6 U4
  go_wp2_with fail
  refine (cw6 _).mono ?_
  rintro e w8 ⟨rfl, hb⟩
  have HB8 := Lib.hid (HB7.out.trans (hb.mono HB7.out.size))
  clear hb HB7
  go_wp2_with fail
  go_ret
  exact ⟨rfl, HB8.out⟩
end Go.Proofs.Ytnjnlbcbdhdipaa
