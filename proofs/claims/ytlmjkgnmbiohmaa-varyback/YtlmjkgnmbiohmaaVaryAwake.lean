/-
  The walk of the example that the statements of layer 6 share: awake returns true, and makes only new memory.
-/
import Derived.Test.YtlmjkgnmbiohmaaVaryTake
namespace Go.Proofs.Ytlmjkgnmbiohmaa
open Go.RowKit StrM VaryM

/-- Take of bytes that are laid just ahead of the call. -/
theorem take_built (w : World) (l : List UInt8) (hl : l.length ≤ 100) {u x e : Nat} (h : takeL l = (u, x, e)) :
    Calls Try.prog 6 #[.slice (some ⟨w.heap.size, 0, none⟩) l.length l.length] (w.alloc (.cells (bys l).toArray 5)) fun d w' => d = .returned (.tuple #[.int .u64 (u : Int), .int .i64 (x : Int), .int .i64 (e : Int)]) ∧ (w.alloc (.cells (bys l).toArray 5)) = w' := by
  refine (vtake_any _ l _ (SeesV.of_own (own_built w l (by unfold maxLen; omega))) (by omega)).mono ?_
  rintro d w' ⟨rfl, rfl⟩
  exact ⟨(takeE_of h rfl rfl rfl).symm, rfl⟩
theorem vw1 (w : World) : Calls Try.prog 6 #[.slice (some ⟨w.heap.size, 0, none⟩) 3 3] (w.alloc (.cells #[.int .u8 172, .int .u8 2, .int .u8 9] 5)) fun d w' => d = .returned (.tuple #[.int .u64 300, .int .i64 2, .int .i64 0]) ∧ Below w.heap.size w w' := by
  refine (take_built w [172, 2, 9] (by decide) (u := 300) (x := 2) (e := 0) (by decide +kernel)).mono ?_
  rintro d w' ⟨rfl, rfl⟩
  exact ⟨rfl, below_made w _⟩
theorem vw2 (w : World) : Calls Try.prog 6 #[.slice (some ⟨w.heap.size, 0, none⟩) 2 2] (w.alloc (.cells #[.int .u8 128, .int .u8 0] 5)) fun d w' => d = .returned (.tuple #[.int .u64 0, .int .i64 0, .int .i64 12]) ∧ Below w.heap.size w w' := by
  refine (take_built w [128, 0] (by decide) (u := 0) (x := 0) (e := 12) (by decide +kernel)).mono ?_
  rintro d w' ⟨rfl, rfl⟩
  exact ⟨rfl, below_made w _⟩
theorem vw3 (w : World) : Calls Try.prog 6 #[.slice (some ⟨w.heap.size, 0, none⟩) 1 1] (w.alloc (.cells #[.int .u8 128] 5)) fun d w' => d = .returned (.tuple #[.int .u64 0, .int .i64 0, .int .i64 11]) ∧ Below w.heap.size w w' := by
  refine (take_built w [128] (by decide) (u := 0) (x := 0) (e := 11) (by decide +kernel)).mono ?_
  rintro d w' ⟨rfl, rfl⟩
  exact ⟨rfl, below_made w _⟩
theorem vw4 (w : World) : Calls Try.prog 9 #[.int .u64 300] w fun d w' => ∃ v, d = .returned v ∧ SeesV w' v (bys [172, 2]) ∧ Below w.heap.size w w' := by
  refine (vput_any 300 w (by decide)).mono ?_
  rintro d w' ⟨v, rfl, ho, hb⟩
  rw [put300] at ho
  exact ⟨v, rfl, SeesV.of_own ho, hb⟩
theorem vw5 (w : World) : SeesV (w.alloc (.cells #[.int .u8 172, .int .u8 2] 5)) (.slice (some ⟨w.heap.size, 0, none⟩) 2 2) (bys [172, 2]) :=
  SeesV.of_own (own_built w [172, 2] (by unfold maxLen; decide))
theorem vw6 (w : World) : Calls Try.prog 11 #[.int .i64 (-2)] w fun d w' => d = .returned (.int .u64 3) ∧ w = w' := zig_any (-2) w (by decide) (by decide)
theorem vw7 (w : World) : Calls Try.prog 13 #[.int .u64 3] w fun d w' => d = .returned (.int .i64 (-2)) ∧ w = w' := zag_any 3 w (by decide) (by decide)

set_option maxHeartbeats 1000000 in
theorem vawake_any (w : World) :
    Calls Try.prog 5 #[] w fun e w' => e = .returned (.bool true) ∧ Below w.heap.size w w' := by
  go_enter Try.func5, Try.ntmps5
  go_wp2_with fail
  refine (vw1 _).mono ?_
  rintro e w1 ⟨rfl, hb⟩
  have HB1 := Lib.hid hb
  clear hb
  go_wp2_with fail
  refine (vw2 _).mono ?_
  rintro e w2 ⟨rfl, hb⟩
  have HB2 := Lib.hid (HB1.out.trans (hb.mono HB1.out.size))
  clear hb HB1
  go_wp2_with fail
  refine (vw3 _).mono ?_
  rintro e w3 ⟨rfl, hb⟩
  have HB3 := Lib.hid (HB2.out.trans (hb.mono HB2.out.size))
  clear hb HB2
  go_wp2_with fail
  refine (vw4 _).mono ?_
  rintro e w4 ⟨v, rfl, hs, hb⟩
  have HB4 := Lib.hid (HB3.out.trans (hb.mono HB3.out.size))
  have HS := Lib.hid hs
  clear hb HB3 hs
  go_wp2_with fail
  refine (bytes_same _ _ [172, 2] _ (HS.out.later (below_made _ _)) (vw5 _)).mono ?_
  rintro e w' ⟨rfl, rfl⟩
  go_wp2_with fail
  refine (vw6 _).mono ?_
  rintro e w' ⟨rfl, rfl⟩
  go_wp2_with fail
  refine (vw7 _).mono ?_
  rintro e w' ⟨rfl, rfl⟩
  go_wp2_with fail
  go_ret
  exact ⟨rfl, HB4.out.alloc HB4.out.size _⟩
end Go.Proofs.Ytlmjkgnmbiohmaa
