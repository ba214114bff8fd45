/-
  The walk of the statements' example: awake returns true, and makes only new memory.
-/
import Derived.Test.YtgoeljfofmnldaaNumPut
namespace Go.Proofs.Ytgoeljfofmnldaa
open Go.RowKit NumM

theorem aw1 (w : World) : Calls Try.prog 7 #[.int .i64 549755813888, .int .i64 549755813888] w fun e w' => e = .returned (.tuple #[.int .i64 1099511627776, .bool true]) ∧ w = w' :=
  plus_yes 549755813888 549755813888 w (by omega) (by omega) (by omega) (by omega) (by omega)
theorem aw2 (w : World) : Calls Try.prog 7 #[.int .i64 1099511627776, .int .i64 1] w fun e w' => e = .returned (.tuple #[.int .i64 0, .bool false]) ∧ w = w' :=
  plus_no3 1099511627776 1 w (by omega) (by omega) (by omega) (by omega) (by omega)
theorem aw3 (w : World) : Calls Try.prog 13 #[.string ⟨#[49, 48, 57, 57, 53, 49, 49, 54, 50, 55, 55, 55, 54]⟩] w fun e w' => e = .returned (.tuple #[.int .i64 1099511627776, .int .i64 0]) ∧ w = w' := by
  have := get_any ⟨#[49, 48, 57, 57, 53, 49, 49, 54, 50, 55, 55, 55, 54]⟩ w (by decide)
  rw [show getV (⟨#[49, 48, 57, 57, 53, 49, 49, 54, 50, 55, 55, 55, 54]⟩ : ByteArray).data.toList = 1099511627776 from by decide +kernel, show getE (⟨#[49, 48, 57, 57, 53, 49, 49, 54, 50, 55, 55, 55, 54]⟩ : ByteArray).data.toList = 0 from by decide +kernel] at this
  exact this
theorem aw4 (w : World) : Calls Try.prog 13 #[.string ⟨#[49, 48, 57, 57, 53, 49, 49, 54, 50, 55, 55, 55, 55]⟩] w fun e w' => e = .returned (.tuple #[.int .i64 0, .int .i64 3]) ∧ w = w' := by
  have := get_any ⟨#[49, 48, 57, 57, 53, 49, 49, 54, 50, 55, 55, 55, 55]⟩ w (by decide)
  rw [show getV (⟨#[49, 48, 57, 57, 53, 49, 49, 54, 50, 55, 55, 55, 55]⟩ : ByteArray).data.toList = 0 from by decide +kernel, show getE (⟨#[49, 48, 57, 57, 53, 49, 49, 54, 50, 55, 55, 55, 55]⟩ : ByteArray).data.toList = 3 from by decide +kernel] at this
  exact this
theorem aw5 (w : World) : Calls Try.prog 13 #[.string ⟨#[48, 49]⟩] w fun e w' => e = .returned (.tuple #[.int .i64 0, .int .i64 2]) ∧ w = w' := by
  have := get_any ⟨#[48, 49]⟩ w (by decide)
  rw [show getV (⟨#[48, 49]⟩ : ByteArray).data.toList = 0 from by decide +kernel, show getE (⟨#[48, 49]⟩ : ByteArray).data.toList = 2 from by decide +kernel] at this
  exact this
theorem putL45 : putL (-45) = [45, 52, 53] := by
  have : putL (-45) = 45 :: dec 45 := rfl
  rw [this, dec_big (by omega), dec_small (by omega)]
  decide +kernel
theorem aw6 (w : World) : Calls Try.prog 15 #[.int .i64 (-45)] w fun e w' => e = .returned (.string ⟨#[45, 52, 53]⟩) ∧ Below w.heap.size w w' := by
  have := put_any (-45) w (by omega) (by omega)
  rw [putL45] at this
  exact this
theorem aw7 (w : World) : Calls Try.prog 12 #[.int .i64 9, .int .i64 0, .int .i64 3] w fun e w' => e = .returned (.int .i64 3) ∧ w = w' := by
  have := clamp_any 9 0 3 w
  rw [show clampV 9 0 3 = 3 from by decide +kernel] at this
  exact this

set_option maxHeartbeats 1000000 in
theorem awake_any (w : World) :
    Calls Try.prog 6 #[] w fun e w' => e = .returned (.bool true) ∧ Below w.heap.size w w' := by
  go_enter Try.func6, Try.ntmps6
  go_wp2_with fail
  refine (aw1 _).mono ?_
  rintro e w' ⟨rfl, rfl⟩
  go_wp2_with fail
  refine (aw2 _).mono ?_
  rintro e w' ⟨rfl, rfl⟩
  go_wp2_with fail
  refine (aw3 _).mono ?_
  rintro e w' ⟨rfl, rfl⟩
  go_wp2_with fail
  refine (aw4 _).mono ?_
  rintro e w' ⟨rfl, rfl⟩
  go_wp2_with fail
  refine (aw5 _).mono ?_
  rintro e w' ⟨rfl, rfl⟩
  go_wp2_with fail
  refine (aw6 _).mono ?_
  rintro e w1 ⟨rfl, hb⟩
  go_wp2_with fail
  refine (aw7 _).mono ?_
  rintro e w' ⟨rfl, rfl⟩
  go_wp2_with fail
  go_ret
  exact ⟨rfl, hb⟩
end Go.Proofs.Ytgoeljfofmnldaa
