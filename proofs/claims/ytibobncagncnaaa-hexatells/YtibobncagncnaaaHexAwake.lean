/-
  The walk of the example that the statements of layer 3 share: awake returns true, and makes only new memory.
-/
import Derived.Test.YtibobncagncnaaaHexGet
namespace Go.Proofs.Ytibobncagncnaaa
open Go.RowKit StrM

theorem hw1 (w : World) : Calls Try.prog 6 #[.string ⟨#[102, 70, 48, 49]⟩] w fun e w' => ∃ v, e = .returned (.tuple #[v, .int .i64 0]) ∧ SeesV w' v (bys [255, 1]) ∧ Below w.heap.size w w' := by
  refine (get_any ⟨#[102, 70, 48, 49]⟩ w (by decide +kernel)).mono ?_
  rintro e w' ⟨v, rfl, ho, hb⟩
  rw [show unV (⟨#[102, 70, 48, 49]⟩ : ByteArray).data.toList = [255, 1] from by decide +kernel] at ho
  rw [show unE (⟨#[102, 70, 48, 49]⟩ : ByteArray).data.toList = 0 from by decide +kernel]
  exact ⟨v, rfl, SeesV.of_own ho, hb⟩
theorem hw2 (w : World) : Calls Try.prog 6 #[.string ⟨#[102]⟩] w fun e w' => ∃ v, e = .returned (.tuple #[v, .int .i64 2]) ∧ Below w.heap.size w w' := by
  refine (get_any ⟨#[102]⟩ w (by decide +kernel)).mono ?_
  rintro e w' ⟨v, rfl, ho, hb⟩
  rw [show unE (⟨#[102]⟩ : ByteArray).data.toList = 2 from by decide +kernel]
  exact ⟨v, rfl, hb⟩
theorem sees_two (w : World) (x y : UInt8) (T : TypeId) : SeesV (w.alloc (.cells #[.int .u8 (x.toNat : Int), .int .u8 (y.toNat : Int)] T)) (.slice (some ⟨w.heap.size, 0, none⟩) 2 2) (bys [x, y]) := by
  refine ⟨_, 2, rfl, .inr ⟨_, 0, rfl, by simp, fun k hk => ?_⟩⟩
  match k, hk with
  | 0, _ => simp [bys]
  | 1, _ => simp [bys]
theorem hw3 (w : World) (T : TypeId) : Calls Try.prog 8 #[.slice (some ⟨w.heap.size, 0, none⟩) 2 2] (w.alloc (.cells #[.int .u8 255, .int .u8 1] T)) fun e w' => e = .returned (.string ⟨#[102, 102, 48, 49]⟩) ∧ Below w.heap.size w w' := by
  refine (put_any _ [255, 1] _ (sees_two w 255 1 T) (by decide)).mono ?_
  rintro e w' ⟨rfl, hb⟩
  rw [show hexS [255, 1] = ⟨#[102, 102, 48, 49]⟩ from by decide +kernel]
  exact ⟨rfl, (below_made w _).trans (hb.mono (by simp))⟩

set_option maxHeartbeats 1000000 in
theorem awake_any (w : World) :
    Calls Try.prog 5 #[] w fun e w' => e = .returned (.bool true) ∧ Below w.heap.size w w' := by
  go_enter Try.func5, Try.ntmps5
  go_wp2_with fail
  refine (hw1 _).mono ?_
  rintro e w1 ⟨v, rfl, hs, hb⟩
  have HS := Lib.hid hs
  have HB := Lib.hid hb
  clear hs hb
  go_wp2_with fail
  refine (hw2 _).mono ?_
  rintro e w2 ⟨v2, rfl, hb⟩
  have HS2 := Lib.hid (HS.out.later hb)
  have HB2 := Lib.hid (HB.out.trans (hb.mono HB.out.size))
  clear hb HS HB
  go_wp2_with fail
  refine (hw3 _ _).mono ?_
  rintro e w3 ⟨rfl, hb⟩
  have HS3 := Lib.hid (HS2.out.later hb)
  have HB3 := Lib.hid (HB2.out.trans (hb.mono HB2.out.size))
  clear hb HS2 HB2
  go_wp2_with fail
  refine (bytes_same _ _ [255, 1] _ (HS3.out.later (below_made _ _)) (sees_two _ 255 1 _)).mono ?_
  rintro e w' ⟨rfl, rfl⟩
  go_wp2_with fail
  go_ret
  exact ⟨rfl, HB3.out.alloc HB3.out.size _⟩
end Go.Proofs.Ytibobncagncnaaa
