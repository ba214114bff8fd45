/-
  The walk of the example that the statements of layer 2 share: awake returns true, and makes only new memory.
-/
import Derived.Test.YtpcepkdnclbndaaStrSplit
import Derived.Test.YtpcepkdnclbndaaStrTrim
import Derived.Test.YtpcepkdnclbndaaStrLow
namespace Go.Proofs.Ytpcepkdnclbndaa
open Go.RowKit StrM

theorem aw_split : splitL 44 [97, 44, 44, 98] = [[97], [], [98]] := by decide +kernel
theorem aw1 (w : World) : Calls Try.prog 19 #[.string ⟨#[97, 44, 44, 98]⟩, .int .u8 44] w fun e w' => ∃ v, e = .returned v ∧ SeesV w' v (strs [[97], [], [98]]) ∧ Below w.heap.size w w' := by
  refine (split_any ⟨#[97, 44, 44, 98]⟩ 44 w (by decide +kernel)).mono ?_
  rintro e w' ⟨v, rfl, ho, hb⟩
  refine ⟨v, rfl, ?_, hb⟩
  have := SeesV.of_own ho
  rw [show (⟨#[97, 44, 44, 98]⟩ : ByteArray).data.toList = [97, 44, 44, 98] from rfl, aw_split] at this
  exact this
theorem aw2 (w : World) : Calls Try.prog 10 #[.string ⟨#[32, 9, 97, 32, 98, 32]⟩] w fun e w' => e = .returned (.string ⟨#[97, 32, 98]⟩) ∧ w = w' := by
  have := trim_any ⟨#[32, 9, 97, 32, 98, 32]⟩ w (by decide +kernel)
  rw [show trimS ⟨#[32, 9, 97, 32, 98, 32]⟩ = ⟨#[97, 32, 98]⟩ from by decide +kernel] at this
  exact this
theorem aw3 (w : World) : Calls Try.prog 7 #[.string ⟨#[65, 195, 90]⟩] w fun e w' => e = .returned (.string ⟨#[97, 195, 122]⟩) ∧ Below w.heap.size w w' := by
  have := lower_any ⟨#[65, 195, 90]⟩ w (by decide +kernel)
  rw [show lowS ⟨#[65, 195, 90]⟩ = ⟨#[97, 195, 122]⟩ from by decide +kernel] at this
  exact this
theorem aw4 (w : World) : Calls Try.prog 9 #[.string ⟨#[69, 84, 97, 103]⟩, .string ⟨#[101, 116, 97, 103]⟩] w fun e w' => e = .returned (.bool true) ∧ Below w.heap.size w w' := by
  have := same_any ⟨#[69, 84, 97, 103]⟩ ⟨#[101, 116, 97, 103]⟩ w (by decide +kernel) (by decide +kernel)
  rw [show sameB ⟨#[69, 84, 97, 103]⟩ ⟨#[101, 116, 97, 103]⟩ = true from by
    rw [sameB, show lowS ⟨#[69, 84, 97, 103]⟩ = lowS ⟨#[101, 116, 97, 103]⟩ from by decide +kernel]; exact beq_self_eq_true _] at this
  exact this
theorem aw5 (w : World) : Calls Try.prog 12 #[.string ⟨#[120, 45, 121]⟩] w fun e w' => e = .returned (.bool true) ∧ w = w' := by
  have := token_any ⟨#[120, 45, 121]⟩ w (by decide +kernel)
  rw [show tokensL (⟨#[120, 45, 121]⟩ : ByteArray).data.toList = true from by decide +kernel] at this
  exact this
theorem aw6 (w : World) : Calls Try.prog 12 #[.string ⟨#[]⟩] w fun e w' => e = .returned (.bool false) ∧ w = w' := by
  have := token_any ⟨#[]⟩ w (by decide +kernel)
  rw [show tokensL (⟨#[]⟩ : ByteArray).data.toList = false from by decide +kernel] at this
  exact this
theorem aw7 (w : World) : Calls Try.prog 14 #[.string ⟨#[9]⟩] w fun e w' => e = .returned (.bool false) ∧ w = w' := by
  have := plain_any ⟨#[9]⟩ w (by decide +kernel)
  rw [show plainL (⟨#[9]⟩ : ByteArray).data.toList = false from by decide +kernel] at this
  exact this

theorem sees_three (w : World) : SeesV (w.alloc (.cells #[.string ⟨#[97]⟩, .string ⟨#[]⟩, .string ⟨#[98]⟩] 9)) (.slice (some ⟨w.heap.size, 0, none⟩) 3 3) (strs [[97], [], [98]]) := by
  refine ⟨_, 3, rfl, .inr ⟨_, 0, rfl, by simp, fun k hk => ?_⟩⟩
  match k, hk with
  | 0, _ => simp [strs]
  | 1, _ => simp [strs]
  | 2, _ => simp [strs]

set_option maxHeartbeats 1000000 in
theorem awake_any (w : World) :
    Calls Try.prog 6 #[] w fun e w' => e = .returned (.bool true) ∧ Below w.heap.size w w' := by
  go_enter Try.func6, Try.ntmps6
  go_wp2_with fail
  refine (aw1 _).mono ?_
  rintro e w1 ⟨v, rfl, hs, hb⟩
  have HS := Lib.hid hs
  have HB := Lib.hid hb
  clear hs hb
  go_wp2_with fail
  refine (texts_same _ _ [[97], [], [98]] _ (HS.out.later (below_made _ _)) (sees_three _) (by decide)).mono ?_
  rintro e w2 ⟨rfl, hb⟩
  have HB2 := Lib.hid ((HB.out.alloc HB.out.size _).trans (hb.mono (by have := HB.out.size; simp; omega)))
  clear hb
  go_wp2_with fail
  refine (aw2 _).mono ?_
  rintro e w' ⟨rfl, rfl⟩
  go_wp2_with fail
  refine (aw3 _).mono ?_
  rintro e w3 ⟨rfl, hb⟩
  have HB3 := Lib.hid (HB2.out.trans (hb.mono HB2.out.size))
  clear hb
  go_wp2_with fail
  refine (aw4 _).mono ?_
  rintro e w4 ⟨rfl, hb⟩
  have HB4 := Lib.hid (HB3.out.trans (hb.mono HB3.out.size))
  clear hb
  go_wp2_with fail
  refine (aw5 _).mono ?_
  rintro e w' ⟨rfl, rfl⟩
  go_wp2_with fail
  refine (aw6 _).mono ?_
  rintro e w' ⟨rfl, rfl⟩
  go_wp2_with fail
  refine (aw7 _).mono ?_
  rintro e w' ⟨rfl, rfl⟩
  go_wp2_with fail
  go_ret
  exact ⟨rfl, HB4.out⟩
end Go.Proofs.Ytpcepkdnclbndaa
