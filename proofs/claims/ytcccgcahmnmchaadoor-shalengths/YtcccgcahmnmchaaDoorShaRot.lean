/-
  The walk of sha.rotate.
-/
import Derived.Test.YtcccgcahmnmchaaDoorShaRow
namespace Go.Proofs.YtcccgcahmnmchaaDoor
open Go.RowKit StrM ShaM

theorem ret_u32 {a b : Int} (h : a = b) : Ending.returned (.int .u32 a) = .returned (.int .u32 b) := by rw [h]

theorem rot_amount : ∀ n, n < 32 → 0 < n → bits .and .u64 (IntKind.u64.wrap (-((n : Nat) : Int))) 31 = ((32 - n : Nat) : Int) := by decide +kernel

/-- The two halves of a rotation, put together. -/
theorem rot_or {x n : Nat} (hx : x < 4294967296) (h0 : 0 < n) (hn : n < 32) :
    bits .or .u32 ((x * 2 ^ (32 - n) % 4294967296 : Nat) : Int) ((x / 2 ^ n : Nat) : Int) = ((rotr x n : Nat) : Int) := by
  have hd : x / 2 ^ n < 4294967296 := Nat.lt_of_le_of_lt (Nat.div_le_self _ _) hx
  rw [or32 (Nat.mod_lt _ (by decide)) hd]
  have hpq : 2 ^ n * 2 ^ (32 - n) = 4294967296 := by rw [← Nat.pow_add, Nat.add_sub_cancel' (by omega)]
  have e1 : x * 2 ^ (32 - n) % 4294967296 = 2 ^ (32 - n) * (x % 2 ^ n) := by
    rw [← hpq, Nat.mul_mod_mul_right, Nat.mul_comm]
  have h1 : x / 2 ^ n < 2 ^ (32 - n) := Nat.div_lt_of_lt_mul (by rw [hpq]; exact hx)
  rw [e1, ← Nat.two_pow_add_eq_or_of_lt h1]
  congr 1
  unfold rotr
  rw [Nat.mul_comm (x % 2 ^ n)]; omega

set_option maxHeartbeats 400000 in
theorem rotl_any (x n : Nat) (w : World) (hx : x < 4294967296) (h0 : 0 < n) (hn : n < 32) :
    Calls Tryd.prog 25 #[.int .u32 (x : Int), .int .i64 (-(n : Int))] w fun e w' => e = .returned (.int .u32 ((rotr x n : Nat) : Int)) ∧ w = w' := by
  have ha := rot_amount n hn h0
  obtain ⟨m, hm⟩ : ∃ m, 32 - n = m := ⟨_, rfl⟩
  rw [hm] at ha
  have hm1 : m < 32 := by omega
  have hm0 : 0 < m := by omega
  have HM := Lib.hid hm
  clear hm
  go_enter Tryd.func25, Tryd.ntmps25
  go_wp2
  go_ret
  refine ⟨ret_u32 ?_, rfl⟩
  have e := rot_or hx h0 hn
  have hm := HM.out
  rw [hm] at e
  rw [← e, show 32 - m = n by omega]
  simp

set_option maxHeartbeats 400000 in
theorem rotate_any (x n : Nat) (w : World) (hx : x < 4294967296) (h0 : 0 < n) (hn : n < 32) :
    Calls Tryd.prog 24 #[.int .u32 (x : Int), .int .i64 (n : Int)] w fun e w' => e = .returned (.int .u32 ((rotr x n : Nat) : Int)) ∧ w = w' := by
  go_enter Tryd.func24, Tryd.ntmps24
  go_wp2_with fail
  refine (rotl_any x n _ hx h0 hn).mono ?_
  rintro e w' ⟨rfl, rfl⟩
  go_wp2_with fail
  go_ret
  exact ⟨rfl, rfl⟩
end Go.Proofs.YtcccgcahmnmchaaDoor
