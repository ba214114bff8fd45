/-
  The walks of the reference's power, turned and table.
-/
import Derived.Test.YtcccgcahmnmchaaDoorShaHex
namespace Go.Proofs.YtcccgcahmnmchaaDoor
open Go.RowKit StrM ShaM

theorem ret_u64 {a b : Int} (h : a = b) : Ending.returned (.int .u64 a) = .returned (.int .u64 b) := by rw [h]

set_option maxHeartbeats 400000 in
theorem power_any (n : Nat) (w : World) (hn : n ≤ 32) :
    Calls Tryd.prog 15 #[.int .i64 (n : Int)] w fun e w' => e = .returned (.int .u64 ((2 ^ n : Nat) : Int)) ∧ w = w' := by
  obtain ⟨P, hP⟩ : ∃ P, P = 2 ^ n := ⟨_, rfl⟩
  rw [← hP]
  have HP := Lib.hid hP
  clear hP
  go_enter Tryd.func15, Tryd.ntmps15
  go_wp2_with fail
  go_loop [3, 4] (fun p x => ∃ i q : Nat, i ≤ n ∧ x = .int .i64 (i : Int) ∧ p = .int .u64 (q : Int) ∧ q ≤ 4294967296 ∧ Hid (q = 2 ^ i)) (fun _ x => n - (intOf x).toNat)
  case atStart => exact ⟨0, 1, by omega, rfl, rfl, by decide, Lib.hid rfl⟩
  case round =>
    obtain ⟨i, q, hi, rfl, rfl, hq, HQ⟩ := hrel
    by_cases hlt : i < n
    · have H2 : Hid (2 * q = 2 ^ (i + 1)) := Lib.hid (by rw [HQ.out, Nat.pow_succ, Nat.mul_comm])
      have hq2 : 2 * q ≤ 4294967296 := by
        rw [H2.out]
        exact Nat.le_trans (Nat.pow_le_pow_right (by decide) (show i + 1 ≤ 32 by omega)) (by decide)
      go_wp2_with fail
      go_round
      case rel => exact ⟨i + 1, 2 * q, by omega, by go_num, by go_num, hq2, H2⟩
      case measure => simp [intOf]; omega
    · have H := Lib.hid (show q = P by rw [HQ.out, HP.out, show i = n by omega])
      go_wp2_with fail
      go_ret
      exact ⟨ret_u64 (by rw [H.out]), rfl⟩

theorem turned_num {x n p q : Nat} (hp : p = 2 ^ n) (hq : q = 2 ^ (32 - n)) : ((x : Int) / (p : Int) + (x : Int) % (p : Int) * (q : Int)) = ((rotr x n : Nat) : Int) := by
  subst hp hq
  unfold rotr
  simp

set_option maxHeartbeats 400000 in
theorem turned_any (x n : Nat) (w : World) (hx : x < 4294967296) (h0 : 0 < n) (hn : n < 32) :
    Calls Tryd.prog 21 #[.int .u64 (x : Int), .int .i64 (n : Int)] w fun e w' => e = .returned (.int .u64 ((rotr x n : Nat) : Int)) ∧ ∃ m, w' = w.drewN m := by
  obtain ⟨p, hp⟩ : ∃ p, p = 2 ^ n := ⟨_, rfl⟩
  obtain ⟨q, hq⟩ : ∃ q, q = 2 ^ (32 - n) := ⟨_, rfl⟩
  have c1 : ∀ w, Calls Tryd.prog 15 #[.int .i64 (n : Int)] w fun e w' => e = .returned (.int .u64 (p : Int)) ∧ w = w' := fun w => by rw [hp]; exact power_any n w (by omega)
  have c2 : ∀ w, Calls Tryd.prog 15 #[.int .i64 (32 - (n : Int))] w fun e w' => e = .returned (.int .u64 (q : Int)) ∧ w = w' := fun w => by
    rw [hq, show (32 : Int) - (n : Int) = ((32 - n : Nat) : Int) by omega]; exact power_any (32 - n) w (by omega)
  have hlt := rotr_lt hx (show n ≤ 32 by omega)
  have hnum := turned_num (x := x) hp hq
  have hp0 : 0 < p := by rw [hp]; exact Nat.two_pow_pos n
  have HN := Lib.hid hnum
  have e1 : 0 ≤ (x : Int) % (p : Int) * (q : Int) := Int.mul_nonneg (Int.emod_nonneg _ (by omega)) (by omega)
  have e2 : 0 ≤ (x : Int) / (p : Int) := Int.ediv_nonneg (by omega) (by omega)
  have e3 : (x : Int) % (p : Int) * (q : Int) < 4294967296 := by omega
  have w1 : IntKind.u64.wrap ((x : Int) % (p : Int) * (q : Int)) = (x : Int) % (p : Int) * (q : Int) := by
    obtain ⟨m, hm⟩ := Int.eq_ofNat_of_zero_le e1
    rw [hm]; exact wrap_u64 (by omega)
  have w2 : IntKind.u64.wrap ((x : Int) / (p : Int) + (x : Int) % (p : Int) * (q : Int)) = (x : Int) / (p : Int) + (x : Int) % (p : Int) * (q : Int) := by
    rw [hnum]; exact wrap_u64 hlt
  have w0 : IntKind.u64.wrap ((x : Int) / (p : Int)) = (x : Int) / (p : Int) := by
    obtain ⟨m, hm⟩ := Int.eq_ofNat_of_zero_le e2
    rw [hm]; exact wrap_u64 (by omega)
  have C1 := Lib.hid c1
  have C2 := Lib.hid c2
  have w3 : IntKind.i64.wrap (32 - (n : Int)) = 32 - (n : Int) := IntWalk.i64_in _ (by omega)
  have p1 : (0 : Int) < (p : Int) := by omega
  have p2 : ((p : Int) == 0) = false := by simp; omega
  clear hp hq c1 c2 hnum hlt e3
  go_enter Tryd.func21, Tryd.ntmps21
  go_wp2_with fail
  go_quiet (first | (go_at_call 15; with_reducible exact quiet_same (C1.out _)) | (go_at_call 15; with_reducible exact quiet_same (C2.out _)))
  go_wp2_with fail
  go_ret
  exact ⟨ret_u64 HN.out, nq, rfl⟩

theorem turnI {x : Nat} {m : Int} {w : World} (hx : x < 4294967296) (h0 : 0 < m) (hn : m < 32) :
    Calls Tryd.prog 21 #[.int .u64 (x : Int), .int .i64 m] w fun e w' => e = .returned (.int .u64 ((rotr x m.toNat : Nat) : Int)) ∧ ∃ k, w' = w.drewN k := by
  obtain ⟨n, rfl⟩ := Int.eq_ofNat_of_zero_le (Int.le_of_lt h0)
  exact turned_any x n w hx (by omega) (by omega)

theorem infoK : (Tryd.prog.info? 49).map (·.size) = some 64 := by kernel_rfl
end Go.Proofs.YtcccgcahmnmchaaDoor
