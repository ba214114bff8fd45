/-
  The walks of vary.wrong, vary.Zig, vary.Zag and the reference's Zig and Zag.
-/
import Derived.Test.YtnjnlbcbdhdipaaRowAll
import Derived.Test.YtnjnlbcbdhdipaaVaryMath
import Derived.IntWalk
namespace Go.Proofs.Ytnjnlbcbdhdipaa
open Go.RowKit StrM VaryM

theorem ret_u64 {a b : Int} (h : a = b) : Ending.returned (.int .u64 a) = .returned (.int .u64 b) := by rw [h]
theorem ret_i64 {a b : Int} (h : a = b) : Ending.returned (.int .i64 a) = .returned (.int .i64 b) := by rw [h]

theorem wrap_u64_mod (n : Int) : IntKind.u64.wrap n = n % 18446744073709551616 := by
  simp [IntKind.wrap, IntKind.bits, IntKind.signed]
theorem ones64 (y : BitVec 64) : (BitVec.ofInt 64 (-1) ^^^ y).toNat = 18446744073709551615 - y.toNat := by
  have e : BitVec.ofInt 64 (-1) = BitVec.allOnes 64 := by decide
  rw [e, BitVec.allOnes_xor, BitVec.toNat_not]
theorem not64 {x : Int} (h0 : 0 ≤ x) (h1 : x < 18446744073709551616) : bits .xor .u64 IntKind.u64.max x = 18446744073709551615 - x := by
  obtain ⟨n, rfl⟩ := Int.eq_ofNat_of_zero_le h0
  have e : BitVec.ofInt 64 IntKind.u64.max = BitVec.ofInt 64 (-1) := by decide
  show IntKind.u64.wrap (((BitVec.ofInt 64 IntKind.u64.max ^^^ BitVec.ofInt 64 (n : Int)).toNat : Nat) : Int) = _
  rw [e, ones64, ofInt_nat, BitVec.toNat_ofNat, wrap_u64_mod]
  omega
theorem noti64 {x : Int} (h0 : 0 ≤ x) (h1 : x < 9223372036854775808) : bits .xor .i64 (-1) x = -x - 1 := by
  obtain ⟨n, rfl⟩ := Int.eq_ofNat_of_zero_le h0
  show IntKind.i64.wrap (((BitVec.ofInt 64 (-1) ^^^ BitVec.ofInt 64 (n : Int)).toNat : Nat) : Int) = _
  rw [ones64, ofInt_nat, BitVec.toNat_ofNat]
  simp [IntKind.wrap, IntKind.bits, IntKind.signed]
  omega

set_option maxHeartbeats 400000 in
theorem wrong_any (i : Nat) (c : UInt8) (w : World) : Calls Try.prog 27 #[.int .i64 (i : Int), .int .u8 (c.toNat : Int)] w fun e w' => e = .returned (.bool (bad i c.toNat)) ∧ w = w' := by
  have hc := c.toNat_lt
  generalize c.toNat = n at *
  by_cases h9 : i = 9
  · by_cases h1 : 1 < n
    · have H := Lib.hid (show bad i n = true by simp [bad, h9, h1])
      have e9 : (i : Int) = 9 := by omega
      clear h9
      go_enter Try.func27, Try.ntmps27
      go_wp2_with fail
      go_ret
      exact ⟨ret_bool H.out.symm, rfl⟩
    · by_cases h0 : n = 0
      · have H := Lib.hid (show bad i n = true by simp [bad, h9, h0])
        have e9 : (i : Int) = 9 := by omega
        have e0 : (n : Int) = 0 := by omega
        clear h9 h1 h0
        go_enter Try.func27, Try.ntmps27
        go_wp2_with fail
        go_ret
        exact ⟨ret_bool H.out.symm, rfl⟩
      · have H := Lib.hid (show bad i n = false by simp [bad, h9, h0, h1])
        have e9 : (i : Int) = 9 := by omega
        have e0 : (n : Int) = 1 := by omega
        clear h9 h1 h0
        go_enter Try.func27, Try.ntmps27
        go_wp2_with fail
        go_ret
        exact ⟨ret_bool H.out.symm, rfl⟩
  · have d9 : decide ((i : Int) = 9) = false := by simp; omega
    have d9' : ((i : Int) == 9) = false := by simp; omega
    by_cases hi : i = 0
    · have H := Lib.hid (show bad i n = false by simp [bad, hi])
      have e0 : (i : Int) = 0 := by omega
      clear h9 hi
      go_enter Try.func27, Try.ntmps27
      go_wp2_with fail
      go_ret
      exact ⟨ret_bool H.out.symm, rfl⟩
    · have hi' : (0 : Int) < (i : Int) := by omega
      by_cases h0 : n = 0
      · have H := Lib.hid (show bad i n = true by simp [bad, h0]; omega)
        have e0 : (n : Int) = 0 := by omega
        clear h0 hi
        go_enter Try.func27, Try.ntmps27
        go_wp2_with fail
        go_ret
        exact ⟨ret_bool H.out.symm, rfl⟩
      · have H := Lib.hid (show bad i n = false by simp [bad, h9, h0])
        have d0 : ((n : Int) == 0) = false := by simp; omega
        clear hi
        go_enter Try.func27, Try.ntmps27
        go_wp2_with fail
        go_ret
        exact ⟨ret_bool H.out.symm, rfl⟩

set_option maxHeartbeats 400000 in
theorem zig_any (n : Int) (w : World) (h1 : -9223372036854775808 ≤ n) (h2 : n ≤ 9223372036854775807) :
    Calls Try.prog 19 #[.int .i64 n] w fun e w' => e = .returned (.int .u64 (zig n)) ∧ w = w' := by
  obtain ⟨z, hz⟩ : ∃ z, z = zig n := ⟨_, rfl⟩
  rw [← hz]
  by_cases h : n < 0
  · have HZ := Lib.hid (show z = -2 * n - 1 by rw [hz, zig, if_pos h])
    clear hz
    go_enter Try.func19, Try.ntmps19
    go_wp2_with fail
    go_ret
    refine ⟨ret_u64 ?_, rfl⟩
    rw [HZ.out]
    rw [wrap_u64_mod, wrap_u64_mod, not64 (by omega) (by omega)]
    omega
  · have HZ := Lib.hid (show z = 2 * n by rw [hz, zig, if_neg h])
    clear hz
    go_enter Try.func19, Try.ntmps19
    go_wp2_with fail
    go_ret
    refine ⟨ret_u64 ?_, rfl⟩
    rw [HZ.out]
    omega

set_option maxHeartbeats 400000 in
theorem zag_any (u : Int) (w : World) (h1 : 0 ≤ u) (h2 : u ≤ 18446744073709551615) :
    Calls Try.prog 28 #[.int .u64 u] w fun e w' => e = .returned (.int .i64 (zag u)) ∧ w = w' := by
  obtain ⟨z, hz⟩ : ∃ z, z = zag u := ⟨_, rfl⟩
  rw [← hz]
  by_cases h : u % 2 = 1
  · have HZ := Lib.hid (show z = -(u / 2) - 1 by rw [hz, zag, if_pos h])
    clear hz
    go_enter Try.func28, Try.ntmps28
    go_wp2_with fail
    go_ret
    refine ⟨ret_i64 ?_, rfl⟩
    rw [HZ.out]
    exact noti64 (by omega) (by omega)
  · have HZ := Lib.hid (show z = u / 2 by rw [hz, zag, if_neg h])
    have h0 : u % 2 = 0 := by omega
    clear hz h
    go_enter Try.func28, Try.ntmps28
    go_wp2_with fail
    go_ret
    refine ⟨ret_i64 ?_, rfl⟩
    rw [HZ.out]

set_option maxHeartbeats 400000 in
theorem rzig_any (n : Int) (w : World) (h1 : -9223372036854775808 ≤ n) (h2 : n ≤ 9223372036854775807) :
    Calls Try.prog 22 #[.int .i64 n] w fun e w' => e = .returned (.int .u64 (zig n)) ∧ w = w' := by
  obtain ⟨z, hz⟩ : ∃ z, z = zig n := ⟨_, rfl⟩
  rw [← hz]
  by_cases h : n < 0
  · have HZ := Lib.hid (show z = -2 * n - 1 by rw [hz, zig, if_pos h])
    clear hz
    go_enter Try.func22, Try.ntmps22
    go_wp2_with fail
    go_ret
    refine ⟨ret_u64 ?_, rfl⟩
    rw [HZ.out]
    omega
  · have HZ := Lib.hid (show z = 2 * n by rw [hz, zig, if_neg h])
    clear hz
    go_enter Try.func22, Try.ntmps22
    go_wp2_with fail
    go_ret
    refine ⟨ret_u64 ?_, rfl⟩
    rw [HZ.out]

set_option maxHeartbeats 400000 in
theorem rzag_any (u : Int) (w : World) (h1 : 0 ≤ u) (h2 : u ≤ 18446744073709551615) :
    Calls Try.prog 30 #[.int .u64 u] w fun e w' => e = .returned (.int .i64 (zag u)) ∧ w = w' := by
  obtain ⟨z, hz⟩ : ∃ z, z = zag u := ⟨_, rfl⟩
  rw [← hz]
  by_cases h : u % 2 = 1
  · have HZ := Lib.hid (show z = -(u / 2) - 1 by rw [hz, zag, if_pos h])
    clear hz
    go_enter Try.func30, Try.ntmps30
    go_wp2_with fail
    go_ret
    refine ⟨ret_i64 ?_, rfl⟩
    rw [HZ.out]
  · have HZ := Lib.hid (show z = u / 2 by rw [hz, zag, if_neg h])
    have h0 : u % 2 = 0 := by omega
    clear hz h
    go_enter Try.func30, Try.ntmps30
    go_wp2_with fail
    go_ret
    refine ⟨ret_i64 ?_, rfl⟩
    rw [HZ.out]
end Go.Proofs.Ytnjnlbcbdhdipaa
