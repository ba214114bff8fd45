/-
  The walk of the reference's Put.
-/
import Derived.Test.YtgoeljfofmnldaaNumRefText
import Derived.Test.YtgoeljfofmnldaaNumPut
namespace Go.Proofs.Ytgoeljfofmnldaa
open Go.RowKit NumM

set_option maxHeartbeats 1000000 in
theorem rput_digit (n : Int) (w : World) (h0 : 0 ≤ n) (h1 : n < 10) :
    Calls Try.prog 16 #[.int .i64 n] w fun e w' => e = .returned (.string ⟨(dec n.toNat).toArray⟩) ∧ w = w' := by
  rw [dec_small (by omega)]
  have : n = 0 ∨ n = 1 ∨ n = 2 ∨ n = 3 ∨ n = 4 ∨ n = 5 ∨ n = 6 ∨ n = 7 ∨ n = 8 ∨ n = 9 := by omega
  rcases this with rfl | rfl | rfl | rfl | rfl | rfl | rfl | rfl | rfl | rfl
  all_goals
    go_enter Try.func16, Try.ntmps16
    go_wp2_with fail
    go_ret
    exact ⟨rfl, rfl⟩

theorem bytes_add (a b : List UInt8) : ((⟨a.toArray⟩ : ByteArray) ++ ⟨b.toArray⟩) = ⟨(a ++ b).toArray⟩ := by
  apply ByteArray.ext
  simp [ByteArray.data_append]

theorem putL_pos (n : Int) (h : 10 ≤ n) : putL (n / 10) ++ dec (n % 10).toNat = putL n := by
  obtain ⟨m, rfl⟩ := Int.eq_ofNat_of_zero_le (show 0 ≤ n by omega)
  have h1 : ¬ ((m : Int) / 10 < 0) := by omega
  have h2 : ¬ ((m : Int) < 0) := by omega
  have h3 : ((m : Int) / 10).natAbs = m / 10 := by omega
  have h4 : ((m : Int) % 10).toNat = m % 10 := by omega
  rw [putL, putL, if_neg h1, if_neg h2, h3, h4, Int.natAbs_natCast, dec_big (m := m) (by omega), dec_small (m := m % 10) (by omega)]
  simp [dig]

theorem putL_neg (n : Int) (h : n ≤ -10) : putL (n.tdiv 10) ++ dec (-(n.tmod 10)).toNat = putL n := by
  obtain ⟨m, hm⟩ : ∃ m : Nat, n = -(m : Int) := ⟨n.natAbs, by omega⟩
  subst hm
  have e1 : (-(m : Int)).tdiv 10 = -((m / 10 : Nat) : Int) := by rw [Int.neg_tdiv]; rfl
  have e2 : (-(m : Int)).tmod 10 = -((m % 10 : Nat) : Int) := by rw [Int.neg_tmod]; rfl
  rw [e1, e2]
  have h1 : -((m / 10 : Nat) : Int) < 0 := by omega
  have h2 : -(m : Int) < 0 := by omega
  have h3 : (-((m / 10 : Nat) : Int)).natAbs = m / 10 := by omega
  have h4 : (- -((m % 10 : Nat) : Int)).toNat = m % 10 := by omega
  have h5 : (-(m : Int)).natAbs = m := by omega
  rw [putL, putL, if_pos h1, if_pos h2, h3, h4, h5, dec_big (m := m) (by omega), dec_small (m := m % 10) (by omega)]
  simp [dig]

theorem putL_len (n : Int) (h1 : -9223372036854775808 ≤ n) (h2 : n ≤ 9223372036854775807) : (putL n).length ≤ 20 := by
  have := dec_len19 (m := n.natAbs) (by omega)
  unfold putL
  split <;> simp <;> omega

set_option maxHeartbeats 1000000 in
theorem rput_neg1 (n : Int) (w : World) (h0 : n < 0) (h1 : -10 < n) :
    Calls Try.prog 16 #[.int .i64 n] w fun e w' => e = .returned (.string ⟨(putL n).toArray⟩) ∧ w = w' := by
  have hp : 45 :: dec (-n).toNat = putL n := by
    have : n.natAbs = (-n).toNat := by omega
    simp [putL, h0, this]
  have hl : (dec (-n).toNat).length ≤ 19 := dec_len19 (by omega)
  have HP := Lib.hid hp
  clear hp
  go_enter Try.func16, Try.ntmps16
  go_wp2_with fail
  refine (rput_digit _ _ (by omega) (by omega)).mono ?_
  rintro e w' ⟨rfl, rfl⟩
  generalize dec (-n).toNat = D at *
  go_wp2_with fail
  go_ret
  exact ⟨ret_str (by rw [← HP.out]; exact bytes_add [45] D), rfl⟩

set_option maxHeartbeats 1000000 in
theorem rput_any : ∀ (k : Nat) (n : Int) (w : World), n.natAbs < 10 ^ (k + 1) → -9223372036854775808 ≤ n → n ≤ 9223372036854775807 →
    Calls Try.prog 16 #[.int .i64 n] w fun e w' => e = .returned (.string ⟨(putL n).toArray⟩) ∧ w = w' := by
  intro k
  induction k with
  | zero =>
    intro n w hk _ _
    have hk' : n.natAbs < 10 := by simpa using hk
    by_cases h0 : n < 0
    · exact rput_neg1 n w h0 (by omega)
    · have : putL n = dec n.toNat := by
        have : n.natAbs = n.toNat := by omega
        simp [putL, h0, this]
      rw [this]
      exact rput_digit n w (by omega) (by omega)
  | succ k ih =>
    intro n w hk hlo hhi
    by_cases hs : n.natAbs < 10
    · exact ih n w (by have : 10 ^ 1 ≤ 10 ^ (k + 1) := Nat.pow_le_pow_right (by omega) (by omega); omega) hlo hhi
    · have IH := Lib.hid ih
      clear ih
      rw [Nat.pow_succ] at hk
      by_cases h0 : n < 0
      · have hn : n ≤ -10 := by omega
        have HP := Lib.hid (putL_neg n hn)
        have t1 : n.tdiv 10 = -((n.natAbs / 10 : Nat) : Int) := by
          obtain ⟨m, hm⟩ : ∃ m : Nat, n = -(m : Int) := ⟨n.natAbs, by omega⟩
          subst hm
          rw [Int.neg_tdiv, Int.natAbs_neg, Int.natAbs_natCast]; rfl
        have t2 : n.tmod 10 = -((n.natAbs % 10 : Nat) : Int) := by
          obtain ⟨m, hm⟩ : ∃ m : Nat, n = -(m : Int) := ⟨n.natAbs, by omega⟩
          subst hm
          rw [Int.neg_tmod, Int.natAbs_neg, Int.natAbs_natCast]; rfl
        have i1 := IH.out (n.tdiv 10) w (by rw [t1]; omega) (by rw [t1]; omega) (by rw [t1]; omega)
        have i2 := rput_digit (-(n.tmod 10)) w (by rw [t2]; omega) (by rw [t2]; omega)
        have l1 := putL_len (n.tdiv 10) (by rw [t1]; omega) (by rw [t1]; omega)
        have l2 : (dec (-(n.tmod 10)).toNat).length ≤ 19 := dec_len19 (by rw [t2]; omega)
        have I1 := Lib.hid i1
        have I2 := Lib.hid i2
        have b1 : -10 < n.tmod 10 := by rw [t2]; omega
        have b2 : n.tmod 10 ≤ 0 := by rw [t2]; omega
        clear t1 t2 i1 i2
        go_enter Try.func16, Try.ntmps16
        go_wp2_with fail
        refine I1.out.mono ?_
        rintro e w' ⟨rfl, rfl⟩
        go_wp2_with fail
        refine I2.out.mono ?_
        rintro e w' ⟨rfl, rfl⟩
        generalize dec (-n.tmod 10).toNat = D at *
        generalize putL (n.tdiv 10) = E at *
        go_wp2_with fail
        go_ret
        exact ⟨ret_str (by rw [← HP.out]; exact bytes_add E D), rfl⟩
      · have hn : 10 ≤ n := by omega
        have HP := Lib.hid (putL_pos n hn)
        have i1 := IH.out (n / 10) w (by omega) (by omega) (by omega)
        have i2 := rput_digit (n % 10) w (by omega) (by omega)
        have l1 := putL_len (n / 10) (by omega) (by omega)
        have l2 : (dec (n % 10).toNat).length ≤ 19 := dec_len19 (by omega)
        have I1 := Lib.hid i1
        have I2 := Lib.hid i2
        clear i1 i2
        go_enter Try.func16, Try.ntmps16
        go_wp2_with fail
        refine I1.out.mono ?_
        rintro e w' ⟨rfl, rfl⟩
        go_wp2_with fail
        refine I2.out.mono ?_
        rintro e w' ⟨rfl, rfl⟩
        generalize dec (n % 10).toNat = D at *
        generalize putL (n / 10) = E at *
        go_wp2_with fail
        go_ret
        exact ⟨ret_str (by rw [← HP.out]; exact bytes_add E D), rfl⟩
end Go.Proofs.Ytgoeljfofmnldaa
