/-
  Plain facts about the decimal digits of a number (no program).
-/
import Derived.Test.YtgoeljfofmnldaaTextMath
namespace Go.Proofs.Ytgoeljfofmnldaa.NumM

def dig (m : Nat) : UInt8 := UInt8.ofNat (48 + m % 10)
def dec (m : Nat) : List UInt8 := if m < 10 then [dig m] else dec (m / 10) ++ [dig m]
def putL (n : Int) : List UInt8 := if n < 0 then 45 :: dec n.natAbs else dec n.natAbs

theorem dig_toNat (m : Nat) : (dig m).toNat = 48 + m % 10 := by
  unfold dig
  rw [UInt8.toNat_ofNat']
  omega
theorem dec_small {m : Nat} (h : m < 10) : dec m = [dig m] := by rw [dec]; simp [h]
theorem dec_big {m : Nat} (h : 10 ≤ m) : dec m = dec (m / 10) ++ [dig m] := by
  rw [dec]; have : ¬ m < 10 := by omega
  simp [this]
theorem dec_len : ∀ (k m : Nat), m < 10 ^ (k + 1) → (dec m).length ≤ k + 1
  | 0, m, h => by rw [dec_small (by simpa using h)]; simp
  | k + 1, m, h => by
    by_cases hm : m < 10
    · rw [dec_small hm]; simp
    · rw [dec_big (by omega), List.length_append]
      have h2 : m / 10 < 10 ^ (k + 1) := by
        rw [Nat.pow_succ] at h; omega
      have := dec_len k (m / 10) h2
      simp; omega
theorem dec_len19 {m : Nat} (h : m ≤ 9223372036854775808) : (dec m).length ≤ 19 := dec_len 18 m (by omega)
theorem dec_pos (m : Nat) : 1 ≤ (dec m).length := by
  by_cases hm : m < 10
  · rw [dec_small hm]; simp
  · rw [dec_big (by omega)]; simp
theorem dec_ne (m : Nat) : dec m ≠ [] := by
  intro h; have := dec_pos m; rw [h] at this; simp at this

end Go.Proofs.Ytgoeljfofmnldaa.NumM
