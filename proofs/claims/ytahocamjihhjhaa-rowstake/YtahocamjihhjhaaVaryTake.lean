/-
  The walks of vary.Take and the reference's Take.
-/
import Derived.Test.YtahocamjihhjhaaVaryPut
namespace Go.Proofs.Ytahocamjihhjhaa
open Go.RowKit StrM VaryM

/-- What Take returns. -/
def takeE (l : List UInt8) : Ending := .returned (.tuple #[.int .u64 ((takeL l).1 : Int), .int .i64 ((takeL l).2.1 : Int), .int .i64 ((takeL l).2.2 : Int)])
theorem takeE_of {l : List UInt8} {u x e : Nat} {u' x' e' : Int} (h : takeL l = (u, x, e)) (hu : u' = (u : Int)) (hx : x' = (x : Int)) (he : e' = (e : Int)) : Ending.returned (.tuple #[.int .u64 u', .int .i64 x', .int .i64 e']) = takeE l := by
  subst hu hx he
  rw [takeE, h]

theorem or_fits {n c k : Nat} (hn : n < 128 ^ k) (hf : n + c % 128 * 128 ^ k < 18446744073709551616) :
    bits .or .u64 (n : Int) (IntKind.u64.wrap ((c : Int) % 128 * 2 ^ (7 * k))) = ((n + c % 128 * 128 ^ k : Nat) : Int) := by
  have e : (128 : Nat) ^ k = 2 ^ (7 * k) := by rw [Nat.pow_mul]
  have e1 : (c : Int) % 128 * 2 ^ (7 * k) = ((c % 128 * 128 ^ k : Nat) : Int) := by rw [e]; simp
  rw [e1]
  generalize hy : c % 128 * 128 ^ k = y at *
  have hy' : n ||| y = n + y := by rw [← hy]; exact or_add hn
  rw [wrap_u64_mod, show (y : Int) % 18446744073709551616 = (y : Int) by omega]
  show IntKind.u64.wrap (((BitVec.ofInt 64 (n : Int) ||| BitVec.ofInt 64 (y : Int)).toNat : Nat) : Int) = _
  rw [ofInt_nat, ofInt_nat, BitVec.toNat_or, BitVec.toNat_ofNat, BitVec.toNat_ofNat, Nat.mod_eq_of_lt (by omega : n < 2 ^ 64), Nat.mod_eq_of_lt (by omega : y < 2 ^ 64), hy', wrap_u64_mod]
  omega

/-- The four ways in which a byte with the index k is told. -/
theorem told (k c : Nat) : (bad k c = true ∧ ((k = 9 ∧ 1 < c) ∨ (k = 9 ∧ c = 0) ∨ (k ≠ 9 ∧ 0 < k ∧ c = 0))) ∨ (bad k c = false ∧ ((k = 9 ∧ c = 1) ∨ k = 0 ∨ (k ≠ 9 ∧ 0 < k ∧ c ≠ 0))) := by
  cases h : bad k c with
  | true => left; refine ⟨rfl, ?_⟩; simp [bad] at h; omega
  | false => right; refine ⟨rfl, ?_⟩; simp [bad] at h; omega

end Go.Proofs.Ytahocamjihhjhaa
