/-
  Plain: the digits of a size tell it back (no program).
-/
import Derived.Test.YtgoeljfofmnldaaPutMath
namespace Go.Proofs.Ytgoeljfofmnldaa.NumM

theorem digB_dig (m : Nat) : digB (dig m) = true := digB_mk (by rw [dig_toNat]; omega) (by rw [dig_toNat]; omega)
theorem digsB_append (a b : List UInt8) : digsB (a ++ b) = (digsB a && digsB b) := by simp [digsB]
theorem val_snoc : ∀ (l : List UInt8) (t : Int) (c : UInt8), val t (l ++ [c]) = val t l * 10 + ((c.toNat : Int) - 48)
  | [], t, c => rfl
  | d :: r, t, c => by rw [List.cons_append]; exact val_snoc r _ c

theorem dec_facts : ∀ m : Nat, digsB (dec m) = true ∧ val 0 (dec m) = m ∧ (1 ≤ m → (dec m).headD 0 ≠ 48) := by
  intro m
  induction m using Nat.strongRecOn with
  | ind m ih =>
    by_cases h : m < 10
    · rw [dec_small h]
      refine ⟨by simp [digsB, digB_dig], ?_, fun h1 => ?_⟩
      · show (0 : Int) * 10 + (((dig m).toNat : Int) - 48) = m
        rw [dig_toNat]; omega
      · intro hc
        have : (dig m).toNat = (48 : UInt8).toNat := by rw [← hc]; rfl
        rw [dig_toNat] at this
        have e : (48 : UInt8).toNat = 48 := rfl
        omega
    · obtain ⟨i1, i2, i3⟩ := ih (m / 10) (by omega)
      rw [dec_big (by omega)]
      refine ⟨by rw [digsB_append, i1]; simp [digsB, digB_dig], ?_, fun _ => ?_⟩
      · rw [val_snoc, i2, dig_toNat]; omega
      · have := i3 (by omega)
        have hne := dec_ne (m / 10)
        match hd : dec (m / 10), hne with
        | c :: r, _ => rw [hd] at this; exact this

theorem zeroB_dec (m : Nat) : zeroB (dec m) = false := by
  by_cases h : m < 10
  · rw [dec_small h]; rfl
  · have := (dec_facts m).2.2 (by omega)
    unfold zeroB
    rw [beq_eq_false_iff_ne.2 this, Bool.and_false]

theorem wfB_dec (m : Nat) : wfB (dec m) = true := by
  rw [wfB_digs (dec_ne m) (zeroB_dec m)]; exact (dec_facts m).1

theorem putL_nonneg (n : Int) (h : 0 ≤ n) : putL n = dec n.natAbs := by
  have : ¬ n < 0 := by omega
  simp [putL, this]

theorem back_size (n : Int) (h : isB n = true) : getV (putL n) = n ∧ getE (putL n) = 0 := by
  obtain ⟨h0, h1⟩ := isB_true h
  rw [putL_nonneg n h0]
  have hv : val 0 (dec n.natAbs) = n := by rw [(dec_facts _).2.1]; omega
  have hl : (dec n.natAbs).length ≤ 13 := dec_len 12 _ (by omega)
  have hE : getE (dec n.natAbs) = 0 := by simp [getE, wfB_dec, hl, hv, h]
  exact ⟨by simp [getV, hE, hv], hE⟩

theorem back_neg (n : Int) (h : n < 0) : getV (putL n) = 0 ∧ getE (putL n) = 2 := by
  have hp : putL n = 45 :: dec n.natAbs := by simp [putL, h]
  rw [hp]
  have hw : wfB (45 :: dec n.natAbs) = false := by
    have : digsB (45 :: dec n.natAbs) = false := by rw [digsB_cons]; rfl
    simp [wfB, this]
  have hE : getE (45 :: dec n.natAbs) = 2 := by simp [getE, hw]
  exact ⟨by simp [getV, hE], hE⟩

theorem back_big (n : Int) (h : 1099511627776 < n) : getV (putL n) = 0 ∧ getE (putL n) = 3 := by
  rw [putL_nonneg n (by omega)]
  have hv : val 0 (dec n.natAbs) = n := by rw [(dec_facts _).2.1]; omega
  have hb : isB n = false := isB_no (.inr h)
  have hE : getE (dec n.natAbs) = 3 := by simp [getE, wfB_dec, hv, hb]
  exact ⟨by simp [getV, hE], hE⟩

end Go.Proofs.Ytgoeljfofmnldaa.NumM
