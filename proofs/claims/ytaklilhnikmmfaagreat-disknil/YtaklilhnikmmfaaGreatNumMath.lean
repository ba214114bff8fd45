/-
  Plain facts about sizes and their sums (no program): what is a size, the sum of two sizes, the sum of a list.
-/
namespace Go.Proofs.YtaklilhnikmmfaaGreat.NumM

def isB (n : Int) : Bool := decide (0 ≤ n) && decide (n ≤ 1099511627776)

theorem isB_iff (n : Int) : isB n = true ↔ 0 ≤ n ∧ n ≤ 1099511627776 := by simp [isB]
theorem isB_true {n : Int} (h : isB n = true) : 0 ≤ n ∧ n ≤ 1099511627776 := (isB_iff n).1 h
theorem isB_false {n : Int} (h : isB n = false) : n < 0 ∨ 1099511627776 < n := by
  by_cases g : 0 ≤ n ∧ n ≤ 1099511627776
  · rw [(isB_iff n).2 g] at h; cases h
  · omega
theorem isB_mk {n : Int} (h : 0 ≤ n) (g : n ≤ 1099511627776) : isB n = true := (isB_iff n).2 ⟨h, g⟩
theorem isB_no {n : Int} (h : n < 0 ∨ 1099511627776 < n) : isB n = false := by
  cases g : isB n
  · rfl
  · have := isB_true g; omega

def plusB (a b : Int) : Bool := isB a && (isB b && isB (a + b))
def plusV (a b : Int) : Int := if plusB a b = true then a + b else 0

theorem plusB_true {a b : Int} (h : plusB a b = true) : isB a = true ∧ isB b = true ∧ isB (a + b) = true := by
  simpa [plusB] using h

/-- The sum of a list on top of t, if every element and every sum on the way is a size. -/
def sumAcc (t : Int) : List Int → Option Int
  | [] => some t
  | n :: r => if plusB t n = true then sumAcc (t + n) r else none

def sumV (l : List Int) : Int := (sumAcc 0 l).getD 0
def sumB (l : List Int) : Bool := (sumAcc 0 l).isSome

theorem sumAcc_nil (t : Int) : sumAcc t [] = some t := rfl
theorem sumAcc_yes {t n : Int} (r : List Int) (h : plusB t n = true) : sumAcc t (n :: r) = sumAcc (t + n) r := by simp [sumAcc, h]
theorem sumAcc_no {t n : Int} (r : List Int) (h : plusB t n = false) : sumAcc t (n :: r) = none := by simp [sumAcc, h]

/-- Whether every element is a size. -/
def allB (l : List Int) : Bool := l.all isB

theorem sum_nonneg : ∀ {l : List Int}, allB l = true → 0 ≤ l.sum
  | [], _ => by simp
  | n :: r, h => by
    simp only [allB, List.all_cons, Bool.and_eq_true] at h
    have h1 := isB_true h.1
    have h2 : 0 ≤ r.sum := sum_nonneg (l := r) h.2
    simp only [List.sum_cons]; omega

theorem sumAcc_eq : ∀ (l : List Int) (t : Int), isB t = true → sumAcc t l = if (allB l && isB (t + l.sum)) = true then some (t + l.sum) else none
  | [], t, ht => by simp [sumAcc, allB, ht]
  | n :: r, t, ht => by
    by_cases h : plusB t n = true
    · rw [sumAcc_yes r h, sumAcc_eq r (t + n) (plusB_true h).2.2]
      have hn := (plusB_true h).2.1
      simp only [allB, List.all_cons, List.sum_cons, hn, Bool.true_and]
      rw [show t + n + r.sum = t + (n + r.sum) from by omega]
      rfl
    · have h' : plusB t n = false := by simpa using h
      rw [sumAcc_no r h']
      have ht' := isB_true ht
      rw [if_neg]
      intro hc
      simp only [allB, List.all_cons, List.sum_cons, Bool.and_eq_true] at hc
      have h1 := isB_true hc.1.1
      have h2 : 0 ≤ r.sum := sum_nonneg (l := r) hc.1.2
      have h3 := isB_true hc.2
      apply h
      simp only [plusB, ht, hc.1.1, Bool.true_and]
      exact isB_mk (by omega) (by omega)

theorem isB_zero : isB 0 = true := by decide

theorem sumB_eq (l : List Int) : sumB l = (allB l && isB l.sum) := by
  unfold sumB
  rw [sumAcc_eq l 0 isB_zero, Int.zero_add]
  split <;> simp_all
theorem sumV_eq (l : List Int) : sumV l = if sumB l = true then l.sum else 0 := by
  rw [sumB_eq]; unfold sumV
  rw [sumAcc_eq l 0 isB_zero, Int.zero_add]
  split <;> simp_all

theorem sumV_isB (l : List Int) : isB (sumV l) = true := by
  rw [sumV_eq]
  split
  · rename_i h; rw [sumB_eq] at h; simp at h; exact h.2
  · exact isB_zero

theorem allB_append (l m : List Int) : allB (l ++ m) = (allB l && allB m) := by simp [allB]
theorem allB_reverse (l : List Int) : allB l.reverse = allB l := by simp [allB]
theorem sum_append (l m : List Int) : (l ++ m).sum = l.sum + m.sum := by simp
theorem sum_reverse : ∀ l : List Int, l.reverse.sum = l.sum
  | [] => rfl
  | n :: r => by rw [List.reverse_cons, sum_append, sum_reverse r]; simp; omega

theorem sumB_reverse (l : List Int) : sumB l.reverse = sumB l := by rw [sumB_eq, sumB_eq, allB_reverse, sum_reverse]
theorem sumV_reverse (l : List Int) : sumV l.reverse = sumV l := by rw [sumV_eq, sumV_eq, sumB_reverse, sum_reverse]

theorem sumB_append (l m : List Int) : sumB (l ++ m) = (sumB l && (sumB m && plusB (sumV l) (sumV m))) := by
  by_cases ha : allB l = true
  · by_cases hm : allB m = true
    · have h1 := sum_nonneg ha
      have h2 := sum_nonneg hm
      by_cases hs : isB (l.sum + m.sum) = true
      · have h3 := isB_true hs
        have e1 : sumB l = true := by rw [sumB_eq, ha, isB_mk h1 (by omega)]; rfl
        have e2 : sumB m = true := by rw [sumB_eq, hm, isB_mk h2 (by omega)]; rfl
        rw [sumB_eq, allB_append, sum_append, ha, hm, hs, e1, e2, sumV_eq, sumV_eq, e1, e2]
        simp [plusB, hs, isB_mk h1 (by omega), isB_mk h2 (by omega)]
      · have hs' : isB (l.sum + m.sum) = false := by simpa using hs
        rw [sumB_eq, allB_append, sum_append, ha, hm, hs', sumV_eq, sumV_eq]
        by_cases e1 : sumB l = true
        · by_cases e2 : sumB m = true
          · simp [e1, e2, plusB, hs']
          · simp [e2]
        · simp [e1]
    · have : sumB m = false := by rw [sumB_eq]; simp [hm]
      rw [sumB_eq, allB_append, this]; simp [hm]
  · have : sumB l = false := by rw [sumB_eq]; simp [ha]
    rw [sumB_eq, allB_append, this]; simp [ha]

theorem sumV_append (l m : List Int) (h : sumB (l ++ m) = true) : sumV (l ++ m) = plusV (sumV l) (sumV m) := by
  have h' := h
  rw [sumB_append] at h'
  simp only [Bool.and_eq_true] at h'
  rw [sumV_eq, h, plusV, h'.2.2, sumV_eq l, sumV_eq m, h'.1, h'.2.1]
  simp

/-- The reference's own test: an element is a size and fits into what is left. -/
theorem plusB_ref {t n : Int} (ht : isB t = true) : plusB t n = (isB n && decide (n ≤ 1099511627776 - t)) := by
  have h := isB_true ht
  unfold plusB
  rw [ht, Bool.true_and]
  cases hn : isB n
  · rfl
  · have g := isB_true hn
    simp only [Bool.true_and]
    by_cases hc : n ≤ 1099511627776 - t
    · rw [isB_mk (by omega) (by omega)]; simp [hc]
    · rw [isB_no (by omega)]; simp [hc]

end Go.Proofs.YtaklilhnikmmfaaGreat.NumM
