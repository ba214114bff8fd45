/-
  Numbers in groups of seven bits, over Nat: what Put lays, what Take finds; Zig and Zag over Int.
-/
namespace Go.Proofs.Ytahocamjihhjhaa
namespace VaryM

def putL (n : Nat) : List UInt8 := if h : n < 128 then [UInt8.ofNat n] else UInt8.ofNat (n % 128 + 128) :: putL (n / 128)
termination_by n
decreasing_by omega

theorem putL_small {n : Nat} (h : n < 128) : putL n = [UInt8.ofNat n] := by rw [putL]; simp [h]
theorem putL_big {n : Nat} (h : 128 ≤ n) : putL n = UInt8.ofNat (n % 128 + 128) :: putL (n / 128) := by
  rw [putL]; have : ¬ n < 128 := by omega
  simp [this]
theorem putL_len (k : Nat) : ∀ n, n < 128 ^ (k + 1) → (putL n).length ≤ k + 1 := by
  induction k with
  | zero => intro n h; rw [putL_small (by simpa using h)]; simp
  | succ k ih =>
    intro n h
    by_cases hn : n < 128
    · rw [putL_small hn]; simp
    · rw [putL_big (by omega)]
      have : n / 128 < 128 ^ (k + 1) := Nat.div_lt_of_lt_mul (by rw [Nat.pow_succ, Nat.mul_comm] at h; exact h)
      have := ih _ this
      simp only [List.length_cons]; omega
theorem putL_ten {n : Nat} (h : n < 18446744073709551616) : (putL n).length ≤ 10 := putL_len 9 n (by omega)
theorem putL_pos (n : Nat) : 1 ≤ (putL n).length := by
  by_cases h : n < 128
  · rw [putL_small h]; simp
  · rw [putL_big (by omega)]; simp
theorem put300 : putL 300 = [172, 2] := by rw [putL_big (by decide), putL_small (by decide)]; rfl

/-- No number has c as its byte with the index i. -/
def bad (i c : Nat) : Bool := (i == 9 && decide (1 < c)) || (decide (0 < i) && c == 0)

def takeF : List UInt8 → Nat → Nat → Nat × Nat × Nat
  | [], _, _ => (0, 0, 11)
  | c :: l, i, n => if bad i c.toNat then (0, 0, 12) else if c.toNat < 128 then (n + c.toNat % 128 * 128 ^ i, i + 1, 0) else takeF l (i + 1) (n + c.toNat % 128 * 128 ^ i)
def takeL (l : List UInt8) : Nat × Nat × Nat := takeF l 0 0

theorem bad_nine {i c : Nat} (hi : i ≤ 9) (h : bad i c = false) : c % 128 * 128 ^ i + 128 ^ i ≤ 18446744073709551616 := by
  by_cases h9 : i = 9
  · subst h9
    have : c ≤ 1 := by simp [bad] at h; omega
    have h2 : c % 128 ≤ 1 := by omega
    have e : (128 : Nat) ^ 9 = 9223372036854775808 := by decide
    rw [e]; omega
  · have h1 : c % 128 + 1 ≤ 128 := by omega
    have h2 := Nat.mul_le_mul_right (128 ^ i) h1
    rw [Nat.add_mul, Nat.one_mul] at h2
    have h3 : 128 ^ (i + 1) ≤ 128 ^ 9 := Nat.pow_le_pow_right (by decide) (by omega)
    rw [Nat.pow_succ] at h3
    omega
theorem bad_on {i c : Nat} (hi : i ≤ 9) (h : bad i c = false) (hc : ¬ c < 128) : i + 1 ≤ 9 := by
  simp [bad] at h
  by_cases h9 : i = 9
  · have := h.1 h9; omega
  · omega
theorem step_lt {i c n : Nat} (hn : n < 128 ^ i) : n + c % 128 * 128 ^ i < 128 ^ (i + 1) := by
  have h1 : c % 128 + 1 ≤ 128 := by omega
  have h2 := Nat.mul_le_mul_right (128 ^ i) h1
  rw [Nat.add_mul, Nat.one_mul] at h2
  rw [Nat.pow_succ]; omega

/-- How far Take has come. -/
def TakeAt (l : List UInt8) (k n : Nat) : Prop := k ≤ 9 ∧ n < 128 ^ k ∧ takeF (l.drop k) k n = takeL l
theorem TakeAt.start (l : List UInt8) : TakeAt l 0 0 := ⟨by omega, by simp, rfl⟩
section
variable {l : List UInt8} {k n : Nat}
theorem TakeAt.done (h : TakeAt l k n) (hk : l.length ≤ k) : takeL l = (0, 0, 11) := by
  rw [← h.2.2, List.drop_of_length_le hk, takeF]
theorem TakeAt.wrong (h : TakeAt l k n) (hk : k < l.length) (hb : bad k l[k].toNat = true) : takeL l = (0, 0, 12) := by
  rw [← h.2.2, List.drop_eq_getElem_cons hk, takeF, if_pos hb]
theorem TakeAt.last (h : TakeAt l k n) (hk : k < l.length) (hb : bad k l[k].toNat = false) (hc : l[k].toNat < 128) : takeL l = (n + l[k].toNat % 128 * 128 ^ k, k + 1, 0) := by
  rw [← h.2.2, List.drop_eq_getElem_cons hk, takeF, if_neg (by simp [hb]), if_pos hc]
theorem TakeAt.next (h : TakeAt l k n) (hk : k < l.length) (hb : bad k l[k].toNat = false) (hc : ¬ l[k].toNat < 128) : TakeAt l (k + 1) (n + l[k].toNat % 128 * 128 ^ k) := by
  refine ⟨bad_on h.1 hb hc, step_lt h.2.1, ?_⟩
  rw [← h.2.2, List.drop_eq_getElem_cons hk, takeF, if_neg (by simp [hb]), if_neg hc]
theorem TakeAt.fits (h : TakeAt l k n) {c : Nat} (hb : bad k c = false) : n + c % 128 * 128 ^ k < 18446744073709551616 := by
  have := bad_nine h.1 hb
  have := h.2.1
  omega
end

theorem takeF_lt : ∀ (l : List UInt8) (i n : Nat), i ≤ 9 → n < 128 ^ i → (takeF l i n).1 < 18446744073709551616 := by
  intro l
  induction l with
  | nil => intro i n _ _; simp [takeF]
  | cons c l ih =>
    intro i n hi hn
    rw [takeF]
    cases hb : bad i c.toNat with
    | true => simp
    | false =>
      by_cases hc : c.toNat < 128
      · have := bad_nine hi hb
        simp [hc]; omega
      · simp only [hc, if_false, Bool.false_eq_true]
        exact ih _ _ (bad_on hi hb hc) (step_lt hn)
theorem takeL_lt (l : List UInt8) : (takeL l).1 < 18446744073709551616 := takeF_lt l 0 0 (by omega) (by simp)

theorem toNat_small {n : Nat} (h : n < 256) : (UInt8.ofNat n).toNat = n := by rw [UInt8.toNat_ofNat']; omega

/-- What is put is taken. -/
theorem takeF_put (b : List UInt8) : ∀ (m i n : Nat), m * 128 ^ i < 18446744073709551616 → (0 < i → m ≠ 0) → takeF (putL m ++ b) i n = (n + m * 128 ^ i, i + (putL m).length, 0) := by
  intro m
  induction m using Nat.strongRecOn with
  | ind m ih =>
    intro i n hm h0
    by_cases hs : m < 128
    · rw [putL_small hs]
      simp only [List.singleton_append, takeF, List.length_singleton]
      rw [toNat_small (by omega)]
      have hb : bad i m = false := by
        simp [bad]
        refine ⟨fun h9 => ?_, h0⟩
        subst h9
        apply Nat.le_of_not_lt
        intro h2
        have := Nat.mul_le_mul_right (128 ^ 9) (show 2 ≤ m from h2)
        omega
      rw [hb, if_neg (by decide), if_pos hs, Nat.mod_eq_of_lt hs]
    · rw [putL_big (by omega)]
      simp only [List.cons_append, takeF, List.length_cons]
      rw [toNat_small (by omega)]
      have h9 : i ≠ 9 := by
        intro h9
        subst h9
        have := Nat.mul_le_mul_right (128 ^ 9) (show 128 ≤ m by omega)
        omega
      have hb : bad i (m % 128 + 128) = false := by simp [bad, h9]
      have e1 : (m % 128 + 128) % 128 = m % 128 := by omega
      have e2 : m % 128 * 128 ^ i + m / 128 * 128 ^ (i + 1) = m * 128 ^ i := by
        rw [Nat.pow_succ, Nat.mul_comm (128 ^ i) 128, ← Nat.mul_assoc, ← Nat.add_mul]
        congr 1
        omega
      rw [hb, if_neg (by decide), if_neg (by omega), e1, ih (m / 128) (by omega) (i + 1) _ (by omega) (fun _ => by omega), Nat.add_assoc, e2, Nat.add_assoc, Nat.add_comm 1]
theorem take_put {n : Nat} (h : n < 18446744073709551616) (b : List UInt8) : takeL (putL n ++ b) = (n, (putL n).length, 0) := by
  rw [takeL, takeF_put b n 0 0 (by simpa using h) (by omega)]; simp

/-- What is taken, put, is these bytes. -/
theorem takeF_back : ∀ (l : List UInt8) (i n u x : Nat), takeF l i n = (u, x, 0) → ∃ m, x = i + (putL m).length ∧ putL m = l.take (putL m).length ∧ u = n + m * 128 ^ i ∧ (putL m).length ≤ l.length ∧ (0 < i → m ≠ 0) := by
  intro l
  induction l with
  | nil => intro i n u x h; simp [takeF] at h
  | cons c l ih =>
    intro i n u x h
    rw [takeF] at h
    have hlt := c.toNat_lt
    cases hb : bad i c.toNat with
    | true => simp [hb] at h
    | false =>
      rw [hb, if_neg (by decide)] at h
      have h0 : 0 < i → c.toNat ≠ 0 := by
        simp [bad] at hb
        exact hb.2
      by_cases hc : c.toNat < 128
      · rw [if_pos hc] at h
        injection h with h1 h2
        injection h2 with h2 h3
        have e : putL c.toNat = [c] := by rw [putL_small hc]; simp
        exact ⟨c.toNat, by rw [e]; simp; omega, by rw [e]; simp, by rw [← h1, Nat.mod_eq_of_lt hc], by rw [e]; simp, h0⟩
      · rw [if_neg hc] at h
        obtain ⟨m, e1, e2, e3, e4, e5⟩ := ih _ _ _ _ h
        have hm := e5 (by omega)
        have e : putL (m * 128 + c.toNat % 128) = c :: putL m := by
          rw [putL_big (by omega)]
          congr 1
          · have : (m * 128 + c.toNat % 128) % 128 + 128 = c.toNat := by omega
            rw [this]; simp
          · congr 1
            omega
        refine ⟨m * 128 + c.toNat % 128, ?_, ?_, ?_, ?_, fun _ => by omega⟩
        · rw [e, List.length_cons]; omega
        · rw [e, List.length_cons, List.take_succ_cons, ← e2]
        · rw [e3, Nat.pow_succ, Nat.add_mul, Nat.mul_comm (128 ^ i) 128, ← Nat.mul_assoc]
          omega
        · rw [e, List.length_cons, List.length_cons]; omega
theorem take_back {l : List UInt8} {u x : Nat} (h : takeL l = (u, x, 0)) : 1 ≤ x ∧ x ≤ l.length ∧ putL u = l.take x := by
  obtain ⟨m, e1, e2, e3, e4, _⟩ := takeF_back l 0 0 u x h
  have hu : u = m := by rw [e3]; simp
  have hx : x = (putL m).length := by omega
  subst hu
  rw [hx]
  exact ⟨putL_pos u, e4, e2⟩
theorem takeF_err : ∀ (l : List UInt8) (i n : Nat), (takeF l i n).2.2 = 0 ∨ (takeF l i n).2.2 = 11 ∨ (takeF l i n).2.2 = 12 := by
  intro l
  induction l with
  | nil => intro i n; simp [takeF]
  | cons c l ih =>
    intro i n
    rw [takeF]
    cases hb : bad i c.toNat with
    | true => simp
    | false =>
      by_cases hc : c.toNat < 128
      · simp [hc]
      · simp only [hc, if_false, Bool.false_eq_true]; exact ih _ _

/-- A number's groups are laid above what is there. -/
theorem or_add {n y k : Nat} (h : n < 128 ^ k) : n ||| y * 128 ^ k = n + y * 128 ^ k := by
  have e : (128 : Nat) ^ k = 2 ^ (7 * k) := by rw [Nat.pow_mul]
  rw [e] at h ⊢
  rw [Nat.or_comm, Nat.mul_comm, ← Nat.two_pow_add_eq_or_of_lt h, Nat.add_comm]

def zig (n : Int) : Int := if n < 0 then -2 * n - 1 else 2 * n
def zag (u : Int) : Int := if u % 2 = 1 then -(u / 2) - 1 else u / 2
theorem zag_zig (n : Int) : zag (zig n) = n := by unfold zag zig; split <;> split <;> omega
theorem zig_zag {u : Int} (h : 0 ≤ u) : zig (zag u) = u := by unfold zag zig; split <;> split <;> omega
theorem zig_range {n : Int} (h1 : -9223372036854775808 ≤ n) (h2 : n ≤ 9223372036854775807) : 0 ≤ zig n ∧ zig n ≤ 18446744073709551615 := by unfold zig; split <;> omega
theorem zag_range {u : Int} (h1 : 0 ≤ u) (h2 : u ≤ 18446744073709551615) : -9223372036854775808 ≤ zag u ∧ zag u ≤ 9223372036854775807 := by unfold zag; split <;> omega
end VaryM
end Go.Proofs.Ytahocamjihhjhaa
