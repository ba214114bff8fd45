/-
  Plain: bytes as hexadecimal digits, and back (no program).
-/
import Derived.Test.YtcccgcahmnmchaaDoorStrMath
namespace Go.Proofs.YtcccgcahmnmchaaDoor.StrM

/-- The digit of a number below 16. -/
def hexD (n : Nat) : UInt8 := if n < 10 then UInt8.ofNat (48 + n) else UInt8.ofNat (87 + n)
/-- What a digit stands for, small or capital; -1: it is none. -/
def hexV (c : UInt8) : Int :=
  if decide (48 ≤ c.toNat) && decide (c.toNat ≤ 57) then (c.toNat : Int) - 48
  else if decide (97 ≤ c.toNat) && decide (c.toNat ≤ 102) then (c.toNat : Int) - 87
  else if decide (65 ≤ c.toNat) && decide (c.toNat ≤ 70) then (c.toNat : Int) - 55 else -1
def hexL (l : List UInt8) : List UInt8 := l.flatMap fun b => [hexD (b.toNat / 16), hexD (b.toNat % 16)]
def hexS (l : List UInt8) : ByteArray := ⟨(hexL l).toArray⟩
/-- The byte of two digits' values. -/
def hexB (a b : Int) : UInt8 := UInt8.ofNat (16 * a + b).toNat
def unhexL : List UInt8 → Option (List UInt8)
  | [] => some []
  | [_] => none
  | a :: b :: r => if decide (hexV a < 0) || decide (hexV b < 0) then none else (unhexL r).map (hexB (hexV a) (hexV b) :: ·)
def unV (l : List UInt8) : List UInt8 := (unhexL l).getD []
def unE (l : List UInt8) : Int := if (unhexL l).isSome then 0 else 2
def hexDigits : List UInt8 := [48, 49, 50, 51, 52, 53, 54, 55, 56, 57, 97, 98, 99, 100, 101, 102]

theorem forall_byte {p : UInt8 → Prop} (h : ∀ n, n < 256 → p (UInt8.ofNat n)) (c : UInt8) : p c := by
  have := h c.toNat c.toNat_lt
  rwa [UInt8.ofNat_toNat] at this

theorem hexV_lower_all : ∀ n, n < 256 → Lib.indexByte hexDigits (low (UInt8.ofNat n)) = hexV (UInt8.ofNat n) := by decide +kernel
theorem hexV_lower (c : UInt8) : Lib.indexByte hexDigits (low c) = hexV c := forall_byte (p := fun c => Lib.indexByte hexDigits (low c) = hexV c) hexV_lower_all c
theorem hexV_range_all : ∀ n, n < 256 → -1 ≤ hexV (UInt8.ofNat n) ∧ hexV (UInt8.ofNat n) ≤ 15 := by decide +kernel
theorem hexV_range (c : UInt8) : -1 ≤ hexV c ∧ hexV c ≤ 15 := forall_byte (p := fun c => -1 ≤ hexV c ∧ hexV c ≤ 15) hexV_range_all c
theorem hexV_back_all : ∀ n, n < 16 → hexV (hexD n) = n := by decide +kernel
theorem hexD_back_all : ∀ n, n < 256 → 0 ≤ hexV (UInt8.ofNat n) → hexD (hexV (UInt8.ofNat n)).toNat = low (UInt8.ofNat n) := by decide +kernel
theorem hexD_back (c : UInt8) (h : 0 ≤ hexV c) : hexD (hexV c).toNat = low c := forall_byte (p := fun c => 0 ≤ hexV c → hexD (hexV c).toNat = low c) hexD_back_all c h
/-- The digits as they stand in the table. -/
theorem hexD_table : ∀ n, (h : n < 16) → hexDigits[n] = hexD n := by decide +kernel

theorem hexB_toNat {a b : Int} (ha : 0 ≤ a) (ha' : a ≤ 15) (hb : 0 ≤ b) (hb' : b ≤ 15) : ((hexB a b).toNat : Int) = 16 * a + b := by
  unfold hexB
  rw [UInt8.toNat_ofNat']
  omega

theorem hexL_nil : hexL [] = [] := rfl
theorem hexL_cons (b : UInt8) (l : List UInt8) : hexL (b :: l) = hexD (b.toNat / 16) :: hexD (b.toNat % 16) :: hexL l := by simp [hexL]
theorem hexL_snoc (l : List UInt8) (b : UInt8) : hexL (l ++ [b]) = hexL l ++ [hexD (b.toNat / 16), hexD (b.toNat % 16)] := by simp [hexL]
theorem hexL_len (l : List UInt8) : (hexL l).length = 2 * l.length := by
  induction l with
  | nil => rfl
  | cons b l ih => rw [hexL_cons]; simp [ih]; omega
theorem hexS_size (l : List UInt8) : (hexS l).size = 2 * l.length := by rw [hexS, size_mk, hexL_len]

theorem unhexL_bad {a b : UInt8} {r : List UInt8} (h : hexV a < 0 ∨ hexV b < 0) : unhexL (a :: b :: r) = none := by
  unfold unhexL
  rcases h with h | h <;> simp [h]
theorem unhexL_good {a b : UInt8} {r : List UInt8} (ha : 0 ≤ hexV a) (hb : 0 ≤ hexV b) : unhexL (a :: b :: r) = (unhexL r).map (hexB (hexV a) (hexV b) :: ·) := by
  have h1 : ¬ hexV a < 0 := by omega
  have h2 : ¬ hexV b < 0 := by omega
  rw [unhexL]; simp [h1, h2]

theorem unhexL_odd : ∀ (n : Nat) (l : List UInt8), l.length = 2 * n + 1 → unhexL l = none
  | 0, l, h => by
    match l, h with
    | [_], _ => rfl
  | n + 1, l, h => by
    match l, h with
    | a :: b :: r, h =>
      have ih := unhexL_odd n r (by simp at h; omega)
      by_cases hb : hexV a < 0 ∨ hexV b < 0
      · exact unhexL_bad hb
      · rw [unhexL_good (by omega) (by omega), ih]; rfl

theorem hexB_back (b : UInt8) : hexB (hexV (hexD (b.toNat / 16))) (hexV (hexD (b.toNat % 16))) = b := by
  have hb := b.toNat_lt
  rw [hexV_back_all _ (by omega), hexV_back_all _ (by omega)]
  apply UInt8.toNat_inj.1
  have := hexB_toNat (a := ((b.toNat / 16 : Nat) : Int)) (b := ((b.toNat % 16 : Nat) : Int)) (by omega) (by omega) (by omega) (by omega)
  omega

/-- What is put is got. -/
theorem unhexL_hexL (l : List UInt8) : unhexL (hexL l) = some l := by
  induction l with
  | nil => rfl
  | cons b l ih =>
    have hb := b.toNat_lt
    rw [hexL_cons, unhexL_good (by rw [hexV_back_all _ (by omega)]; omega) (by rw [hexV_back_all _ (by omega)]; omega), ih, hexB_back]; rfl

/-- What is got is put as the text, small. -/
theorem hexL_unhexL : ∀ (n : Nat) (l r : List UInt8), l.length ≤ n → unhexL l = some r → hexL r = lowL l
  | _, [], r, _, h => by
    have : r = [] := by simpa [unhexL] using h.symm
    subst this; rfl
  | _, [_], r, _, h => by simp [unhexL] at h
  | n + 1, a :: b :: t, r, hl, h => by
    by_cases hb : hexV a < 0 ∨ hexV b < 0
    · rw [unhexL_bad hb] at h; cases h
    · have h1 : 0 ≤ hexV a := by omega
      have h2 : 0 ≤ hexV b := by omega
      rw [unhexL_good h1 h2] at h
      cases hu : unhexL t with
      | none => rw [hu] at h; cases h
      | some q =>
        rw [hu] at h
        have e : hexB (hexV a) (hexV b) :: q = r := by simpa using h
        subst e
        have ih := hexL_unhexL n t q (by simp at hl; omega) hu
        have r1 := (hexV_range a).2
        have r2 := (hexV_range b).2
        have e := hexB_toNat h1 r1 h2 r2
        have e1 : (hexB (hexV a) (hexV b)).toNat / 16 = (hexV a).toNat := by omega
        have e2 : (hexB (hexV a) (hexV b)).toNat % 16 = (hexV b).toNat := by omega
        rw [hexL_cons, ih, e1, e2, hexD_back a h1, hexD_back b h2]; rfl
  | 0, _ :: _ :: _, _, hl, _ => by simp at hl

theorem unV_hexL (l : List UInt8) : unV (hexL l) = l := by rw [unV, unhexL_hexL]; rfl
theorem unE_hexL (l : List UInt8) : unE (hexL l) = 0 := by rw [unE, unhexL_hexL]; rfl
theorem unE_cases (l : List UInt8) : (unE l = 2 ∧ unV l = []) ∨ (unE l = 0 ∧ hexL (unV l) = lowL l) := by
  cases h : unhexL l with
  | none => left; simp [unE, unV, h]
  | some r => right; refine ⟨by simp [unE, h], ?_⟩; rw [unV, h]; exact hexL_unhexL _ l r (Nat.le_refl _) h
theorem unV_le : ∀ (n : Nat) (l r : List UInt8), l.length ≤ n → unhexL l = some r → l.length = 2 * r.length := by
  intro n l r hn h
  have := hexL_unhexL n l r hn h
  have := congrArg List.length this
  rw [hexL_len, lowL_len] at this
  exact this.symm
theorem unV_len (l : List UInt8) : (unV l).length ≤ l.length := by
  cases h : unhexL l with
  | none => simp [unV, h]
  | some r =>
    have := unV_le _ l r (Nat.le_refl _) h
    simp [unV, h]; omega

/-- Where a walk over the pairs stands: the bytes so far, and what is left. -/
def HexAt (l : List UInt8) (i : Nat) (acc : List UInt8) : Prop := unhexL l = (unhexL (l.drop i)).map (acc ++ ·)
theorem HexAt.start (l : List UInt8) : HexAt l 0 [] := by simp [HexAt]
theorem drop_pair {l : List UInt8} {i : Nat} (h : i + 1 < l.length) : l.drop i = l[i] :: l[i + 1] :: l.drop (i + 2) := by
  rw [List.drop_eq_getElem_cons (by omega), List.drop_eq_getElem_cons h]
theorem HexAt.bad {l : List UInt8} {i : Nat} {acc : List UInt8} (h : HexAt l i acc) (hi : i + 1 < l.length) (hb : hexV l[i] < 0 ∨ hexV l[i + 1] < 0) : unV l = [] ∧ unE l = 2 := by
  have : unhexL l = none := by rw [h, drop_pair hi, unhexL_bad hb]; rfl
  simp [unV, unE, this]
theorem HexAt.good {l : List UInt8} {i : Nat} {acc : List UInt8} (h : HexAt l i acc) (hi : i + 1 < l.length) (ha : 0 ≤ hexV l[i]) (hb : 0 ≤ hexV l[i + 1]) : HexAt l (i + 2) (acc ++ [hexB (hexV l[i]) (hexV l[i + 1])]) := by
  unfold HexAt at h ⊢
  rw [h, drop_pair hi, unhexL_good ha hb, Option.map_map]
  congr 1
  funext x
  simp
theorem HexAt.done {l : List UInt8} {i : Nat} {acc : List UInt8} (h : HexAt l i acc) (hi : l.length = i) : unV l = acc ∧ unE l = 0 := by
  have : unhexL l = some acc := by rw [h, List.drop_of_length_le (by omega)]; simp [unhexL]
  simp [unV, unE, this]
theorem un_odd {l : List UInt8} (h : l.length % 2 = 1) : unV l = [] ∧ unE l = 2 := by
  have := unhexL_odd (l.length / 2) l (by omega)
  simp [unV, unE, this]
end Go.Proofs.YtcccgcahmnmchaaDoor.StrM
