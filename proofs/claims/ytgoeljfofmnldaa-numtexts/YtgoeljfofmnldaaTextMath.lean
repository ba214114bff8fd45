/-
  Plain facts about the decimal digits of a text (no program).
-/
import Derived.Test.YtgoeljfofmnldaaNumMath
import Derived.Lib.Strings
namespace Go.Proofs.Ytgoeljfofmnldaa.NumM

def digB (c : UInt8) : Bool := decide (48 ≤ c.toNat) && decide (c.toNat ≤ 57)
def digsB (l : List UInt8) : Bool := l.all digB
def zeroB (l : List UInt8) : Bool := decide (1 < l.length) && (l.headD 0 == 48)
def wfB (l : List UInt8) : Bool := !l.isEmpty && (!zeroB l && digsB l)
def val (t : Int) : List UInt8 → Int
  | [] => t
  | c :: r => val (t * 10 + ((c.toNat : Int) - 48)) r
def getE (l : List UInt8) : Int := if wfB l = true then (if l.length ≤ 13 ∧ isB (val 0 l) = true then 0 else 3) else 2
def getV (l : List UInt8) : Int := if getE l = 0 then val 0 l else 0

theorem digB_true {c : UInt8} (h : digB c = true) : 48 ≤ c.toNat ∧ c.toNat ≤ 57 := by simpa [digB] using h
theorem digB_false {c : UInt8} (h : digB c = false) : c.toNat < 48 ∨ 57 < c.toNat := by
  by_cases g : 48 ≤ c.toNat ∧ c.toNat ≤ 57
  · simp [digB, g] at h
  · omega
theorem digB_mk {c : UInt8} (h : 48 ≤ c.toNat) (g : c.toNat ≤ 57) : digB c = true := by simp [digB, h, g]
theorem digsB_nil : digsB [] = true := rfl
theorem digsB_cons (c : UInt8) (r : List UInt8) : digsB (c :: r) = (digB c && digsB r) := rfl

theorem drop_byte (s : ByteArray) (k : Nat) (h : k < s.size) : s.data.toList.drop k = s[k] :: s.data.toList.drop (k + 1) := by
  have h' : k < s.data.toList.length := by simpa using h
  rw [List.drop_eq_getElem_cons h']; rfl
theorem length_bytes (s : ByteArray) : s.data.toList.length = s.size := by simp
theorem empty_no (s : ByteArray) (h : 0 < s.size) : s.toList.isEmpty = false ∧ ¬ s.toList = [] := by
  rw [ByteArray.toList_eq]
  have : s.data.toList ≠ [] := by
    intro hc
    have := length_bytes s
    rw [hc] at this; simp at this; omega
  exact ⟨by simpa using this, this⟩
theorem empty_yes (s : ByteArray) (h : s.size = 0) : s.data.toList = [] :=
  List.length_eq_zero_iff.1 (by rw [length_bytes]; exact h)

theorem pow_le13 (k : Nat) (h : k ≤ 13) : (10 : Int) ^ k ≤ 10000000000000 := by
  have : (10 : Int) ^ k ≤ 10 ^ 13 := by
    have := Nat.pow_le_pow_right (n := 10) (by omega) h
    exact_mod_cast this
  simpa using this

theorem wfB_nil : wfB [] = false := rfl
theorem wfB_zero {l : List UInt8} (h : zeroB l = true) : wfB l = false := by simp [wfB, h]
theorem wfB_digs {l : List UInt8} (h : l ≠ []) (g : zeroB l = false) : wfB l = digsB l := by
  have : l.isEmpty = false := by simpa using h
  simp [wfB, this, g]
theorem wfB_true {l : List UInt8} (h : wfB l = true) : l ≠ [] ∧ zeroB l = false ∧ digsB l = true := by
  simp [wfB] at h; exact h

theorem zeroB_long (s : ByteArray) (h : 1 < s.size) : zeroB s.data.toList = (s[0] == 48) := by
  have e : s.data.toList = s[0] :: s.data.toList.drop 1 := by
    have := drop_byte s 0 (by omega)
    simpa using this
  unfold zeroB
  rw [length_bytes, decide_eq_true h, Bool.true_and, e]; rfl
theorem zeroB_short (s : ByteArray) (h : s.size ≤ 1) : zeroB s.data.toList = false := by
  unfold zeroB
  rw [length_bytes, decide_eq_false (by omega), Bool.false_and]
theorem byte_eq (c : UInt8) : (c == 48) = ((c.toNat : Int) == 48) := by
  rw [Bool.eq_iff_iff, beq_iff_eq, beq_iff_eq]
  constructor
  · rintro rfl; rfl
  · intro h
    have : c.toNat = 48 := by omega
    exact UInt8.toNat_inj.1 (by rw [this]; rfl)

end Go.Proofs.Ytgoeljfofmnldaa.NumM
