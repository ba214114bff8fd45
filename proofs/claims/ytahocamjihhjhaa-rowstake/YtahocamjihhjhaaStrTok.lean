/-
  The walks of strings.IndexByte, text.tokenByte, text.Token, text.Plain and of the reference's In, Token, Plain.
-/
import Derived.Test.YtahocamjihhjhaaStrRow
import Derived.Laws.StandIn
namespace Go.Proofs.Ytahocamjihhjhaa
open Go.RowKit StrM

def idxV (s : ByteArray) (c : UInt8) : Int := Lib.indexByte s.data.toList c

theorem idx_yes {s : ByteArray} {c : UInt8} (h : inB s.data.toList c = true) : idxV s c = (fst c s.data.toList : Int) := by
  have h' : fst c s.data.toList < s.data.toList.length := by simpa [inB] using h
  rw [idxV, indexByte_fst, if_pos h']
theorem idx_no {s : ByteArray} {c : UInt8} (h : inB s.data.toList c = false) : idxV s c = -1 := by
  have h' : ¬ fst c s.data.toList < s.data.toList.length := by simpa [inB] using h
  rw [idxV, indexByte_fst, if_neg h']

def signsS : ByteArray := ⟨#[33, 35, 36, 37, 38, 39, 42, 43, 45, 46, 94, 95, 124, 126, 96]⟩

theorem fst_at {s : ByteArray} {c : UInt8} {k : Nat} (hk : k < s.size) (h : k ≤ fst c s.data.toList) :
    ((s[k] == c) = true → fst c s.data.toList = k) ∧ ((s[k] == c) = false → k + 1 ≤ fst c s.data.toList) := by
  have e := fst_drop c s.data.toList k h
  rw [drop_byte s k hk] at e
  constructor
  · intro hb; rw [fst_yes hb] at e; omega
  · intro hb; rw [fst_no hb] at e; omega

def bigS : ByteArray := ⟨#[65, 66, 67, 68, 69, 70, 71, 72, 73, 74, 75, 76, 77, 78, 79, 80, 81, 82, 83, 84, 85, 86, 87, 88, 89, 90, 97, 98, 99, 100, 101, 102, 103, 104, 105, 106, 107, 108, 109, 110, 111, 112, 113, 114, 115, 116, 117, 118, 119, 120, 121, 122, 48, 49, 50, 51, 52, 53, 54, 55, 56, 57, 33, 35, 36, 37, 38, 39, 42, 43, 45, 46, 94, 95, 124, 126, 96]⟩
theorem big_all : ∀ n, n < 256 → inB bigS.data.toList (UInt8.ofNat n) = tokB (UInt8.ofNat n) := by decide +kernel
theorem big_tok (c : UInt8) : inB bigS.data.toList c = tokB c := by
  have := big_all c.toNat c.toNat_lt
  simpa using this

def allTok (l : List UInt8) : Bool := l.all tokB
theorem allTok_cons (c : UInt8) (l : List UInt8) : allTok (c :: l) = (tokB c && allTok l) := rfl

theorem tokensL_nil (s : ByteArray) (h : s.size = 0) : tokensL s.data.toList = false := by
  rw [List.length_eq_zero_iff.1 (by rw [length_bytes]; omega : s.data.toList.length = 0)]; rfl
theorem empty_no (s : ByteArray) (h : 0 < s.size) : s.toList.isEmpty = false ∧ ¬ s.toList = [] := by
  rw [ByteArray.toList_eq]
  have : s.data.toList ≠ [] := by
    intro hc
    have := length_bytes s
    rw [hc] at this; simp at this; omega
  exact ⟨by simpa using this, this⟩
theorem empty_yes (s : ByteArray) (h : s.size = 0) : s.toList.isEmpty = true ∧ s.toList = [] := by
  rw [ByteArray.toList_eq, List.length_eq_zero_iff.1 (by rw [length_bytes]; omega : s.data.toList.length = 0)]; exact ⟨rfl, rfl⟩
theorem tokensL_pos {s : ByteArray} (h : 0 < s.size) : tokensL s.data.toList = allTok s.data.toList := by
  have := (empty_no s h).1
  rw [ByteArray.toList_eq] at this
  rw [tokensL, this, allTok]; simp

theorem tokensL_len (s : ByteArray) : tokensL s.data.toList = (allTok s.data.toList && decide (0 < s.size)) := by
  by_cases h : 0 < s.size
  · rw [tokensL_pos h]; simp [h]
  · rw [tokensL_nil s (by omega)]; simp [h]

end Go.Proofs.Ytahocamjihhjhaa
