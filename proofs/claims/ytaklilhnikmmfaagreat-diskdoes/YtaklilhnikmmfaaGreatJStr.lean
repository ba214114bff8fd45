/-
  Joined: StrMath StrRow StrTok StrCut StrSplit.
-/
import Derived.Lib.Strings
import Derived.Lib.Bytealg
import Derived.Test.YtaklilhnikmmfaaGreatRows
import Derived.WalkKit
import Derived.Deep.AppendSrc
import Derived.Laws.AppendOwnNone
import Derived.Laws.IdiomStrings
import Derived.Lib.Hide
import Derived.Laws.StandIn
import Derived.Deep.QuietTactic
import Derived.BigQuiet
import Derived.IntWalk
/-
  Plain facts about texts: small letters, blanks at the ends, the first byte of a kind, pieces between bytes of a kind (no program).
-/
namespace Go.Proofs.YtaklilhnikmmfaaGreat.StrM

theorem drop_byte (s : ByteArray) (k : Nat) (h : k < s.size) : s.data.toList.drop k = s[k] :: s.data.toList.drop (k + 1) := by
  have h' : k < s.data.toList.length := by simpa using h
  rw [List.drop_eq_getElem_cons h']; rfl
theorem take_byte (s : ByteArray) (k : Nat) (h : k < s.size) : s.data.toList.take (k + 1) = s.data.toList.take k ++ [s[k]] := by
  rw [List.take_succ_eq_append_getElem (by simpa using h)]; rfl
theorem length_bytes (s : ByteArray) : s.data.toList.length = s.size := by simp
theorem size_mk (l : List UInt8) : (⟨l.toArray⟩ : ByteArray).size = l.length := by simp [ByteArray.size]
theorem data_mk (l : List UInt8) : (⟨l.toArray⟩ : ByteArray).data.toList = l := rfl
theorem mk_eq {s : ByteArray} {l : List UInt8} (h : s.data.toList = l) : s = ⟨l.toArray⟩ := by
  rw [← h]
theorem bytes_ext {s t : ByteArray} (h : s.data.toList = t.data.toList) : s = t := by
  rw [mk_eq h, Lib.mk_data]
theorem bytes_add (a b : List UInt8) : ((⟨a.toArray⟩ : ByteArray) ++ ⟨b.toArray⟩) = ⟨(a ++ b).toArray⟩ := by
  apply ByteArray.ext
  simp [ByteArray.data_append]
theorem data_add (a b : ByteArray) : (a ++ b).data.toList = a.data.toList ++ b.data.toList := by
  simp [ByteArray.data_append]
theorem toNat_eq {a b : UInt8} (h : (a.toNat : Int) = (b.toNat : Int)) : a = b := UInt8.toNat_inj.1 (by omega)

/-! Small letters. -/
def upB (c : UInt8) : Bool := decide (65 ≤ c.toNat) && decide (c.toNat ≤ 90)
def low (c : UInt8) : UInt8 := if upB c then UInt8.ofNat (c.toNat + 32) else c
def lowL (l : List UInt8) : List UInt8 := l.map low
def lowS (s : ByteArray) : ByteArray := ⟨(lowL s.data.toList).toArray⟩
theorem upB_true {c : UInt8} (h : upB c = true) : 65 ≤ c.toNat ∧ c.toNat ≤ 90 := by simpa [upB] using h
theorem upB_false {c : UInt8} (h : upB c = false) : c.toNat < 65 ∨ 90 < c.toNat := by
  by_cases g : 65 ≤ c.toNat ∧ c.toNat ≤ 90
  · simp [upB, g] at h
  · omega
theorem low_up {c : UInt8} (h : upB c = true) : ((low c).toNat : Int) = (c.toNat : Int) + 32 := by
  have := upB_true h
  simp only [low, h, if_true, UInt8.toNat_ofNat']
  omega
theorem low_no {c : UInt8} (h : upB c = false) : low c = c := by simp [low, h]
theorem low_low (c : UInt8) : low (low c) = low c := by
  cases h : upB c
  · rw [low_no h, low_no h]
  · have h1 := low_up h
    have h2 := upB_true h
    apply low_no
    have : ¬ ((low c).toNat ≤ 90) := by omega
    simp [upB, this]
theorem lowL_low (l : List UInt8) : lowL (lowL l) = lowL l := by simp [lowL, Function.comp_def, low_low]
theorem lowL_len (l : List UInt8) : (lowL l).length = l.length := by simp [lowL]
theorem lowS_size (s : ByteArray) : (lowS s).size = s.size := by rw [lowS, size_mk, lowL_len, length_bytes]
theorem lowS_low (s : ByteArray) : lowS (lowS s) = lowS s := by simp only [lowS, lowL_low]
theorem lowL_snoc (l : List UInt8) (c : UInt8) : lowL (l ++ [c]) = lowL l ++ [low c] := by simp [lowL]
theorem low_part (s : ByteArray) (k : Nat) (h : k < s.size) : (lowL (s.data.toList.take k) ++ s.data.toList.drop k).set k (low s[k]) = lowL (s.data.toList.take (k + 1)) ++ s.data.toList.drop (k + 1) := by
  have hl : (lowL (s.data.toList.take k)).length = k := by rw [lowL_len, List.length_take, length_bytes]; omega
  rw [List.set_append_right _ _ (by omega), hl, Nat.sub_self, drop_byte s k h, List.set_cons_zero, take_byte s k h, lowL_snoc]; simp
theorem low_same (s : ByteArray) (k : Nat) (h : k < s.size) (g : low s[k] = s[k]) : lowL (s.data.toList.take k) ++ s.data.toList.drop k = lowL (s.data.toList.take (k + 1)) ++ s.data.toList.drop (k + 1) := by
  rw [drop_byte s k h, take_byte s k h, lowL_snoc, g]; simp

/-! Blanks. -/
def blankB (c : UInt8) : Bool := c == 32 || c == 9
def trimA (l : List UInt8) : List UInt8 := l.dropWhile blankB
def trimZ (l : List UInt8) : List UInt8 := (l.reverse.dropWhile blankB).reverse
def trimL (l : List UInt8) : List UInt8 := trimZ (trimA l)
def trimS (s : ByteArray) : ByteArray := ⟨(trimL s.data.toList).toArray⟩
theorem blankB_eq (c : UInt8) : blankB c = (((c.toNat : Int) == 32) || ((c.toNat : Int) == 9)) := by
  unfold blankB
  congr 1
  · rw [Bool.eq_iff_iff, beq_iff_eq, beq_iff_eq]
    exact ⟨fun h => by subst h; rfl, fun h => toNat_eq h⟩
  · rw [Bool.eq_iff_iff, beq_iff_eq, beq_iff_eq]
    exact ⟨fun h => by subst h; rfl, fun h => toNat_eq h⟩
theorem trimA_yes {c : UInt8} {l : List UInt8} (h : blankB c = true) : trimA (c :: l) = trimA l := by simp [trimA, h]
theorem trimA_no {c : UInt8} {l : List UInt8} (h : blankB c = false) : trimA (c :: l) = c :: l := by simp [trimA, h]
theorem trimZ_yes {c : UInt8} {l : List UInt8} (h : blankB c = true) : trimZ (l ++ [c]) = trimZ l := by simp [trimZ, h]
theorem trimZ_no {c : UInt8} {l : List UInt8} (h : blankB c = false) : trimZ (l ++ [c]) = l ++ [c] := by simp [trimZ, h]
theorem trimA_nil : trimA [] = [] := rfl
theorem trimZ_nil : trimZ [] = [] := rfl
theorem snoc_cases (l : List UInt8) : l = [] ∨ ∃ r c, l = r ++ [c] := by
  rcases List.eq_nil_or_concat l with h | ⟨r, c, h⟩
  · exact .inl h
  · exact .inr ⟨r, c, by simpa using h⟩
theorem trimZ_len : ∀ (n : Nat) (l : List UInt8), l.length = n → (trimZ l).length ≤ n
  | 0, l, h => by rw [List.length_eq_zero_iff.1 h]; simp [trimZ_nil]
  | n + 1, l, h => by
    rcases snoc_cases l with rfl | ⟨r, c, rfl⟩
    · simp at h
    · cases hb : blankB c
      · rw [trimZ_no hb, h]; exact Nat.le_refl _
      · rw [trimZ_yes hb]
        have := trimZ_len n r (by simpa using h)
        omega
theorem trimA_len (l : List UInt8) : (trimA l).length ≤ l.length := by
  induction l with
  | nil => simp [trimA_nil]
  | cons c l ih =>
    cases hb : blankB c
    · rw [trimA_no hb]; exact Nat.le_refl _
    · rw [trimA_yes hb]; simp; omega
theorem trimL_len (l : List UInt8) : (trimL l).length ≤ l.length := by
  have := trimZ_len _ (trimA l) rfl
  have := trimA_len l
  unfold trimL; omega
theorem trimS_size (s : ByteArray) : (trimS s).size ≤ s.size := by
  rw [trimS, size_mk, ← length_bytes]; exact trimL_len _
/-- A text whose first byte is no blank keeps it when its end is trimmed. -/
theorem trimZ_head {c : UInt8} (h : blankB c = false) : ∀ (n : Nat) (l : List UInt8), l.length = n → ∃ r, trimZ (c :: l) = c :: r
  | 0, l, hl => by
    rw [List.length_eq_zero_iff.1 hl]
    exact ⟨[], trimZ_no (l := []) h⟩
  | n + 1, l, hl => by
    rcases snoc_cases l with rfl | ⟨r, d, rfl⟩
    · simp at hl
    · cases hb : blankB d
      · exact ⟨r ++ [d], trimZ_no (l := c :: r) hb⟩
      · have := trimZ_yes (l := c :: r) hb
        rw [List.cons_append] at this
        rw [this]
        exact trimZ_head h n r (by simpa using hl)
theorem trimZ_trimZ : ∀ (n : Nat) (l : List UInt8), l.length = n → trimZ (trimZ l) = trimZ l
  | 0, l, hl => by rw [List.length_eq_zero_iff.1 hl]; rfl
  | n + 1, l, hl => by
    rcases snoc_cases l with rfl | ⟨r, d, rfl⟩
    · simp at hl
    · cases hb : blankB d
      · rw [trimZ_no hb, trimZ_no hb]
      · rw [trimZ_yes hb]; exact trimZ_trimZ n r (by simpa using hl)
theorem trimL_trimL (l : List UInt8) : trimL (trimL l) = trimL l := by
  unfold trimL
  match h : trimA l with
  | [] => rfl
  | c :: r =>
    have hc : blankB c = false := by
      have := List.head?_dropWhile_not blankB l
      have e : l.dropWhile blankB = c :: r := h
      rw [e] at this
      simpa using this
    obtain ⟨q, hq⟩ := trimZ_head hc _ r rfl
    rw [hq, trimA_no hc, ← hq, trimZ_trimZ _ _ rfl]
theorem trimS_trimS (s : ByteArray) : trimS (trimS s) = trimS s := by simp only [trimS, trimL_trimL]

/-! The first byte of a kind. -/
def fst (c : UInt8) : List UInt8 → Nat
  | [] => 0
  | b :: l => if b == c then 0 else fst c l + 1
theorem fst_le (c : UInt8) (l : List UInt8) : fst c l ≤ l.length := by
  induction l with
  | nil => exact Nat.le_refl _
  | cons b l ih => unfold fst; split <;> simp <;> omega
theorem fst_yes {c b : UInt8} {l : List UInt8} (h : (b == c) = true) : fst c (b :: l) = 0 := by simp [fst, h]
theorem fst_no {c b : UInt8} {l : List UInt8} (h : (b == c) = false) : fst c (b :: l) = fst c l + 1 := by simp [fst, h]
theorem indexByte_fst (c : UInt8) (l : List UInt8) : Lib.indexByte l c = if fst c l < l.length then (fst c l : Int) else -1 := by
  induction l with
  | nil => rfl
  | cons b l ih =>
    unfold Lib.indexByte
    cases hb : (b == c)
    · rw [fst_no hb, ih]
      have := fst_le c l
      by_cases h : fst c l < l.length
      · rw [if_pos h]
        have e : (((fst c l : Nat) : Int) == -1) = false := by rw [beq_eq_false_iff_ne]; omega
        have e2 : fst c l + 1 < (b :: l).length := by simp; exact h
        rw [e, if_pos e2]; simp
      · rw [if_neg h]
        have e2 : ¬ (fst c l + 1 < (b :: l).length) := by simp; omega
        rw [if_neg e2]; simp
    · rw [fst_yes hb]; simp
theorem fst_drop (c : UInt8) (l : List UInt8) (k : Nat) (h : k ≤ fst c l) : fst c (l.drop k) = fst c l - k := by
  induction k generalizing l with
  | zero => simp
  | succ k ih =>
    match l, h with
    | b :: l, h =>
      cases hb : (b == c)
      · rw [fst_no hb] at h ⊢
        rw [List.drop_succ_cons, ih l (by omega)]; omega
      · rw [fst_yes hb] at h; omega
def inB (l : List UInt8) (c : UInt8) : Bool := decide (fst c l < l.length)
theorem inB_iff (l : List UInt8) (c : UInt8) : inB l c = l.contains c := by
  unfold inB
  induction l with
  | nil => rfl
  | cons b l ih =>
    cases hb : (b == c)
    · rw [fst_no hb]
      have e : (c == b) = false := by rw [beq_eq_false_iff_ne] at hb ⊢; exact fun h => hb h.symm
      rw [List.contains_cons, e, Bool.false_or, ← ih]
      simp
    · rw [fst_yes hb]
      have e : (c == b) = true := by rw [beq_iff_eq] at hb ⊢; exact hb.symm
      rw [List.contains_cons, e]; simp
theorem byte_beq (b c : UInt8) : (b == c) = ((b.toNat : Int) == (c.toNat : Int)) := by
  rw [Bool.eq_iff_iff, beq_iff_eq, beq_iff_eq]
  exact ⟨fun h => by subst h; rfl, fun h => toNat_eq h⟩

def cutA (c : UInt8) (s : ByteArray) : ByteArray := ⟨(s.data.toList.take (fst c s.data.toList)).toArray⟩
def cutZ (c : UInt8) (s : ByteArray) : ByteArray := ⟨(s.data.toList.drop (fst c s.data.toList + 1)).toArray⟩
def cutB (c : UInt8) (s : ByteArray) : Bool := inB s.data.toList c

/-! Pieces between bytes of a kind. -/
def splitL (c : UInt8) : List UInt8 → List (List UInt8)
  | [] => [[]]
  | b :: l => if b == c then [] :: splitL c l else match splitL c l with
    | [] => [[b]]
    | p :: r => (b :: p) :: r
theorem splitL_ne (c : UInt8) (l : List UInt8) : splitL c l ≠ [] := by
  induction l with
  | nil => simp [splitL]
  | cons b l ih =>
    unfold splitL
    split
    · simp
    · split <;> simp
theorem splitL_yes (c : UInt8) (l : List UInt8) (h : fst c l < l.length) : splitL c l = l.take (fst c l) :: splitL c (l.drop (fst c l + 1)) := by
  induction l with
  | nil => simp at h
  | cons b l ih =>
    cases hb : (b == c)
    · rw [fst_no hb] at h ⊢
      have := ih (by simpa using h)
      simp only [splitL, hb, Bool.false_eq_true, if_false]
      rw [this]; simp
    · rw [fst_yes hb]
      simp [splitL, hb]
theorem splitL_no (c : UInt8) (l : List UInt8) (h : ¬ fst c l < l.length) : splitL c l = [l] := by
  induction l with
  | nil => rfl
  | cons b l ih =>
    cases hb : (b == c)
    · rw [fst_no hb] at h
      have := ih (by simpa using h)
      simp only [splitL, hb, Bool.false_eq_true, if_false]
      rw [this]
    · rw [fst_yes hb] at h; simp at h
def joinL (c : UInt8) : List (List UInt8) → List UInt8
  | [] => []
  | p :: r => p ++ r.flatMap (fun q => c :: q)
theorem joinL_snoc (c : UInt8) (ps : List (List UInt8)) (h : ps ≠ []) (p : List UInt8) : joinL c (ps ++ [p]) = joinL c ps ++ [c] ++ p := by
  match ps, h with
  | q :: r, _ => simp [joinL]
theorem joinL_one (c : UInt8) (p : List UInt8) : joinL c ([] ++ [p]) = p := by simp [joinL]
theorem joinL_split (c : UInt8) : ∀ (n : Nat) (l : List UInt8), l.length ≤ n → joinL c (splitL c l) = l
  | 0, l, h => by
    have : l = [] := List.length_eq_zero_iff.1 (by omega)
    subst this; rfl
  | n + 1, l, h => by
    by_cases hf : fst c l < l.length
    · rw [splitL_yes c l hf]
      have ih := joinL_split c n (l.drop (fst c l + 1)) (by simp; omega)
      have hc : l[fst c l] = c := by
        clear ih h
        induction l with
        | nil => simp at hf
        | cons b l ih2 =>
          cases hb : (b == c)
          · simp only [fst_no hb, List.getElem_cons_succ]
            rw [fst_no hb] at hf
            exact ih2 (by simpa using hf)
          · simp only [fst_yes hb, List.getElem_cons_zero]
            simpa using hb
      have hj : ∀ q, q ≠ [] → (q : List (List UInt8)).flatMap (fun p => c :: p) = c :: joinL c q := by
        intro q hq
        match q, hq with
        | x :: y, _ => simp [joinL]
      show l.take (fst c l) ++ (splitL c (l.drop (fst c l + 1))).flatMap (fun p => c :: p) = l
      rw [hj _ (splitL_ne c _), ih]
      have e : l.drop (fst c l) = c :: l.drop (fst c l + 1) := by rw [List.drop_eq_getElem_cons hf, hc]
      rw [← e, List.take_append_drop]
    · rw [splitL_no c l hf]; simp [joinL]
theorem fst_take (c : UInt8) : ∀ (l : List UInt8) (k : Nat), k ≤ fst c l → fst c (l.take k) = (l.take k).length
  | [], k, _ => by simp [fst]
  | b :: l, 0, _ => rfl
  | b :: l, k + 1, h => by
    cases hb : (b == c)
    · rw [fst_no hb] at h
      rw [List.take_succ_cons, fst_no hb, fst_take c l k (by omega)]; simp
    · rw [fst_yes hb] at h; omega
theorem split_in (c : UInt8) : ∀ (n : Nat) (l : List UInt8), l.length ≤ n → ∀ p ∈ splitL c l, inB p c = false
  | 0, l, h => by
    have : l = [] := List.length_eq_zero_iff.1 (by omega)
    subst this; intro p hp; simp [splitL] at hp; subst hp; rfl
  | n + 1, l, h => by
    by_cases hf : fst c l < l.length
    · rw [splitL_yes c l hf]
      intro p hp
      rcases List.mem_cons.1 hp with rfl | hp
      · simp only [inB, fst_take c l _ (Nat.le_refl _)]; simp
      · exact split_in c n _ (by simp; omega) p hp
    · rw [splitL_no c l hf]
      intro p hp
      have : p = l := by simpa using hp
      subst this
      simp [inB, hf]
theorem splitL_len (c : UInt8) (l : List UInt8) : (splitL c l).length ≤ l.length + 1 := by
  induction l with
  | nil => simp [splitL]
  | cons b l ih =>
    unfold splitL
    split
    · simp; omega
    · split
      · simp
      · rename_i h; rw [h] at ih; simp at ih ⊢; omega
theorem split_mem_len (c : UInt8) : ∀ (n : Nat) (l : List UInt8), l.length ≤ n → ∀ p ∈ splitL c l, p.length ≤ n
  | 0, l, h => by
    have : l = [] := List.length_eq_zero_iff.1 (by omega)
    subst this; intro p hp; simp [splitL] at hp; subst hp; simp
  | n + 1, l, h => by
    by_cases hf : fst c l < l.length
    · rw [splitL_yes c l hf]
      intro p hp
      rcases List.mem_cons.1 hp with rfl | hp
      · simp; omega
      · have := split_mem_len c n _ (by simp; omega) p hp; omega
    · rw [splitL_no c l hf]
      intro p hp
      have : p = l := by simpa using hp
      subst this; exact h

/-! Bytes of tokens, bytes that can be shown. -/
def signs : List UInt8 := [33, 35, 36, 37, 38, 39, 42, 43, 45, 46, 94, 95, 124, 126, 96]
def letB (c : UInt8) : Bool := upB c || (decide (97 ≤ c.toNat) && decide (c.toNat ≤ 122)) || (decide (48 ≤ c.toNat) && decide (c.toNat ≤ 57))
def tokB (c : UInt8) : Bool := letB c || inB signs c
def tokensL (l : List UInt8) : Bool := l.all tokB && !l.isEmpty
def plainB (c : UInt8) : Bool := decide (32 ≤ c.toNat) && decide (c.toNat ≤ 126)
def plainL (l : List UInt8) : Bool := l.all plainB
theorem plainB_true {c : UInt8} (h : plainB c = true) : 32 ≤ c.toNat ∧ c.toNat ≤ 126 := by simpa [plainB] using h
theorem plainB_false {c : UInt8} (h : plainB c = false) : c.toNat < 32 ∨ 126 < c.toNat := by
  by_cases g : 32 ≤ c.toNat ∧ c.toNat ≤ 126
  · simp [plainB, g] at h
  · omega
end Go.Proofs.YtaklilhnikmmfaaGreat.StrM

/-
  Rows of bytes and of strings that a call makes: what is appended to them, and what they read as.
-/
namespace Go.Proofs.YtaklilhnikmmfaaGreat
open Go.RowKit StrM

theorem ret_bool {a b : Bool} (h : a = b) : Ending.returned (.bool a) = .returned (.bool b) := by rw [h]
theorem ret_str {a b : ByteArray} (h : a = b) : Ending.returned (.string a) = .returned (.string b) := by rw [h]

/-- The length of the string in a slot (a measure). -/
def strLen : Value → Nat | .string s => s.size | _ => 0

def bys (l : List UInt8) : List Value := l.map fun b => .int .u8 (b.toNat : Int)
def strs (l : List (List UInt8)) : List Value := l.map fun s => .string ⟨s.toArray⟩
theorem bys_len (l : List UInt8) : (bys l).length = l.length := by simp [bys]
theorem strs_len (l : List (List UInt8)) : (strs l).length = l.length := by simp [strs]
theorem bys_add (a b : List UInt8) : bys (a ++ b) = bys a ++ bys b := by simp [bys]
theorem strs_add (a b : List (List UInt8)) : strs (a ++ b) = strs a ++ strs b := by simp [strs]

/-- What is told of the type of a row's elements: one cell each. -/
structure OneCell (P : Program) (t e : TypeId) (z : Value) (bytes : Nat) : Prop where
  under : P.underlying t = some (.slice e)
  info : (P.info? e).map (fun i => (i.zero, i.size, i.bytes)) = some (some z, 1, bytes)
  cells : z.cells.size = 1

theorem oneByte : OneCell Tryz.prog 38 5 (.int .u8 0) 1 := ⟨Tryz.underlying38, by kernel_rfl, rfl⟩
theorem oneString : OneCell Tryz.prog 45 9 (.string ⟨#[]⟩) 16 := ⟨Tryz.underlying45, by kernel_rfl, rfl⟩

/-- append of one element, which the walk lays in a block of its own, to a row of the call's own. -/
theorem append_one {P : Program} {t e : TypeId} {z : Value} {bytes : Nat} (H : OneCell P t e z bytes) {w : World} {ops : Array Oper} {rest : List Oper} {o : Oper} {a : Act} {Q : Exit → Act → World → Prop} (hgd : o.guard = none) (s x : Operand)
    (ho : o.op = .call { callee := .builtin .append, args := #[s, x], argTypes := #[t, t] })
    (base : Nat) (v : Value) (n : Nat) (xs : List Value) (hs : a.eval s = v) (hown : w.ownsRow base e 1 v n xs)
    (u : Value) (hu : u.oneCell' = true) (hx : a.eval x = .slice (some ⟨w.heap.size, 0, none⟩) 1 1)
    (hbound : (n + 1) * bytes ≤ 140737488355328) (hn : n + 1 ≤ maxLen) (hbase : base ≤ w.heap.size)
    (h : ∀ v' w', w'.ownsRow base e 1 v' (n + 1) (xs ++ [u]) → Below base w w' → wpList P ops Q rest (a.put o.dst v') w') : wpList P ops Q (o :: rest) a (w.alloc (.cells #[u] e)) := by
  obtain ⟨i0, hi, hz0, hz1, hz2⟩ := info_parts H.info
  refine wpList_append_own (w.alloc (.cells #[u] e)) hgd s x t ho base e i0 z 1 bytes H.under hi hz0 hz1 hz2 H.cells (by decide) v n xs hs (hown.alloc _) ⟨w.heap.size, 0, none⟩ 1 1 [u] hx rfl (fun j c hj => ?_) (fun c hc => ?_) hn hbound (by simp; omega) ?_
  · match j, hj with
    | 0, hj => simp at hj; subst hj; simp [Addr.add]
  · have : c = u := by simpa using hc
    subst this; exact hu
  · intro v' w' h1 h2 _
    exact h v' w' h1 (((Below.refl _ _).alloc hbase _).grown h2 (by simp; omega) fun k hk => (hown.lt k hk).1)

/-- A value that owns a row is a slice; its cells. -/
theorem own_form {w : World} {base n : Nat} {e : TypeId} {v : Value} {xs : List Value} (h : w.ownsRow base e 1 v n xs) :
    (v = .slice none 0 0 ∧ n = 0 ∧ xs = []) ∨ ∃ g cap, v = .slice (some ⟨g, 0, none⟩) n cap ∧ base ≤ g ∧ g < w.heap.size ∧ xs.length = n ∧ ∀ k (hk : k < xs.length), w.cell? ⟨g, k, none⟩ = some xs[k] := by
  have hl : xs.length = n := by have := h.1; omega
  rcases h.2 with ⟨h', h0⟩ | ⟨g, cap, cur, h', hb, hg, _⟩
  · subst h0; exact .inl ⟨h', rfl, List.length_eq_zero_iff.1 hl⟩
  · refine .inr ⟨g, cap, h', hb, (Array.getElem?_eq_some_iff.1 hg).1, hl, fun k hk => ?_⟩
    subst h'
    have := h.cells (g := g) rfl k xs[k] (List.getElem?_eq_getElem hk)
    by_cases k0 : k = 0
    · subst k0; simpa [Addr.add] using this
    · simpa [Addr.add, k0] using this

theorem run_text_nil (w : World) : (convert 38 9 (.slice none 0 0)).run Tryz.prog w = .ok (.string ⟨#[]⟩) w := by kernel_rfl

/-- string(b) of a row of bytes of the call's own. -/
theorem run_text_own {w : World} {base n : Nat} {v : Value} {l : List UInt8} (h : w.ownsRow base 5 1 v n (bys l)) :
    (convert 38 9 v).run Tryz.prog w = .ok (.string ⟨l.toArray⟩) w := by
  rcases own_form h with ⟨rfl, rfl, hl⟩ | ⟨g, cap, rfl, _, _, hl, hc⟩
  · have : l = [] := by simpa [bys] using hl
    subst this
    exact run_text_nil w
  · rw [bys_len] at hl
    subst hl
    refine run_convert_bytes_back w 38 9 5 ⟨g, 0, none⟩ cap l Tryz.underlying38 Tryz.underlying5 Tryz.underlying9 (fun j hj => ?_)
    have := hc j (by rw [bys_len]; exact hj)
    rw [show (bys l)[j]'(by rw [bys_len]; exact hj) = .int .u8 (l[j].toNat : Int) from by simp [bys]] at this
    by_cases k0 : j = 0
    · subst k0; simpa [Addr.add] using this
    · simpa [Addr.add, k0] using this

theorem own_made (w : World) (e : TypeId) : (w.alloc (.cells #[] e)).ownsRow w.heap.size e 1 (.slice (some ⟨w.heap.size, 0, none⟩) 0 0) 0 [] :=
  World.ownsRow_made w #[] 0 (Nat.le_refl _) (by decide) rfl
theorem below_made (w : World) (o : Obj) : Below w.heap.size w (w.alloc o) := (Below.refl _ _).alloc (Nat.le_refl _) _

/-- The bytes l stand in the first cells of block N; none is frozen; below N nothing has turned since w. -/
def BRow (N : Nat) (w wr : World) (l : List UInt8) : Prop :=
  Below N w wr ∧ ∀ j (hj : j < l.length), wr.cell? ⟨N, j, none⟩ = some (.int .u8 (l[j].toNat : Int)) ∧ wr.frozen? ⟨N, j, none⟩ = false

theorem BRow.set {N : Nat} {w wr : World} {l : List UInt8} (h : BRow N w wr l) (k : Nat) (hk : k < l.length) (c : UInt8) : BRow N w (wr.setCell ⟨N, k, none⟩ (.int .u8 (c.toNat : Int))) (l.set k c) := by
  refine ⟨h.1.setCell (Nat.le_refl _) _, fun j hj => ?_⟩
  have hj' : j < l.length := by simpa using hj
  refine ⟨?_, by simpa using (h.2 j hj').2⟩
  by_cases e : k = j
  · subst e
    rw [World.cell?_setCell_same wr _ _ (h.2 k hk).1]; simp
  · rw [World.cell?_setCell_other wr _ _ _ (by intro hc; injection hc with _ hc; exact e hc), List.getElem_set_ne e]
    exact (h.2 j hj').1

/-- []byte(s): a new row that holds the bytes of s. -/
theorem run_bytes (w : World) (s : ByteArray) : ∃ cap W, (convert 9 38 (.string s)).run Tryz.prog w = .ok (.slice (some ⟨w.heap.size, 0, none⟩) s.size cap) W ∧ BRow w.heap.size w W s.data.toList := by
  refine ⟨_, _, run_bytes_of_string w 9 38 5 s Tryz.underlying9 Tryz.underlying38 Tryz.underlying5, ?_, fun j hj => ?_⟩
  · exact (Below.refl _ _).drew.alloc (Nat.le_refl _) _
  · have hj' : j < s.data.size := by simpa using hj
    have hd : w.heap.size = w.drew.heap.size := rfl
    rw [hd, World.cell?_alloc_mark, World.frozen?_alloc_mark, bytesRow_at s _ j hj']
    refine ⟨by simp, ?_⟩
    have : s.size = s.data.size := rfl
    simp [bytesRow]; omega

theorem BRow.text {N : Nat} {w wr : World} {l : List UInt8} (h : BRow N w wr l) (n cap : Nat) (hn : n = l.length) : (convert 38 9 (.slice (some ⟨N, 0, none⟩) n cap)).run Tryz.prog wr = .ok (.string ⟨l.toArray⟩) wr := by
  subst hn
  refine run_convert_bytes_back wr 38 9 5 ⟨N, 0, none⟩ cap l Tryz.underlying38 Tryz.underlying5 Tryz.underlying9 (fun j hj => ?_)
  have := (h.2 j hj).1
  by_cases k0 : j = 0
  · subst k0; simpa [Addr.add] using this
  · simpa [Addr.add, k0] using this
end Go.Proofs.YtaklilhnikmmfaaGreat

/-
  The walks of strings.IndexByte, text.tokenByte, text.Token, text.Plain and of the reference's In, Token, Plain.
-/
namespace Go.Proofs.YtaklilhnikmmfaaGreat
open Go.RowKit StrM

def idxV (s : ByteArray) (c : UInt8) : Int := Lib.indexByte s.data.toList c

theorem idx_yes {s : ByteArray} {c : UInt8} (h : inB s.data.toList c = true) : idxV s c = (fst c s.data.toList : Int) := by
  have h' : fst c s.data.toList < s.data.toList.length := by simpa [inB] using h
  rw [idxV, indexByte_fst, if_pos h']
theorem idx_no {s : ByteArray} {c : UInt8} (h : inB s.data.toList c = false) : idxV s c = -1 := by
  have h' : ¬ fst c s.data.toList < s.data.toList.length := by simpa [inB] using h
  rw [idxV, indexByte_fst, if_neg h']

def signsS : ByteArray := ⟨#[33, 35, 36, 37, 38, 39, 42, 43, 45, 46, 94, 95, 124, 126, 96]⟩

theorem fst_at {s : ByteArray} {c : UInt8} {k : Nat} (hk : k < s.size) (h : k ≤ fst c s.data.toList) :
    ((s[k] == c) = true → fst c s.data.toList = k) ∧ ((s[k] == c) = false → k + 1 ≤ fst c s.data.toList) := by
  have e := fst_drop c s.data.toList k h
  rw [drop_byte s k hk] at e
  constructor
  · intro hb; rw [fst_yes hb] at e; omega
  · intro hb; rw [fst_no hb] at e; omega

def bigS : ByteArray := ⟨#[65, 66, 67, 68, 69, 70, 71, 72, 73, 74, 75, 76, 77, 78, 79, 80, 81, 82, 83, 84, 85, 86, 87, 88, 89, 90, 97, 98, 99, 100, 101, 102, 103, 104, 105, 106, 107, 108, 109, 110, 111, 112, 113, 114, 115, 116, 117, 118, 119, 120, 121, 122, 48, 49, 50, 51, 52, 53, 54, 55, 56, 57, 33, 35, 36, 37, 38, 39, 42, 43, 45, 46, 94, 95, 124, 126, 96]⟩
theorem big_all : ∀ n, n < 256 → inB bigS.data.toList (UInt8.ofNat n) = tokB (UInt8.ofNat n) := by decide +kernel
theorem big_tok (c : UInt8) : inB bigS.data.toList c = tokB c := by
  have := big_all c.toNat c.toNat_lt
  simpa using this

def allTok (l : List UInt8) : Bool := l.all tokB
theorem allTok_cons (c : UInt8) (l : List UInt8) : allTok (c :: l) = (tokB c && allTok l) := rfl

theorem tokensL_nil (s : ByteArray) (h : s.size = 0) : tokensL s.data.toList = false := by
  rw [List.length_eq_zero_iff.1 (by rw [length_bytes]; omega : s.data.toList.length = 0)]; rfl
theorem empty_no (s : ByteArray) (h : 0 < s.size) : s.toList.isEmpty = false ∧ ¬ s.toList = [] := by
  rw [ByteArray.toList_eq]
  have : s.data.toList ≠ [] := by
    intro hc
    have := length_bytes s
    rw [hc] at this; simp at this; omega
  exact ⟨by simpa using this, this⟩
theorem empty_yes (s : ByteArray) (h : s.size = 0) : s.toList.isEmpty = true ∧ s.toList = [] := by
  rw [ByteArray.toList_eq, List.length_eq_zero_iff.1 (by rw [length_bytes]; omega : s.data.toList.length = 0)]; exact ⟨rfl, rfl⟩
theorem tokensL_pos {s : ByteArray} (h : 0 < s.size) : tokensL s.data.toList = allTok s.data.toList := by
  have := (empty_no s h).1
  rw [ByteArray.toList_eq] at this
  rw [tokensL, this, allTok]; simp

theorem tokensL_len (s : ByteArray) : tokensL s.data.toList = (allTok s.data.toList && decide (0 < s.size)) := by
  by_cases h : 0 < s.size
  · rw [tokensL_pos h]; simp [h]
  · rw [tokensL_nil s (by omega)]; simp [h]

end Go.Proofs.YtaklilhnikmmfaaGreat

/-
  The walks of text.Cut and of the reference's Cut.
-/
namespace Go.Proofs.YtaklilhnikmmfaaGreat
open Go.RowKit StrM

theorem ret_cut {a a' b b' : ByteArray} {x y : Bool} (h : a = a') (g : b = b') (k : x = y) : Ending.returned (.tuple #[.string a, .string b, .bool x]) = .returned (.tuple #[.string a', .string b', .bool y]) := by rw [h, g, k]

theorem cut_no_eq {c : UInt8} {s : ByteArray} (h : cutB c s = false) : s = cutA c s ∧ (⟨#[]⟩ : ByteArray) = cutZ c s := by
  have h' : ¬ fst c s.data.toList < s.data.toList.length := by simpa [cutB, inB] using h
  constructor
  · apply bytes_ext; show s.data.toList = s.data.toList.take (fst c s.data.toList); rw [List.take_of_length_le (by omega)]
  · apply bytes_ext; show [] = s.data.toList.drop (fst c s.data.toList + 1); rw [List.drop_of_length_le (by omega)]
theorem cut_yes_eq (c : UInt8) (s : ByteArray) : s.extract 0 (fst c s.data.toList) = cutA c s ∧ s.extract (fst c s.data.toList + 1) s.size = cutZ c s := by
  constructor
  · apply bytes_ext; rw [Lib.extract_data, cutA, data_mk]; simp
  · apply bytes_ext; rw [Lib.extract_data, cutZ, data_mk, List.take_of_length_le (by simp)]

def CutPost (c : UInt8) (s : ByteArray) (w : World) (e : Ending) (w' : World) : Prop :=
  e = .returned (.tuple #[.string (cutA c s), .string (cutZ c s), .bool (cutB c s)]) ∧ Below w.heap.size w w'

theorem below_drewN (w : World) (n : Nat) : Below w.heap.size w (w.drewN n) := ⟨rfl, rfl, rfl, Nat.le_refl _, fun _ _ => rfl⟩

end Go.Proofs.YtaklilhnikmmfaaGreat

/-
  The walks of text.Split, of the reference's Split and of Texts.
-/
namespace Go.Proofs.YtaklilhnikmmfaaGreat
open Go.RowKit StrM

def SplitRel (w : World) (c : UInt8) (s : ByteArray) (acc : List (List UInt8)) (t : ByteArray) (v : Value) (wr : World) : Prop :=
  wr.ownsRow w.heap.size 9 1 v acc.length (strs acc) ∧ Below w.heap.size w wr ∧ acc ++ splitL c t.data.toList = splitL c s.data.toList ∧ acc.length + t.size ≤ s.size

def SplitPost (c : UInt8) (s : ByteArray) (w : World) (e : Ending) (w' : World) : Prop :=
  ∃ v, e = .returned v ∧ w'.ownsRow w.heap.size 9 1 v (splitL c s.data.toList).length (strs (splitL c s.data.toList)) ∧ Below w.heap.size w w'

theorem own_snoc {w : World} {base : Nat} {v : Value} {acc : List (List UInt8)} {p : List UInt8} {u : Value} (hu : u = .string ⟨p.toArray⟩)
    (h : w.ownsRow base 9 1 v (acc.length + 1) (strs acc ++ [u])) : w.ownsRow base 9 1 v (acc ++ [p]).length (strs (acc ++ [p])) := by
  subst hu
  simpa [strs] using h

theorem SplitRel.step {w : World} {c : UInt8} {s : ByteArray} {acc : List (List UInt8)} {t : ByteArray} {v v' : Value} {wr w1 w2 : World} (h : SplitRel w c s acc t v wr) (hb : cutB c t = true)
    (hw : Below wr.heap.size wr w1) (h1 : w2.ownsRow w.heap.size 9 1 v' (acc.length + 1) (strs acc ++ [.string (cutA c t)])) (h2 : Below w.heap.size w1 w2) :
    SplitRel w c s (acc ++ [t.data.toList.take (fst c t.data.toList)]) (cutZ c t) v' w2 ∧ (cutZ c t).size < t.size := by
  have hf : fst c t.data.toList < t.data.toList.length := by simpa [cutB, inB] using hb
  have hz : (cutZ c t).size = t.size - (fst c t.data.toList + 1) := by rw [cutZ, size_mk, List.length_drop, length_bytes]
  have hl := length_bytes t
  refine ⟨⟨own_snoc rfl h1, (h.2.1.trans (hw.mono h.2.1.size)).trans h2, ?_, ?_⟩, ?_⟩
  · rw [← h.2.2.1, splitL_yes c _ hf, List.append_assoc]; rfl
  · have := h.2.2.2
    simp only [List.length_append, List.length_singleton]
    omega
  · omega

theorem SplitRel.last {w : World} {c : UInt8} {s : ByteArray} {acc : List (List UInt8)} {t : ByteArray} {v v' : Value} {wr w1 w2 : World} (h : SplitRel w c s acc t v wr) (hb : cutB c t = false)
    (hw : Below wr.heap.size wr w1) (h1 : w2.ownsRow w.heap.size 9 1 v' (acc.length + 1) (strs acc ++ [.string (cutA c t)])) (h2 : Below w.heap.size w1 w2) :
    SplitPost c s w (.returned v') w2 := by
  have hf : ¬ fst c t.data.toList < t.data.toList.length := by simpa [cutB, inB] using hb
  have e : acc ++ [t.data.toList] = splitL c s.data.toList := by rw [← h.2.2.1, splitL_no c _ hf]
  refine ⟨v', rfl, ?_, (h.2.1.trans (hw.mono h.2.1.size)).trans h2⟩
  rw [← e]
  refine own_snoc ?_ h1
  rw [← (cut_no_eq hb).1, Lib.mk_data]

theorem own_below {w w' : World} {base : Nat} {e : TypeId} {n : Nat} {v : Value} {xs : List Value} (h : w.ownsRow base e 1 v n xs) (hb : Below w.heap.size w w') : w'.ownsRow base e 1 v n xs :=
  h.kept (row := none) ⟨hb.os, hb.tape, hb.output, hb.size, fun k hk _ => hb.block k hk⟩ (by cases v.ownBlock <;> simp)

def RSplitRel (w : World) (c : UInt8) (s : ByteArray) (acc : List (List UInt8)) (f i : Nat) (v : Value) (wr : World) : Prop :=
  wr.ownsRow w.heap.size 9 1 v acc.length (strs acc) ∧ Below w.heap.size w wr ∧ acc ++ splitL c (s.data.toList.drop f) = splitL c s.data.toList ∧ acc.length ≤ f ∧ f ≤ i ∧ i ≤ s.size ∧ i - f ≤ fst c (s.data.toList.drop f)

theorem RSplitRel.start (w : World) (c : UInt8) (s : ByteArray) : RSplitRel w c s [] 0 0 (.slice (some ⟨w.heap.size, 0, none⟩) 0 0) (w.alloc (.cells #[] 9)) :=
  ⟨own_made w _, below_made w _, rfl, Nat.le_refl _, Nat.le_refl _, Nat.zero_le _, Nat.zero_le _⟩

theorem fst_from {s : ByteArray} {c : UInt8} {f i : Nat} (hf : f ≤ i) (hi : i < s.size) (h : i - f ≤ fst c (s.data.toList.drop f)) :
    ((s[i] == c) = true → fst c (s.data.toList.drop f) = i - f) ∧ ((s[i] == c) = false → i + 1 - f ≤ fst c (s.data.toList.drop f)) := by
  have e := fst_drop c (s.data.toList.drop f) (i - f) h
  rw [List.drop_drop, show f + (i - f) = i from by omega, drop_byte s i hi] at e
  constructor
  · intro hb; rw [fst_yes hb] at e; omega
  · intro hb; rw [fst_no hb] at e; omega

theorem RSplitRel.skip {w : World} {c : UInt8} {s : ByteArray} {acc : List (List UInt8)} {f i : Nat} {v : Value} {wr : World} (h : RSplitRel w c s acc f i v wr) (hi : i < s.size) (hb : (s[i] == c) = false) : RSplitRel w c s acc f (i + 1) v wr := by
  obtain ⟨h1, h2, h3, h4, h5, h6, h7⟩ := h
  exact ⟨h1, h2, h3, h4, by omega, by omega, (fst_from h5 hi h7).2 hb⟩

theorem RSplitRel.take {w : World} {c : UInt8} {s : ByteArray} {acc : List (List UInt8)} {f i : Nat} {v v' : Value} {wr w1 : World} (h : RSplitRel w c s acc f i v wr) (hi : i < s.size) (hb : (s[i] == c) = true)
    (k1 : w1.ownsRow w.heap.size 9 1 v' (acc.length + 1) (strs acc ++ [.string (s.extract f i)])) (k2 : Below w.heap.size wr w1) :
    RSplitRel w c s (acc ++ [(s.data.toList.drop f).take (i - f)]) (i + 1) (i + 1) v' w1 := by
  obtain ⟨h1, h2, h3, h4, h5, h6, h7⟩ := h
  have hf := (fst_from h5 hi h7).1 hb
  refine ⟨own_snoc (by rw [Lib.extract_eq]) k1, h2.trans k2, ?_, ?_, Nat.le_refl _, by omega, by omega⟩
  · rw [← h3, splitL_yes c (s.data.toList.drop f) (by rw [hf, List.length_drop, length_bytes]; omega), hf, List.drop_drop, List.append_assoc, show f + (i - f + 1) = i + 1 from by omega]; rfl
  · simp; omega

theorem RSplitRel.last {w : World} {c : UInt8} {s : ByteArray} {acc : List (List UInt8)} {f i : Nat} {v v' : Value} {wr w1 : World} (h : RSplitRel w c s acc f i v wr) (hi : ¬ i < s.size)
    (k1 : w1.ownsRow w.heap.size 9 1 v' (acc.length + 1) (strs acc ++ [.string (s.extract f s.size)])) (k2 : Below w.heap.size wr w1) : SplitPost c s w (.returned v') w1 := by
  obtain ⟨h1, h2, h3, h4, h5, h6, h7⟩ := h
  have e : acc ++ [s.data.toList.drop f] = splitL c s.data.toList := by
    rw [← h3, splitL_no c (s.data.toList.drop f)]
    rw [List.length_drop, length_bytes]; omega
  refine ⟨v', rfl, ?_, h2.trans k2⟩
  rw [← e]
  refine own_snoc ?_ k1
  rw [Lib.extract_eq, List.take_of_length_le (by simp)]

/-- A slice of one-cell elements, read as a list. -/
def SeesV (w : World) (v : Value) (xs : List Value) : Prop :=
  ∃ a cap, v = .slice a xs.length cap ∧ (xs = [] ∨ ∃ g off, a = some ⟨g, off, none⟩ ∧ g < w.heap.size ∧ ∀ k (hk : k < xs.length), w.cell? ⟨g, off + k, none⟩ = some xs[k])

theorem SeesV.of_own {w : World} {base n : Nat} {e : TypeId} {v : Value} {xs : List Value} (h : w.ownsRow base e 1 v n xs) : SeesV w v xs := by
  rcases own_form h with ⟨rfl, rfl, rfl⟩ | ⟨g, cap, rfl, _, hlt, rfl, hc⟩
  · exact ⟨none, 0, rfl, .inl rfl⟩
  · exact ⟨_, cap, rfl, .inr ⟨g, 0, rfl, hlt, fun k hk => by rw [Nat.zero_add]; exact hc k hk⟩⟩

theorem SeesV.later {w w' : World} {v : Value} {xs : List Value} (h : SeesV w v xs) (hb : Below w.heap.size w w') : SeesV w' v xs := by
  obtain ⟨a, cap, rfl, h0 | ⟨g, off, rfl, hg, hc⟩⟩ := h
  · exact ⟨a, cap, rfl, .inl h0⟩
  · exact ⟨_, cap, rfl, .inr ⟨g, off, rfl, Nat.lt_of_lt_of_le hg hb.size, fun k hk => (hb.cell (p := ⟨g, off + k, none⟩) hg).trans (hc k hk)⟩⟩

set_option maxHeartbeats 1000000 in
theorem texts_same (v1 v2 : Value) (ps : List (List UInt8)) (w : World) (h1 : SeesV w v1 (strs ps)) (h2 : SeesV w v2 (strs ps)) (hn : ps.length ≤ 1000000) :
    Calls Tryz.prog 14 #[v1, v2] w fun e w' => e = .returned (.bool true) ∧ Below w.heap.size w w' := by
  obtain ⟨a1, cap1, rfl, g1⟩ := h1
  obtain ⟨a2, cap2, rfl, g2⟩ := h2
  rw [strs_len]
  have G1 := Lib.hid g1
  have G2 := Lib.hid g2
  clear g1 g2
  obtain ⟨n, hnn⟩ : ∃ n, n = ps.length := ⟨_, rfl⟩
  rw [← hnn] at hn ⊢
  have HN := Lib.hid hnn
  clear hnn
  go_enter Tryz.func14, Tryz.ntmps14
  go_wp2_with fail
  go_loopw [5] (fun i wr => ∃ k m : Nat, k ≤ n ∧ i = .int .i64 k ∧ wr = w.drewN m) (fun i _ => n - (intOf i).toNat)
  case atStart => exact ⟨0, 0, Nat.zero_le _, rfl, rfl⟩
  case round =>
    obtain ⟨k, m, hk, rfl, rfl⟩ := hrel
    by_cases hlt : k < n
    · have hl : k < (strs ps).length := by rw [strs_len, ← HN.out]; exact hlt
      have hne : strs ps ≠ [] := by intro h; rw [h] at hl; simp at hl
      rcases G1.out with h | ⟨g, off, rfl, _, hc1⟩
      · exact absurd h hne
      rcases G2.out with h | ⟨g', off', rfl, _, hc2⟩
      · exact absurd h hne
      have hd1 := hc1 k hl
      have hd2 := hc2 k hl
      have he : (strs ps)[k] = .string ⟨(ps[k]'(by rw [strs_len] at hl; exact hl)).toArray⟩ := by simp [strs]
      rw [he] at hd1 hd2
      clear hc1 hc2 he hne
      generalize (⟨(ps[k]'(by rw [strs_len] at hl; exact hl)).toArray⟩ : ByteArray) = S at *
      clear hl
      have hlt' : (k : Int) < (n : Int) := by omega
      go_wp2_with fail
      go_quiet (fail)
      go_wp2_with fail
      go_roundw
      case rel => exact ⟨k + 1, _, by omega, by go_num, rfl⟩
      case measure => simp [intOf]; omega
    · go_wp2_with fail
      go_ret
      exact ⟨rfl, below_drewN _ _⟩
end Go.Proofs.YtaklilhnikmmfaaGreat
