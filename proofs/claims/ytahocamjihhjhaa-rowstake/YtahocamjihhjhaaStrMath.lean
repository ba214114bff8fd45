/-
  Plain facts about texts: small letters, blanks at the ends, the first byte of a kind, pieces between bytes of a kind (no program).
-/
import Derived.Lib.Strings
import Derived.Lib.Bytealg
namespace Go.Proofs.Ytahocamjihhjhaa.StrM

theorem drop_byte (s : ByteArray) (k : Nat) (h : k < s.size) : s.data.toList.drop k = s[k] :: s.data.toList.drop (k + 1) := by
  have h' : k < s.data.toList.length := by simpa using h
  rw [List.drop_eq_getElem_cons h']; rfl
theorem take_byte (s : ByteArray) (k : Nat) (h : k < s.size) : s.data.toList.take (k + 1) = s.data.toList.take k ++ [s[k]] := by
  rw [List.take_succ_eq_append_getElem (by simpa using h)]; rfl
theorem length_bytes (s : ByteArray) : s.data.toList.length = s.size := by simp
theorem size_mk (l : List UInt8) : (⟨l.toArray⟩ : ByteArray).size = l.length := by simp [ByteArray.size]
theorem data_mk (l : List UInt8) : (⟨l.toArray⟩ : ByteArray).data.toList = l := rfl
theorem mk_eq {s : ByteArray} {l : List UInt8} (h : s.data.toList = l) : s = ⟨l.toArray⟩ := by
  rw [← h]
theorem bytes_ext {s t : ByteArray} (h : s.data.toList = t.data.toList) : s = t := by
  rw [mk_eq h, Lib.mk_data]
theorem bytes_add (a b : List UInt8) : ((⟨a.toArray⟩ : ByteArray) ++ ⟨b.toArray⟩) = ⟨(a ++ b).toArray⟩ := by
  apply ByteArray.ext
  simp [ByteArray.data_append]
theorem data_add (a b : ByteArray) : (a ++ b).data.toList = a.data.toList ++ b.data.toList := by
  simp [ByteArray.data_append]
theorem toNat_eq {a b : UInt8} (h : (a.toNat : Int) = (b.toNat : Int)) : a = b := UInt8.toNat_inj.1 (by omega)

/-! Small letters. -/
def upB (c : UInt8) : Bool := decide (65 ≤ c.toNat) && decide (c.toNat ≤ 90)
def low (c : UInt8) : UInt8 := if upB c then UInt8.ofNat (c.toNat + 32) else c
def lowL (l : List UInt8) : List UInt8 := l.map low
def lowS (s : ByteArray) : ByteArray := ⟨(lowL s.data.toList).toArray⟩
theorem upB_true {c : UInt8} (h : upB c = true) : 65 ≤ c.toNat ∧ c.toNat ≤ 90 := by simpa [upB] using h
theorem upB_false {c : UInt8} (h : upB c = false) : c.toNat < 65 ∨ 90 < c.toNat := by
  by_cases g : 65 ≤ c.toNat ∧ c.toNat ≤ 90
  · simp [upB, g] at h
  · omega
theorem low_up {c : UInt8} (h : upB c = true) : ((low c).toNat : Int) = (c.toNat : Int) + 32 := by
  have := upB_true h
  simp only [low, h, if_true, UInt8.toNat_ofNat']
  omega
theorem low_no {c : UInt8} (h : upB c = false) : low c = c := by simp [low, h]
theorem low_low (c : UInt8) : low (low c) = low c := by
  cases h : upB c
  · rw [low_no h, low_no h]
  · have h1 := low_up h
    have h2 := upB_true h
    apply low_no
    have : ¬ ((low c).toNat ≤ 90) := by omega
    simp [upB, this]
theorem lowL_low (l : List UInt8) : lowL (lowL l) = lowL l := by simp [lowL, Function.comp_def, low_low]
theorem lowL_len (l : List UInt8) : (lowL l).length = l.length := by simp [lowL]
theorem lowS_size (s : ByteArray) : (lowS s).size = s.size := by rw [lowS, size_mk, lowL_len, length_bytes]
theorem lowS_low (s : ByteArray) : lowS (lowS s) = lowS s := by simp only [lowS, lowL_low]
theorem lowL_snoc (l : List UInt8) (c : UInt8) : lowL (l ++ [c]) = lowL l ++ [low c] := by simp [lowL]
theorem low_part (s : ByteArray) (k : Nat) (h : k < s.size) : (lowL (s.data.toList.take k) ++ s.data.toList.drop k).set k (low s[k]) = lowL (s.data.toList.take (k + 1)) ++ s.data.toList.drop (k + 1) := by
  have hl : (lowL (s.data.toList.take k)).length = k := by rw [lowL_len, List.length_take, length_bytes]; omega
  rw [List.set_append_right _ _ (by omega), hl, Nat.sub_self, drop_byte s k h, List.set_cons_zero, take_byte s k h, lowL_snoc]; simp
theorem low_same (s : ByteArray) (k : Nat) (h : k < s.size) (g : low s[k] = s[k]) : lowL (s.data.toList.take k) ++ s.data.toList.drop k = lowL (s.data.toList.take (k + 1)) ++ s.data.toList.drop (k + 1) := by
  rw [drop_byte s k h, take_byte s k h, lowL_snoc, g]; simp

/-! Blanks. -/
def blankB (c : UInt8) : Bool := c == 32 || c == 9
def trimA (l : List UInt8) : List UInt8 := l.dropWhile blankB
def trimZ (l : List UInt8) : List UInt8 := (l.reverse.dropWhile blankB).reverse
def trimL (l : List UInt8) : List UInt8 := trimZ (trimA l)
def trimS (s : ByteArray) : ByteArray := ⟨(trimL s.data.toList).toArray⟩
theorem blankB_eq (c : UInt8) : blankB c = (((c.toNat : Int) == 32) || ((c.toNat : Int) == 9)) := by
  unfold blankB
  congr 1
  · rw [Bool.eq_iff_iff, beq_iff_eq, beq_iff_eq]
    exact ⟨fun h => by subst h; rfl, fun h => toNat_eq h⟩
  · rw [Bool.eq_iff_iff, beq_iff_eq, beq_iff_eq]
    exact ⟨fun h => by subst h; rfl, fun h => toNat_eq h⟩
theorem trimA_yes {c : UInt8} {l : List UInt8} (h : blankB c = true) : trimA (c :: l) = trimA l := by simp [trimA, h]
theorem trimA_no {c : UInt8} {l : List UInt8} (h : blankB c = false) : trimA (c :: l) = c :: l := by simp [trimA, h]
theorem trimZ_yes {c : UInt8} {l : List UInt8} (h : blankB c = true) : trimZ (l ++ [c]) = trimZ l := by simp [trimZ, h]
theorem trimZ_no {c : UInt8} {l : List UInt8} (h : blankB c = false) : trimZ (l ++ [c]) = l ++ [c] := by simp [trimZ, h]
theorem trimA_nil : trimA [] = [] := rfl
theorem trimZ_nil : trimZ [] = [] := rfl
theorem snoc_cases (l : List UInt8) : l = [] ∨ ∃ r c, l = r ++ [c] := by
  rcases List.eq_nil_or_concat l with h | ⟨r, c, h⟩
  · exact .inl h
  · exact .inr ⟨r, c, by simpa using h⟩
theorem trimZ_len : ∀ (n : Nat) (l : List UInt8), l.length = n → (trimZ l).length ≤ n
  | 0, l, h => by rw [List.length_eq_zero_iff.1 h]; simp [trimZ_nil]
  | n + 1, l, h => by
    rcases snoc_cases l with rfl | ⟨r, c, rfl⟩
    · simp at h
    · cases hb : blankB c
      · rw [trimZ_no hb, h]; exact Nat.le_refl _
      · rw [trimZ_yes hb]
        have := trimZ_len n r (by simpa using h)
        omega
theorem trimA_len (l : List UInt8) : (trimA l).length ≤ l.length := by
  induction l with
  | nil => simp [trimA_nil]
  | cons c l ih =>
    cases hb : blankB c
    · rw [trimA_no hb]; exact Nat.le_refl _
    · rw [trimA_yes hb]; simp; omega
theorem trimL_len (l : List UInt8) : (trimL l).length ≤ l.length := by
  have := trimZ_len _ (trimA l) rfl
  have := trimA_len l
  unfold trimL; omega
theorem trimS_size (s : ByteArray) : (trimS s).size ≤ s.size := by
  rw [trimS, size_mk, ← length_bytes]; exact trimL_len _
/-- A text whose first byte is no blank keeps it when its end is trimmed. -/
theorem trimZ_head {c : UInt8} (h : blankB c = false) : ∀ (n : Nat) (l : List UInt8), l.length = n → ∃ r, trimZ (c :: l) = c :: r
  | 0, l, hl => by
    rw [List.length_eq_zero_iff.1 hl]
    exact ⟨[], trimZ_no (l := []) h⟩
  | n + 1, l, hl => by
    rcases snoc_cases l with rfl | ⟨r, d, rfl⟩
    · simp at hl
    · cases hb : blankB d
      · exact ⟨r ++ [d], trimZ_no (l := c :: r) hb⟩
      · have := trimZ_yes (l := c :: r) hb
        rw [List.cons_append] at this
        rw [this]
        exact trimZ_head h n r (by simpa using hl)
theorem trimZ_trimZ : ∀ (n : Nat) (l : List UInt8), l.length = n → trimZ (trimZ l) = trimZ l
  | 0, l, hl => by rw [List.length_eq_zero_iff.1 hl]; rfl
  | n + 1, l, hl => by
    rcases snoc_cases l with rfl | ⟨r, d, rfl⟩
    · simp at hl
    · cases hb : blankB d
      · rw [trimZ_no hb, trimZ_no hb]
      · rw [trimZ_yes hb]; exact trimZ_trimZ n r (by simpa using hl)
theorem trimL_trimL (l : List UInt8) : trimL (trimL l) = trimL l := by
  unfold trimL
  match h : trimA l with
  | [] => rfl
  | c :: r =>
    have hc : blankB c = false := by
      have := List.head?_dropWhile_not blankB l
      have e : l.dropWhile blankB = c :: r := h
      rw [e] at this
      simpa using this
    obtain ⟨q, hq⟩ := trimZ_head hc _ r rfl
    rw [hq, trimA_no hc, ← hq, trimZ_trimZ _ _ rfl]
theorem trimS_trimS (s : ByteArray) : trimS (trimS s) = trimS s := by simp only [trimS, trimL_trimL]

/-! The first byte of a kind. -/
def fst (c : UInt8) : List UInt8 → Nat
  | [] => 0
  | b :: l => if b == c then 0 else fst c l + 1
theorem fst_le (c : UInt8) (l : List UInt8) : fst c l ≤ l.length := by
  induction l with
  | nil => exact Nat.le_refl _
  | cons b l ih => unfold fst; split <;> simp <;> omega
theorem fst_yes {c b : UInt8} {l : List UInt8} (h : (b == c) = true) : fst c (b :: l) = 0 := by simp [fst, h]
theorem fst_no {c b : UInt8} {l : List UInt8} (h : (b == c) = false) : fst c (b :: l) = fst c l + 1 := by simp [fst, h]
theorem indexByte_fst (c : UInt8) (l : List UInt8) : Lib.indexByte l c = if fst c l < l.length then (fst c l : Int) else -1 := by
  induction l with
  | nil => rfl
  | cons b l ih =>
    unfold Lib.indexByte
    cases hb : (b == c)
    · rw [fst_no hb, ih]
      have := fst_le c l
      by_cases h : fst c l < l.length
      · rw [if_pos h]
        have e : (((fst c l : Nat) : Int) == -1) = false := by rw [beq_eq_false_iff_ne]; omega
        have e2 : fst c l + 1 < (b :: l).length := by simp; exact h
        rw [e, if_pos e2]; simp
      · rw [if_neg h]
        have e2 : ¬ (fst c l + 1 < (b :: l).length) := by simp; omega
        rw [if_neg e2]; simp
    · rw [fst_yes hb]; simp
theorem fst_drop (c : UInt8) (l : List UInt8) (k : Nat) (h : k ≤ fst c l) : fst c (l.drop k) = fst c l - k := by
  induction k generalizing l with
  | zero => simp
  | succ k ih =>
    match l, h with
    | b :: l, h =>
      cases hb : (b == c)
      · rw [fst_no hb] at h ⊢
        rw [List.drop_succ_cons, ih l (by omega)]; omega
      · rw [fst_yes hb] at h; omega
def inB (l : List UInt8) (c : UInt8) : Bool := decide (fst c l < l.length)
theorem inB_iff (l : List UInt8) (c : UInt8) : inB l c = l.contains c := by
  unfold inB
  induction l with
  | nil => rfl
  | cons b l ih =>
    cases hb : (b == c)
    · rw [fst_no hb]
      have e : (c == b) = false := by rw [beq_eq_false_iff_ne] at hb ⊢; exact fun h => hb h.symm
      rw [List.contains_cons, e, Bool.false_or, ← ih]
      simp
    · rw [fst_yes hb]
      have e : (c == b) = true := by rw [beq_iff_eq] at hb ⊢; exact hb.symm
      rw [List.contains_cons, e]; simp
theorem byte_beq (b c : UInt8) : (b == c) = ((b.toNat : Int) == (c.toNat : Int)) := by
  rw [Bool.eq_iff_iff, beq_iff_eq, beq_iff_eq]
  exact ⟨fun h => by subst h; rfl, fun h => toNat_eq h⟩

def cutA (c : UInt8) (s : ByteArray) : ByteArray := ⟨(s.data.toList.take (fst c s.data.toList)).toArray⟩
def cutZ (c : UInt8) (s : ByteArray) : ByteArray := ⟨(s.data.toList.drop (fst c s.data.toList + 1)).toArray⟩
def cutB (c : UInt8) (s : ByteArray) : Bool := inB s.data.toList c

/-! Pieces between bytes of a kind. -/
def splitL (c : UInt8) : List UInt8 → List (List UInt8)
  | [] => [[]]
  | b :: l => if b == c then [] :: splitL c l else match splitL c l with
    | [] => [[b]]
    | p :: r => (b :: p) :: r
theorem splitL_ne (c : UInt8) (l : List UInt8) : splitL c l ≠ [] := by
  induction l with
  | nil => simp [splitL]
  | cons b l ih =>
    unfold splitL
    split
    · simp
    · split <;> simp
theorem splitL_yes (c : UInt8) (l : List UInt8) (h : fst c l < l.length) : splitL c l = l.take (fst c l) :: splitL c (l.drop (fst c l + 1)) := by
  induction l with
  | nil => simp at h
  | cons b l ih =>
    cases hb : (b == c)
    · rw [fst_no hb] at h ⊢
      have := ih (by simpa using h)
      simp only [splitL, hb, Bool.false_eq_true, if_false]
      rw [this]; simp
    · rw [fst_yes hb]
      simp [splitL, hb]
theorem splitL_no (c : UInt8) (l : List UInt8) (h : ¬ fst c l < l.length) : splitL c l = [l] := by
  induction l with
  | nil => rfl
  | cons b l ih =>
    cases hb : (b == c)
    · rw [fst_no hb] at h
      have := ih (by simpa using h)
      simp only [splitL, hb, Bool.false_eq_true, if_false]
      rw [this]
    · rw [fst_yes hb] at h; simp at h
def joinL (c : UInt8) : List (List UInt8) → List UInt8
  | [] => []
  | p :: r => p ++ r.flatMap (fun q => c :: q)
theorem joinL_snoc (c : UInt8) (ps : List (List UInt8)) (h : ps ≠ []) (p : List UInt8) : joinL c (ps ++ [p]) = joinL c ps ++ [c] ++ p := by
  match ps, h with
  | q :: r, _ => simp [joinL]
theorem joinL_one (c : UInt8) (p : List UInt8) : joinL c ([] ++ [p]) = p := by simp [joinL]
theorem joinL_split (c : UInt8) : ∀ (n : Nat) (l : List UInt8), l.length ≤ n → joinL c (splitL c l) = l
  | 0, l, h => by
    have : l = [] := List.length_eq_zero_iff.1 (by omega)
    subst this; rfl
  | n + 1, l, h => by
    by_cases hf : fst c l < l.length
    · rw [splitL_yes c l hf]
      have ih := joinL_split c n (l.drop (fst c l + 1)) (by simp; omega)
      have hc : l[fst c l] = c := by
        clear ih h
        induction l with
        | nil => simp at hf
        | cons b l ih2 =>
          cases hb : (b == c)
          · simp only [fst_no hb, List.getElem_cons_succ]
            rw [fst_no hb] at hf
            exact ih2 (by simpa using hf)
          · simp only [fst_yes hb, List.getElem_cons_zero]
            simpa using hb
      have hj : ∀ q, q ≠ [] → (q : List (List UInt8)).flatMap (fun p => c :: p) = c :: joinL c q := by
        intro q hq
        match q, hq with
        | x :: y, _ => simp [joinL]
      show l.take (fst c l) ++ (splitL c (l.drop (fst c l + 1))).flatMap (fun p => c :: p) = l
      rw [hj _ (splitL_ne c _), ih]
      have e : l.drop (fst c l) = c :: l.drop (fst c l + 1) := by rw [List.drop_eq_getElem_cons hf, hc]
      rw [← e, List.take_append_drop]
    · rw [splitL_no c l hf]; simp [joinL]
theorem fst_take (c : UInt8) : ∀ (l : List UInt8) (k : Nat), k ≤ fst c l → fst c (l.take k) = (l.take k).length
  | [], k, _ => by simp [fst]
  | b :: l, 0, _ => rfl
  | b :: l, k + 1, h => by
    cases hb : (b == c)
    · rw [fst_no hb] at h
      rw [List.take_succ_cons, fst_no hb, fst_take c l k (by omega)]; simp
    · rw [fst_yes hb] at h; omega
theorem split_in (c : UInt8) : ∀ (n : Nat) (l : List UInt8), l.length ≤ n → ∀ p ∈ splitL c l, inB p c = false
  | 0, l, h => by
    have : l = [] := List.length_eq_zero_iff.1 (by omega)
    subst this; intro p hp; simp [splitL] at hp; subst hp; rfl
  | n + 1, l, h => by
    by_cases hf : fst c l < l.length
    · rw [splitL_yes c l hf]
      intro p hp
      rcases List.mem_cons.1 hp with rfl | hp
      · simp only [inB, fst_take c l _ (Nat.le_refl _)]; simp
      · exact split_in c n _ (by simp; omega) p hp
    · rw [splitL_no c l hf]
      intro p hp
      have : p = l := by simpa using hp
      subst this
      simp [inB, hf]
theorem splitL_len (c : UInt8) (l : List UInt8) : (splitL c l).length ≤ l.length + 1 := by
  induction l with
  | nil => simp [splitL]
  | cons b l ih =>
    unfold splitL
    split
    · simp; omega
    · split
      · simp
      · rename_i h; rw [h] at ih; simp at ih ⊢; omega
theorem split_mem_len (c : UInt8) : ∀ (n : Nat) (l : List UInt8), l.length ≤ n → ∀ p ∈ splitL c l, p.length ≤ n
  | 0, l, h => by
    have : l = [] := List.length_eq_zero_iff.1 (by omega)
    subst this; intro p hp; simp [splitL] at hp; subst hp; simp
  | n + 1, l, h => by
    by_cases hf : fst c l < l.length
    · rw [splitL_yes c l hf]
      intro p hp
      rcases List.mem_cons.1 hp with rfl | hp
      · simp; omega
      · have := split_mem_len c n _ (by simp; omega) p hp; omega
    · rw [splitL_no c l hf]
      intro p hp
      have : p = l := by simpa using hp
      subst this; exact h

/-! Bytes of tokens, bytes that can be shown. -/
def signs : List UInt8 := [33, 35, 36, 37, 38, 39, 42, 43, 45, 46, 94, 95, 124, 126, 96]
def letB (c : UInt8) : Bool := upB c || (decide (97 ≤ c.toNat) && decide (c.toNat ≤ 122)) || (decide (48 ≤ c.toNat) && decide (c.toNat ≤ 57))
def tokB (c : UInt8) : Bool := letB c || inB signs c
def tokensL (l : List UInt8) : Bool := l.all tokB && !l.isEmpty
def plainB (c : UInt8) : Bool := decide (32 ≤ c.toNat) && decide (c.toNat ≤ 126)
def plainL (l : List UInt8) : Bool := l.all plainB
theorem plainB_true {c : UInt8} (h : plainB c = true) : 32 ≤ c.toNat ∧ c.toNat ≤ 126 := by simpa [plainB] using h
theorem plainB_false {c : UInt8} (h : plainB c = false) : c.toNat < 32 ∨ 126 < c.toNat := by
  by_cases g : 32 ≤ c.toNat ∧ c.toNat ≤ 126
  · simp [plainB, g] at h
  · omega
end Go.Proofs.Ytahocamjihhjhaa.StrM
