/-
  Joined: BlockMath BlockLeaf BlockRow BlockLay BlockPieces BlockRef.
-/
import Derived.Test.YtaklilhnikmmfaaGreatJRow
import Derived.WalkLawsBesides
import Derived.Laws.CopyOwn
import Derived.Laws.OwnMore
import Derived.Maps.AppendAt
/-
  Layer 8's mathematics: bytes divided into blocks, and pieces written over a file.
-/
namespace BlockM

/-- A piece: its offset and its bytes. -/
structure P where
  p : Int
  b : List UInt8

/-- The bytes from an offset to the end of its block. -/
def room (n : Nat) : Nat := 16 - n % 16
theorem room_pos (n : Nat) : 0 < room n := by unfold room; omega
theorem room_le (n : Nat) : room n ≤ 16 := by unfold room; omega

def ok (x : P) : Bool := decide (0 ≤ x.p ∧ 0 < x.b.length ∧ x.b.length ≤ room x.p.toNat ∧ x.p + x.b.length ≤ 65536)

/-- The byte at a place, 0 behind the end. -/
def D (f : List UInt8) (i : Nat) : UInt8 := f[i]?.getD 0
theorem ext {a b : List UInt8} (hl : a.length = b.length) (h : ∀ i, D a i = D b i) : a = b := by
  apply List.ext_getElem hl
  intro i h1 h2
  have := h i
  simpa [D, List.getElem?_eq_getElem h1, List.getElem?_eq_getElem h2] using this
theorem D_out {f : List UInt8} {i : Nat} (h : f.length ≤ i) : D f i = 0 := by simp [D, List.getElem?_eq_none h]
theorem D_at {f : List UInt8} {i : Nat} (h : i < f.length) : D f i = f[i] := by simp [D, h]
theorem D_append (a b : List UInt8) (i : Nat) : D (a ++ b) i = if i < a.length then D a i else D b (i - a.length) := by
  unfold D
  rw [List.getElem?_append]
  split <;> rfl
theorem D_take (a : List UInt8) (n i : Nat) : D (a.take n) i = if i < n then D a i else 0 := by
  unfold D
  rw [List.getElem?_take]
  split <;> rfl
theorem D_drop (a : List UInt8) (n i : Nat) : D (a.drop n) i = D a (n + i) := by
  unfold D
  rw [List.getElem?_drop]
theorem D_zeros (n i : Nat) : D (List.replicate n 0) i = 0 := by
  unfold D
  rw [List.getElem?_replicate]
  split <;> rfl
theorem D_set (a : List UInt8) (n i : Nat) (c : UInt8) (h : n < a.length) : D (a.set n c) i = if i = n then c else D a i := by
  unfold D
  rw [List.getElem?_set]
  by_cases e : n = i
  · subst e; simp [h]
  · rw [if_neg e, if_neg (fun x => e x.symm)]

/-- Bytes with zero bytes behind them, up to a length. -/
def pad (n : Nat) (f : List UInt8) : List UInt8 := f ++ List.replicate (n - f.length) 0
theorem pad_len (n : Nat) (f : List UInt8) : (pad n f).length = max f.length n := by simp [pad]; omega
theorem pad_D (n : Nat) (f : List UInt8) (i : Nat) : D (pad n f) i = D f i := by
  rw [pad, D_append]
  split
  · rfl
  · rw [D_zeros, D_out (by omega)]
theorem pad_same {n : Nat} {f : List UInt8} (h : n ≤ f.length) : pad n f = f := by simp [pad, Nat.sub_eq_zero_of_le h]

/-- Bytes written over others. -/
def over (f : List UInt8) (n : Nat) (b : List UInt8) : List UInt8 := (pad n f).take n ++ b ++ f.drop (n + b.length)
theorem over_len (f : List UInt8) (n : Nat) (b : List UInt8) : (over f n b).length = max f.length (n + b.length) := by
  simp [over, pad_len]; omega
theorem over_D (f : List UInt8) (n : Nat) (b : List UInt8) (i : Nat) : D (over f n b) i = if i < n then D f i else if i < n + b.length then D b (i - n) else D f i := by
  have hl : ((pad n f).take n).length = n := by simp [pad_len]; omega
  rw [over, D_append, D_append, List.length_append, hl, D_take, pad_D, D_drop]
  by_cases h1 : i < n
  · rw [if_pos h1, if_pos h1, if_pos h1, if_pos (by omega)]
  · rw [if_neg h1, if_neg h1]
    split
    · rfl
    · congr 1; omega

theorem over_over (f : List UInt8) (n : Nat) (a c : List UInt8) : over (over f n a) (n + a.length) c = over f n (a ++ c) := by
  apply ext
  · simp only [over_len, List.length_append]; omega
  · intro i
    simp only [over_D, D_append, List.length_append]
    by_cases h1 : i < n
    · rw [if_pos (show i < n + a.length by omega), if_pos h1, if_pos h1]
    · by_cases h2 : i < n + a.length
      · rw [if_pos h2, if_neg h1, if_pos h2, if_neg h1, if_pos (by omega), if_pos (by omega)]
      · by_cases h3 : i < n + a.length + c.length
        · rw [if_neg h2, if_pos h3, if_neg h1, if_pos (by omega), if_neg (by omega)]; congr 1; omega
        · rw [if_neg h2, if_neg h3, if_neg h1, if_neg h2, if_neg h1, if_neg (by omega)]
theorem over_under (f : List UInt8) (n : Nat) (a c : List UInt8) : over (over f (n + a.length) c) n a = over f n (a ++ c) := by
  apply ext
  · simp only [over_len, List.length_append]; omega
  · intro i
    simp only [over_D, D_append, List.length_append]
    by_cases h1 : i < n
    · rw [if_pos h1, if_pos h1, if_pos (show i < n + a.length by omega)]
    · by_cases h2 : i < n + a.length
      · rw [if_neg h1, if_pos h2, if_neg h1, if_pos (by omega), if_pos (by omega)]
      · by_cases h3 : i < n + a.length + c.length
        · rw [if_neg h1, if_neg h2, if_neg h2, if_pos h3, if_neg h1, if_pos (by omega), if_neg (by omega)]; congr 1; omega
        · rw [if_neg h1, if_neg h2, if_neg h2, if_neg h3, if_neg h1, if_neg (by omega)]
theorem over_nil (f : List UInt8) (n : Nat) : over f n [] = pad n f := by
  apply ext
  · simp [over_len, pad_len]
  · intro i
    rw [over_D, pad_D]
    split
    · rfl
    · rw [if_neg (by simpa using by omega)]

/-! ### A file with pieces written over it -/
def lay1 (f : List UInt8) (x : P) : List UInt8 := if ok x then over f x.p.toNat x.b else f
def lay (f : List UInt8) (l : List P) : List UInt8 := l.foldl lay1 f
theorem lay_add (f : List UInt8) (a b : List P) : lay f (a ++ b) = lay (lay f a) b := by simp [lay]
theorem lay_next (f : List UInt8) (l : List P) {k : Nat} (hk : k < l.length) : lay f (l.take (k + 1)) = lay1 (lay f (l.take k)) l[k] := by
  rw [List.take_succ_eq_append_getElem hk, lay_add]; rfl
theorem lay1_len_le (f : List UInt8) (x : P) : f.length ≤ (lay1 f x).length := by
  unfold lay1
  split
  · rw [over_len]; omega
  · exact Nat.le_refl _
theorem lay_len_le (f : List UInt8) (l : List P) : f.length ≤ (lay f l).length := by
  induction l generalizing f with
  | nil => exact Nat.le_refl _
  | cons x r ih => exact Nat.le_trans (lay1_len_le f x) (ih (lay1 f x))
theorem lay_take_le (f : List UInt8) (l : List P) (k : Nat) : (lay f (l.take k)).length ≤ (lay f l).length := by
  have h := lay_len_le (lay f (l.take k)) (l.drop k)
  rwa [← lay_add, List.take_append_drop] at h
theorem lay_full {f : List UInt8} {l : List P} {k : Nat} (h : ¬ k < l.length) : lay f (l.take k) = lay f l := by rw [List.take_of_length_le (by omega)]

theorem ok_facts {x : P} (h : ok x = true) : ∃ n : Nat, x.p = n ∧ x.p.toNat = n ∧ 0 < x.b.length ∧ x.b.length ≤ 16 ∧ x.b.length ≤ room n ∧ n + x.b.length ≤ 65536 := by
  simp only [ok, decide_eq_true_eq] at h
  obtain ⟨h1, h2, h3, h4⟩ := h
  have := room_le x.p.toNat
  exact ⟨x.p.toNat, by omega, rfl, h2, by omega, h3, by omega⟩
theorem ok_of {n : Nat} {b : List UInt8} (h1 : 0 < b.length) (h2 : b.length ≤ room n) (h3 : n + b.length ≤ 65536) : ok ⟨n, b⟩ = true := by
  simp only [ok, decide_eq_true_eq, Int.toNat_natCast]
  omega
theorem lay1_ok {f : List UInt8} {x : P} {n : Nat} (h : ok x = true) (hn : x.p.toNat = n) : lay1 f x = over f n x.b := by rw [lay1, if_pos h, hn]
theorem lay1_no {f : List UInt8} {x : P} (h : ok x = false) : lay1 f x = f := by simp [lay1, h]
theorem lay_next_ok {f : List UInt8} {l : List P} {k n : Nat} (hk : k < l.length) (h : ok l[k] = true) (hn : l[k].p.toNat = n) : lay f (l.take (k + 1)) = over (lay f (l.take k)) n l[k].b := by
  rw [lay_next f l hk, lay1_ok h hn]
theorem lay_next_no {f : List UInt8} {l : List P} {k : Nat} (hk : k < l.length) (h : ok l[k] = false) : lay f (l.take (k + 1)) = lay f (l.take k) := by
  rw [lay_next f l hk, lay1_no h]
/-- All of a file with pieces of which none lies far away. -/
theorem lay_len_lim (f : List UInt8) (l : List P) : (lay f l).length ≤ max f.length 65536 := by
  induction l generalizing f with
  | nil => simp [lay]; omega
  | cons x r ih =>
    have h := ih (lay1 f x)
    have e : lay f (x :: r) = lay (lay1 f x) r := rfl
    rw [e]
    have h2 : (lay1 f x).length ≤ max f.length 65536 := by
      cases hx : ok x with
      | false => rw [lay1_no hx]; omega
      | true =>
        obtain ⟨n, _, hn, _, _, _, h6⟩ := ok_facts hx
        rw [lay1_ok hx hn, over_len]; omega
    omega

/-- The program's way: pieces are copied over what has its last length already. -/
def spl (L : List UInt8) (k : Nat) (cs : List UInt8) : List UInt8 := L.take k ++ (cs ++ L.drop (k + cs.length))
theorem spl_len {L : List UInt8} {k : Nat} {cs : List UInt8} (h : k + cs.length ≤ L.length) : (spl L k cs).length = L.length := by simp [spl]; omega
theorem spl_D {L : List UInt8} {k : Nat} {cs : List UInt8} (h : k + cs.length ≤ L.length) (i : Nat) : D (spl L k cs) i = if i < k then D L i else if i < k + cs.length then D cs (i - k) else D L i := by
  have hl : (L.take k).length = k := by simp; omega
  rw [spl, D_append, D_append, hl, D_take, D_drop]
  by_cases h1 : i < k
  · simp [h1]
  · rw [if_neg h1, if_neg h1]
    by_cases h2 : i < k + cs.length
    · rw [if_pos (by omega), if_pos h2]
    · rw [if_neg (by omega), if_neg h2]; congr 1; omega
theorem spl_pad {N : Nat} {f : List UInt8} {n : Nat} {b : List UInt8} (hf : f.length ≤ N) (h : n + b.length ≤ N) : spl (pad N f) n b = pad N (over f n b) := by
  have hp := pad_len N f
  apply ext
  · rw [spl_len (by omega), pad_len, pad_len, over_len]; omega
  · intro i
    rw [spl_D (by omega), pad_D, pad_D, over_D]
theorem spl_zeros {N : Nat} {f : List UInt8} (hf : f.length ≤ N) : spl (List.replicate N 0) 0 f = pad N f := by
  have e : List.replicate N (0 : UInt8) = pad N [] := by simp [pad]
  rw [e, spl_pad (by simp) (by omega)]
  congr 1
  simp [over, pad]

/-! ### The reference's way: byte by byte -/
def upTo (c : List UInt8) (n : Nat) (b : List UInt8) (k : Nat) : List UInt8 := if k = 0 then c else over c n (b.take k)
theorem upTo_zero (c : List UInt8) (n : Nat) (b : List UInt8) : upTo c n b 0 = c := rfl
theorem upTo_end {c : List UInt8} {n : Nat} {b : List UInt8} (h : 0 < b.length) : upTo c n b b.length = over c n b := by
  rw [upTo, if_neg (by omega), List.take_length]
theorem upTo_len (c : List UInt8) (n : Nat) (b : List UInt8) {k : Nat} (h : k ≤ b.length) : (upTo c n b k).length ≤ max c.length (n + k) := by
  unfold upTo
  split
  · omega
  · rw [over_len, List.length_take]; omega
theorem upTo_next (c : List UInt8) (n : Nat) {b : List UInt8} {k : Nat} (h : k < b.length) : (pad (n + k + 1) (upTo c n b k)).set (n + k) b[k] = upTo c n b (k + 1) := by
  have hl := pad_len (n + k + 1) (upTo c n b k)
  have e : upTo c n b (k + 1) = over c n (b.take (k + 1)) := by rw [upTo, if_neg (by omega)]
  rw [e]
  apply ext
  · rw [List.length_set, hl, over_len, List.length_take]
    unfold upTo
    split
    · omega
    · rw [over_len, List.length_take]; omega
  · intro i
    rw [D_set _ _ _ _ (by omega), pad_D, over_D, List.length_take, D_take]
    unfold upTo
    by_cases h1 : i = n + k
    · subst h1
      rw [if_pos rfl, if_neg (by omega), if_pos (by omega), if_pos (by omega), show n + k - n = k by omega, D_at h]
    · rw [if_neg h1]
      split
      · by_cases h2 : i < n
        · rw [if_pos h2]
        · rw [if_neg h2, if_neg (by omega)]
      · rw [over_D, List.length_take, D_take]
        by_cases h2 : i < n
        · rw [if_pos h2, if_pos h2]
        · rw [if_neg h2, if_neg h2]
          by_cases h3 : i < n + k
          · rw [if_pos (by omega), if_pos (by omega), if_pos (by omega), if_pos (by omega)]
          · rw [if_neg (by omega), if_neg (by omega)]
/-- Written, or appended, one byte more. -/
theorem over_set (f : List UInt8) (n : Nat) {b : List UInt8} {k : Nat} (h : k < b.length) (hl : n + k < (over f n (b.take k)).length) : (over f n (b.take k)).set (n + k) b[k] = over f n (b.take (k + 1)) := by
  rw [over_len, List.length_take] at hl
  apply ext
  · rw [List.length_set, over_len, over_len, List.length_take, List.length_take]; omega
  · intro i
    rw [D_set _ _ _ _ (by rw [over_len, List.length_take]; omega), over_D, over_D, List.length_take, List.length_take, D_take, D_take]
    by_cases h1 : i = n + k
    · subst h1
      rw [if_pos rfl, if_neg (by omega), if_pos (by omega), if_pos (by omega), show n + k - n = k by omega, D_at h]
    · rw [if_neg h1]
      by_cases h2 : i < n
      · rw [if_pos h2, if_pos h2]
      · rw [if_neg h2, if_neg h2]
        by_cases h3 : i < n + k
        · rw [if_pos (by omega), if_pos (by omega), if_pos (by omega), if_pos (by omega)]
        · rw [if_neg (by omega), if_neg (by omega)]
theorem over_snoc (f : List UInt8) (n : Nat) {b : List UInt8} {k : Nat} (h : k < b.length) (hl : ¬ n + k < (over f n (b.take k)).length) : over f n (b.take k) ++ [b[k]] = over f n (b.take (k + 1)) := by
  rw [over_len, List.length_take] at hl
  have hm : min k b.length = k := by omega
  apply ext
  · rw [List.length_append, over_len, over_len, List.length_take, List.length_take]; simp; omega
  · intro i
    rw [D_append, over_D, over_D, over_len, List.length_take, List.length_take, D_take, D_take]
    by_cases h1 : i < n + k
    · rw [if_pos (by omega)]
      by_cases h2 : i < n
      · rw [if_pos h2, if_pos h2]
      · rw [if_neg h2, if_neg h2, if_pos (by omega), if_pos (by omega), if_pos (by omega), if_pos (by omega)]
    · rw [if_neg (by omega)]
      by_cases h2 : i = n + k
      · subst h2
        rw [if_neg (by omega), if_pos (by omega), if_pos (by omega), show n + k - n = k by omega, D_at h, show n + k - max f.length (n + min k b.length) = 0 by omega]; rfl
      · rw [if_neg (by omega), if_neg (by omega), D_out (show f.length ≤ i by omega), D_out (by simp; omega)]

/-! ### Bytes divided at the ends of blocks -/
def pieces (n : Nat) (b : List UInt8) : List P :=
  if b.length = 0 then [] else ⟨n, b.take (room n)⟩ :: pieces (n + room n) (b.drop (room n))
termination_by b.length
decreasing_by
  have := room_pos n
  rw [List.length_drop]; omega

theorem pieces_nil (n : Nat) : pieces n [] = [] := by rw [pieces]; rfl
theorem pieces_some (n : Nat) {b : List UInt8} (h : 0 < b.length) : pieces n b = ⟨n, b.take (room n)⟩ :: pieces (n + room n) (b.drop (room n)) := by
  rw [pieces, if_neg (by omega)]
/-- As the program divides: with the lesser of what is left and of the room. -/
theorem pieces_min (n : Nat) {b : List UInt8} {m : Nat} (h : 0 < b.length) (hm : m = min b.length (room n)) : pieces n b = ⟨n, b.take m⟩ :: pieces (n + m) (b.drop m) := by
  rw [pieces_some n h]
  by_cases hr : room n ≤ b.length
  · rw [show m = room n by omega]
  · have e1 : b.take (room n) = b.take m := by rw [List.take_of_length_le (by omega), List.take_of_length_le (by omega)]
    have e2 : b.drop (room n) = [] := List.drop_eq_nil_of_le (by omega)
    have e3 : b.drop m = [] := List.drop_eq_nil_of_le (by omega)
    rw [e1, e2, e3, pieces_nil, pieces_nil]
theorem pieces_short (n : Nat) {b : List UInt8} (h : 0 < b.length) (hr : b.length ≤ room n) : pieces n b = [⟨n, b⟩] := by
  rw [pieces_some n h, List.take_of_length_le hr, List.drop_eq_nil_of_le hr, pieces_nil]

theorem pieces_len (n : Nat) (b : List UInt8) : (pieces n b).length ≤ b.length := by
  by_cases h : b.length = 0
  · rw [List.eq_nil_of_length_eq_zero h, pieces_nil]; simp
  · have := room_pos n
    have ih := pieces_len (n + room n) (b.drop (room n))
    rw [List.length_drop] at ih
    rw [pieces_some n (by omega), List.length_cons]; omega
termination_by b.length
decreasing_by
  have := room_pos n
  rw [List.length_drop]; omega

theorem pieces_ok (n : Nat) (b : List UInt8) (h : n + b.length ≤ 65536) : ∀ x ∈ pieces n b, ok x = true := by
  by_cases h0 : b.length = 0
  · rw [List.eq_nil_of_length_eq_zero h0, pieces_nil]; intro x hx; cases hx
  · have hr := room_pos n
    have hd : (b.drop (room n)).length = b.length - room n := by simp
    rw [pieces_some n (by omega)]
    intro x hx
    rcases List.mem_cons.1 hx with rfl | hx
    · exact ok_of (by rw [List.length_take]; omega) (by rw [List.length_take]; omega) (by rw [List.length_take]; omega)
    · by_cases hl : room n < b.length
      · exact pieces_ok (n + room n) (b.drop (room n)) (by omega) x hx
      · rw [List.eq_nil_of_length_eq_zero (show (b.drop (room n)).length = 0 by omega), pieces_nil] at hx; cases hx
termination_by b.length
decreasing_by rw [List.length_drop]; omega

/-- No two pieces lie in one block: the i-th one is in the i-th block from the first one's on. -/
theorem pieces_block (n : Nat) (b : List UInt8) (i : Nat) (hi : i < (pieces n b).length) : ∃ q : Nat, (pieces n b)[i].p = q ∧ q / 16 = n / 16 + i ∧ q ≤ n + b.length := by
  by_cases h0 : b.length = 0
  · rw [List.eq_nil_of_length_eq_zero h0, pieces_nil] at hi; simp at hi
  · have hr := room_pos n
    have hd : (b.drop (room n)).length = b.length - room n := by simp
    have e := pieces_some n (b := b) (by omega)
    cases i with
    | zero => exact ⟨n, by simp [e], by omega, by omega⟩
    | succ i =>
      have hi' : i < (pieces (n + room n) (b.drop (room n))).length := by rw [e, List.length_cons] at hi; omega
      have hl : room n < b.length := by
        by_cases hl : room n < b.length
        · exact hl
        · rw [List.eq_nil_of_length_eq_zero (show (b.drop (room n)).length = 0 by omega), pieces_nil] at hi'; simp at hi'
      obtain ⟨q, h1, h2, h3⟩ := pieces_block (n + room n) (b.drop (room n)) i hi'
      refine ⟨q, ?_, ?_, by omega⟩
      · rw [← h1]; simp [e]
      · rw [h2]; unfold room; omega
termination_by b.length
decreasing_by rw [List.length_drop]; omega

/-- One byte more: a piece of its own, or the last piece's last byte. -/
theorem pieces_snoc (n : Nat) (b : List UInt8) (c : UInt8) :
    ((b.length = 0 ∨ (n + b.length) % 16 = 0) ∧ pieces n (b ++ [c]) = pieces n b ++ [⟨((n + b.length : Nat) : Int), [c]⟩]) ∨
    (¬ (b.length = 0 ∨ (n + b.length) % 16 = 0) ∧ ∃ i x, pieces n b = i ++ [x] ∧ pieces n (b ++ [c]) = i ++ [⟨x.p, x.b ++ [c]⟩]) := by
  by_cases h0 : b.length = 0
  · left
    refine ⟨.inl h0, ?_⟩
    rw [List.eq_nil_of_length_eq_zero h0, pieces_nil, List.nil_append, pieces_short n (by simp) (by have := room_pos n; simp; omega)]; rfl
  · have hr := room_pos n
    have hr2 : room n = 16 - n % 16 := rfl
    by_cases hs : b.length < room n
    · right
      refine ⟨by omega, [], ⟨n, b⟩, by rw [pieces_short n (by omega) (by omega)]; rfl, ?_⟩
      rw [pieces_short n (by simp) (by simp; omega)]; rfl
    · have hd : (b.drop (room n)).length = b.length - room n := by simp
      have e1 := pieces_some n (b := b) (by omega)
      have e2 := pieces_some n (b := b ++ [c]) (by simp)
      rw [List.take_append_of_le_length (by omega), List.drop_append_of_le_length (by omega)] at e2
      have hn : n + room n + (b.drop (room n)).length = n + b.length := by omega
      rcases pieces_snoc (n + room n) (b.drop (room n)) c with ⟨h1, h2⟩ | ⟨h1, i, x, h2, h3⟩
      · left
        refine ⟨by rw [hn] at h1; rcases h1 with h1 | h1 <;> omega, ?_⟩
        rw [e2, h2, e1, hn]; rfl
      · right
        refine ⟨by rw [hn] at h1; omega, ⟨n, b.take (room n)⟩ :: i, x, by rw [e1, h2]; rfl, by rw [e2, h3]; rfl⟩
termination_by b.length
decreasing_by rw [List.length_drop]; omega

/-- Bl3: all pieces in order, and from the last to the first, make what the bytes make at once. -/
theorem lay_pieces (f : List UInt8) (n : Nat) (b : List UInt8) (h0 : 0 < b.length) (h : n + b.length ≤ 65536) : lay f (pieces n b) = over f n b ∧ lay f (pieces n b).reverse = over f n b := by
  have hr := room_pos n
  have hd : (b.drop (room n)).length = b.length - room n := by simp
  have hx := pieces_ok n b h ⟨n, b.take (room n)⟩ (by rw [pieces_some n h0]; simp)
  by_cases hl : room n < b.length
  · have ht : (b.take (room n)).length = room n := by simp; omega
    have e1 := over_over f n (b.take (room n)) (b.drop (room n))
    have e2 := over_under f n (b.take (room n)) (b.drop (room n))
    rw [ht, List.take_append_drop] at e1 e2
    constructor
    · obtain ⟨i1, -⟩ := lay_pieces (over f n (b.take (room n))) (n + room n) (b.drop (room n)) (by omega) (by omega)
      rw [pieces_some n h0, show lay f (⟨n, b.take (room n)⟩ :: pieces (n + room n) (b.drop (room n))) = lay (lay1 f ⟨n, b.take (room n)⟩) (pieces (n + room n) (b.drop (room n))) from rfl, lay1_ok (n := n) hx rfl]
      exact i1.trans e1
    · obtain ⟨-, i2⟩ := lay_pieces f (n + room n) (b.drop (room n)) (by omega) (by omega)
      rw [pieces_some n h0, List.reverse_cons, lay_add, i2]
      show lay1 _ _ = _
      rw [lay1_ok hx rfl]
      exact e2
  · have e := pieces_short n h0 (show b.length ≤ room n by omega)
    have hx' : ok ⟨n, b⟩ = true := pieces_ok n b h _ (by rw [e]; simp)
    rw [e]
    have : lay1 f ⟨n, b⟩ = over f n b := lay1_ok hx' rfl
    exact ⟨this, this⟩
termination_by b.length
decreasing_by all_goals (rw [List.length_drop]; omega)

/-- What all pieces of some bytes make. -/
def written (f : List UInt8) (n : Nat) (b : List UInt8) : List UInt8 := if b.length = 0 then f else over f n b
theorem lay_written (f : List UInt8) (n : Nat) (b : List UInt8) (h : n + b.length ≤ 65536) : lay f (pieces n b) = written f n b ∧ lay f (pieces n b).reverse = written f n b := by
  unfold written
  split
  · next h0 => rw [List.eq_nil_of_length_eq_zero h0, pieces_nil]; exact ⟨rfl, rfl⟩
  · exact lay_pieces f n b (by omega) h

theorem rev_next {l : List P} {k : Nat} (hk : k < l.length) : (l.drop (k + 1)).reverse ++ [l[k]] = (l.drop k).reverse := by
  rw [List.drop_eq_getElem_cons hk, List.reverse_cons]
end BlockM

/-
  The leaves of block: room, fits, Right, bytes.Clone, and the reference's Right; slices of pieces in memory.
-/
namespace Go.Proofs.YtaklilhnikmmfaaGreat
open Go.RowKit StrM BlockM

/-- A slice of pieces, read as a list. -/
def SeesP (w : World) (v : Value) (l : List P) : Prop :=
  ∃ a cap, v = .slice a l.length cap ∧ (l = [] ∨ ∃ g off, a = some ⟨g, off, none⟩ ∧ g < w.heap.size ∧ ∀ k (hk : k < l.length), w.cell? ⟨g, off + k * 2, none⟩ = some (.int .i64 l[k].p) ∧ ∃ B, w.cell? ⟨g, off + k * 2 + 1, none⟩ = some B ∧ SeesV w B (bys l[k].b))

theorem SeesP.cells {w : World} {a : Option Addr} {n cap : Nat} {l : List P} (h : SeesP w (.slice a n cap) l) {k : Nat} (hk : k < l.length) :
    ∃ g off A bc, a = some ⟨g, off, none⟩ ∧ g < w.heap.size ∧ w.cell? ⟨g, off + k * 2, none⟩ = some (.int .i64 l[k].p) ∧ w.cell? ⟨g, off + k * 2 + 1, none⟩ = some (.slice A l[k].b.length bc) ∧ SeesV w (.slice A l[k].b.length bc) (bys l[k].b) := by
  obtain ⟨a', cap', e, h⟩ := h
  injection e with e1 e2 e3
  subst e1
  rcases h with rfl | ⟨g, off, rfl, hg, hc⟩
  · simp at hk
  · obtain ⟨h1, B, h2, hB⟩ := hc k hk
    obtain ⟨A, bc, rfl, -⟩ := id hB
    rw [bys_len] at h2 hB
    exact ⟨g, off, A, bc, rfl, hg, h1, h2, hB⟩

theorem SeesP.later {w w' : World} {v : Value} {l : List P} (h : SeesP w v l) (hb : Below w.heap.size w w') : SeesP w' v l := by
  obtain ⟨a, cap, rfl, h0 | ⟨g, off, rfl, hg, hc⟩⟩ := h
  · exact ⟨a, cap, rfl, .inl h0⟩
  · refine ⟨_, cap, rfl, .inr ⟨g, off, rfl, Nat.lt_of_lt_of_le hg hb.size, fun k hk => ?_⟩⟩
    obtain ⟨h1, B, h2, h3⟩ := hc k hk
    exact ⟨(hb.cell (p := ⟨g, _, none⟩) hg).trans h1, B, (hb.cell (p := ⟨g, _, none⟩) hg).trans h2, h3.later hb⟩

theorem broom_any (n : Nat) (w : World) (hn : n ≤ 9223372036854775807) : Calls Tryz.prog 83 #[.int .i64 (n : Int)] w fun e w' => e = .returned (.int .i64 (room n : Int)) ∧ w = w' := by
  have h : (16 : Int) - (n : Int) % 16 = (room n : Int) := by unfold room; omega
  go_enter Tryz.func83, Tryz.ntmps83
  go_wp2_with fail
  go_ret
  exact ⟨rfl, rfl⟩

theorem bfits_any (n m : Nat) (w : World) (hm : m ≤ 1000000000000000) : Calls Tryz.prog 82 #[.int .i64 (n : Int), .int .i64 (m : Int)] w fun e w' => e = .returned (.bool (decide (n + m ≤ 65536))) ∧ w = w' := by
  have h : decide ((n : Int) ≤ 65536 - (m : Int)) = decide (n + m ≤ 65536) := by
    by_cases g : n + m ≤ 65536
    · rw [decide_eq_true g, decide_eq_true (by omega)]
    · rw [decide_eq_false g, decide_eq_false (by omega)]
  go_enter Tryz.func82, Tryz.ntmps82
  go_wp2_with fail
  go_ret
  exact ⟨rfl, rfl⟩

/-- The ways in which a piece is told. -/
def okN (p : Int) (n : Nat) : Bool := decide (0 ≤ p ∧ 0 < n ∧ n ≤ room p.toNat ∧ p + n ≤ 65536)
theorem ok_eq (x : P) : ok x = okN x.p x.b.length := rfl
theorem okN_neg {p : Int} {n : Nat} (h : ¬ 0 ≤ p) : false = okN p n := by symm; rw [okN, decide_eq_false_iff_not]; omega
theorem okN_none {p : Int} : false = okN p 0 := by symm; rw [okN, decide_eq_false_iff_not]; omega
theorem okN_wide {m n : Nat} (h : ¬ n ≤ room m) : false = okN m n := by symm; rw [okN, decide_eq_false_iff_not, Int.toNat_natCast]; omega
theorem okN_fits {m n : Nat} (h0 : 0 < n) (h : n ≤ room m) : decide (m + n ≤ 65536) = okN m n := by
  by_cases g : m + n ≤ 65536
  · rw [decide_eq_true g, okN, Int.toNat_natCast, decide_eq_true (by omega)]
  · rw [decide_eq_false g, okN, Int.toNat_natCast, decide_eq_false (by omega)]

set_option maxHeartbeats 1000000 in
theorem bright_any (p : Int) (A : Option Addr) (n c : Nat) (w : World) (hp : p ≤ 9223372036854775807) : Calls Tryz.prog 100 #[.agg #[.int .i64 p, .slice A n c]] w fun e w' => e = .returned (.bool (okN p n)) ∧ Below w.heap.size w w' := by
  by_cases h1 : 0 ≤ p
  · obtain ⟨m, rfl⟩ : ∃ m : Nat, p = m := ⟨p.toNat, by omega⟩
    by_cases h2 : n = 0
    · subst h2
      have HF := Lib.hid (okN_none (p := m))
      go_enter Tryz.func100, Tryz.ntmps100
      go_wp2_with fail
      go_ret
      exact ⟨ret_bool HF.out, below_made w _⟩
    · have h2' : (0 : Int) < (n : Int) := by omega
      have hm : m ≤ 9223372036854775807 := by omega
      have RO := Lib.hid (fun w => broom_any m w hm)
      by_cases h3 : n ≤ room m
      · have hr := room_le m
        have FI := Lib.hid (fun w => bfits_any m n w (by omega))
        have HF := Lib.hid (okN_fits (m := m) (n := n) (by omega) h3)
        have h3' : (n : Int) ≤ (room m : Int) := by omega
        generalize room m = r at *
        generalize decide (m + n ≤ 65536) = t at *
        clear h2 h3 h1 hp
        go_enter Tryz.func100, Tryz.ntmps100
        go_wp2_with fail
        refine (RO.out _).mono ?_
        rintro e w' ⟨rfl, rfl⟩
        go_wp2_with fail
        refine (FI.out _).mono ?_
        rintro e w' ⟨rfl, rfl⟩
        go_wp2_with fail
        go_ret
        exact ⟨ret_bool HF.out, below_made w _⟩
      · have HF := Lib.hid (okN_wide (m := m) (n := n) h3)
        have h3' : decide (n ≤ room m) = false := by simp; omega
        generalize room m = r at *
        clear h2 h3 h1 hp
        go_enter Tryz.func100, Tryz.ntmps100
        go_wp2_with fail
        refine (RO.out _).mono ?_
        rintro e w' ⟨rfl, rfl⟩
        go_wp2_with fail
        go_ret
        exact ⟨ret_bool HF.out, below_made w _⟩
  · have HF := Lib.hid (okN_neg (n := n) h1)
    have h1' : decide (0 ≤ p) = false := by simpa using h1
    clear h1
    go_enter Tryz.func100, Tryz.ntmps100
    go_wp2_with fail
    go_ret
    exact ⟨ret_bool HF.out, below_made w _⟩

set_option maxHeartbeats 1000000 in
set_option maxRecDepth 100000 in
theorem rbright_any (p : Int) (A : Option Addr) (n c : Nat) (w : World) (hp : p ≤ 9223372036854775807) : Calls Tryz.prog 105 #[.agg #[.int .i64 p, .slice A n c]] w fun e w' => e = .returned (.bool (okN p n)) ∧ Below w.heap.size w w' := by
  by_cases h1 : 0 ≤ p
  · obtain ⟨m, rfl⟩ : ∃ m : Nat, p = m := ⟨p.toNat, by omega⟩
    by_cases h4 : m < 65536
    · have h4' : (m : Int) < 65536 := by omega
      by_cases h2 : n = 0
      · subst h2
        have HF := Lib.hid (okN_none (p := m))
        go_enter Tryz.func105, Tryz.ntmps105
        go_wp2_with fail
        go_ret
        exact ⟨ret_bool HF.out, below_made w _⟩
      · have h2' : (0 : Int) < (n : Int) := by omega
        have hr : (16 : Int) - (m : Int) % 16 = (room m : Int) := by unfold room; omega
        have HF := Lib.hid (show decide (n ≤ room m) = okN m n by
          unfold okN room
          by_cases g : n + m % 16 ≤ 16
          · rw [decide_eq_true (by omega), decide_eq_true (by rw [Int.toNat_natCast]; omega)]
          · rw [decide_eq_false (by omega), decide_eq_false (by rw [Int.toNat_natCast]; omega)])
        have h4b : decide ((m : Int) < 65536) = true := by simp; omega
        generalize room m = r at *
        generalize (m : Int) = p at *
        clear h4 h2 hp h4'
        go_enter Tryz.func105, Tryz.ntmps105
        go_wp2_with fail
        go_ret
        exact ⟨ret_bool HF.out, below_made w _⟩
    · have HF := Lib.hid (show false = okN m n by symm; rw [okN, decide_eq_false_iff_not]; omega)
      have h4' : decide ((m : Int) < 65536) = false := by simp; omega
      clear h4
      go_enter Tryz.func105, Tryz.ntmps105
      go_wp2_with fail
      go_ret
      exact ⟨ret_bool HF.out, below_made w _⟩
  · have HF := Lib.hid (okN_neg (n := n) h1)
    have h1' : decide (0 ≤ p) = false := by simpa using h1
    clear h1
    go_enter Tryz.func105, Tryz.ntmps105
    go_wp2_with fail
    go_ret
    exact ⟨ret_bool HF.out, below_made w _⟩
end Go.Proofs.YtaklilhnikmmfaaGreat

/-
  Rows of pieces that a call makes, and bytes.Clone.
-/
namespace Go.Proofs.YtaklilhnikmmfaaGreat
open Go.RowKit StrM BlockM

/-- Pieces with the slices that hold their bytes. -/
abbrev PB := P × Value
def pc2 (x : PB) : List Value := [.int .i64 x.1.p, x.2]
def pcs (l : List PB) : List Value := l.flatMap pc2
theorem pcs_len (l : List PB) : (pcs l).length = l.length * 2 := by
  induction l with
  | nil => rfl
  | cons x r ih =>
    have e : pcs (x :: r) = .int .i64 x.1.p :: x.2 :: pcs r := rfl
    rw [e, List.length_cons, List.length_cons, List.length_cons, ih]; omega
theorem pcs_add (a b : List PB) : pcs (a ++ b) = pcs a ++ pcs b := by simp [pcs]
theorem pcs_at (l : List PB) : ∀ {k : Nat} (hk : k < l.length), (pcs l)[k * 2]? = some (.int .i64 l[k].1.p) ∧ (pcs l)[k * 2 + 1]? = some l[k].2 := by
  induction l with
  | nil => intro k hk; simp at hk
  | cons x r ih =>
    intro k hk
    have e : pcs (x :: r) = .int .i64 x.1.p :: x.2 :: pcs r := rfl
    rw [e]
    cases k with
    | zero => simp
    | succ k =>
      have := ih (k := k) (by simpa using hk)
      rw [show (k + 1) * 2 = k * 2 + 1 + 1 by omega]
      simpa using this

theorem pieceInfo : (Tryz.prog.info? 113).map (fun i => (i.zero, i.size, i.bytes)) = some (some (.agg #[.int .i64 0, .slice none 0 0]), 2, 32) := by kernel_rfl

/-- append of one piece, which the walk lays in a block of its own, to a row of pieces of the call's own. -/
theorem append_piece {w : World} {ops : Array Oper} {rest : List Oper} {o : Oper} {a : Act} {Q : Exit → Act → World → Prop} (hgd : o.guard = none) (s x : Operand)
    (ho : o.op = .call { callee := .builtin .append, args := #[s, x], argTypes := #[68, 68] })
    (base : Nat) (v : Value) (n : Nat) (l : List PB) (hs : a.eval s = v) (hown : w.ownsRow base 113 2 v n (pcs l))
    (u : PB) (hu : u.2.oneCell' = true) (hx : a.eval x = .slice (some ⟨w.heap.size, 0, none⟩) 1 1)
    (hn : n + 1 ≤ 1000000) (hbase : base ≤ w.heap.size)
    (h : ∀ v' w', w'.ownsRow base 113 2 v' (n + 1) (pcs (l ++ [u])) → Below base w w' → Stays w w' v → wpList Tryz.prog ops Q rest (a.put o.dst v') w') : wpList Tryz.prog ops Q (o :: rest) a (w.alloc (.cells #[.int .i64 u.1.p, u.2] 113)) := by
  obtain ⟨i0, hi, hz0, hz1, hz2⟩ := info_parts pieceInfo
  refine wpList_append_own (w.alloc (.cells #[.int .i64 u.1.p, u.2] 113)) hgd s x 68 ho base 113 i0 _ 2 32 Tryz.underlying68 hi hz0 hz1 hz2 rfl (by decide) v n (pcs l) hs (hown.alloc _) ⟨w.heap.size, 0, none⟩ 1 1 (pc2 u) hx rfl (fun j c hj => ?_) (fun c hc => ?_) (by unfold maxLen; omega) (by omega) (by simp; omega) ?_
  · match j, hj with
    | 0, hj => simp [pc2] at hj; subst hj; simp [Addr.add]
    | 1, hj => simp [pc2] at hj; subst hj; simp [Addr.add]
    | j + 2, hj => simp [pc2] at hj
  · simp [pc2] at hc
    rcases hc with rfl | rfl
    · rfl
    · exact hu
  · intro v' w' h1 h2 _
    refine h v' w' ?_ (((Below.refl _ _).alloc hbase _).grown h2 (by simp; omega) fun k hk => (hown.lt k hk).1) fun q o hq hne => ?_
    · rw [pcs_add]
      simpa [pcs] using h1
    · have hlt : q < w.heap.size := (Array.getElem?_eq_some_iff.1 hq).1
      rw [h2.block q (by simp; omega) hne, Below.heap_alloc w _ q hlt]
      exact hq


/-- A row of pieces that is gathered, with the rows of their bytes. -/
def PRel (w : World) (v : Value) (l : List PB) (wr : World) : Prop :=
  wr.ownsRow w.heap.size 113 2 v l.length (pcs l) ∧ (∀ x ∈ l, wr.ownsRow w.heap.size 5 1 x.2 x.1.b.length (bys x.1.b)) ∧ Below w.heap.size w wr

theorem own_form2 {w : World} {base n : Nat} {e : TypeId} {v : Value} {xs : List Value} (h : w.ownsRow base e 2 v n xs) :
    (v = .slice none 0 0 ∧ n = 0 ∧ xs = []) ∨ ∃ g cap, v = .slice (some ⟨g, 0, none⟩) n cap ∧ base ≤ g ∧ g < w.heap.size ∧ n ≤ cap ∧ xs.length = n * 2 ∧ ∀ k, k < n * 2 → w.cell? ⟨g, k, none⟩ = xs[k]? := by
  rcases h.2 with ⟨h', h0⟩ | ⟨g, cap, cur, h', hb, hg, hc, _⟩
  · subst h0; exact .inl ⟨h', rfl, List.length_eq_zero_iff.1 (by simpa using h.1)⟩
  · subst h'
    exact .inr ⟨g, cap, rfl, hb, (Array.getElem?_eq_some_iff.1 hg).1, hc, h.1, fun k hk => h.cellAt k hk⟩

theorem sees_pcs {w : World} {base n : Nat} {v : Value} {l : List PB} (h : w.ownsRow base 113 2 v n (pcs l)) (hn : n = l.length) (hB : ∀ x ∈ l, SeesV w x.2 (bys x.1.b)) : SeesP w v (l.map Prod.fst) := by
  subst hn
  rcases own_form2 h with ⟨rfl, h0, h1⟩ | ⟨g, cap, rfl, _, hlt, _, _, hc⟩
  · have : l = [] := List.eq_nil_of_length_eq_zero h0
    subst this
    exact ⟨none, 0, rfl, .inl rfl⟩
  · refine ⟨some ⟨g, 0, none⟩, cap, by simp, ?_⟩
    right
    refine ⟨g, 0, rfl, hlt, fun k hk => ?_⟩
    have hk : k < l.length := by simpa using hk
    have hp := pcs_at l hk
    rw [List.getElem_map]
    refine ⟨?_, l[k].2, ?_, hB _ (List.getElem_mem hk)⟩
    · rw [Nat.zero_add, hc _ (by omega)]; exact hp.1
    · rw [Nat.zero_add, hc _ (by omega)]; exact hp.2

theorem PRel.sees {w wr : World} {v : Value} {l : List PB} (h : PRel w v l wr) : SeesP wr v (l.map Prod.fst) :=
  sees_pcs h.1 rfl fun x hx => SeesV.of_own (h.2.1 x hx)

theorem PRel.start (w : World) : PRel w (.slice none 0 0) [] w := ⟨World.ownsRow_nil _ _ _ _, (fun _ h => nomatch h), Below.refl _ _⟩

/-- One piece more, whose bytes were made since. -/
theorem PRel.add {w wr w1 w2 : World} {v v' : Value} {l : List PB} {u : PB} (h : PRel w v l wr) (hb1 : Below wr.heap.size wr w1) (hB : w1.ownsRow wr.heap.size 5 1 u.2 u.1.b.length (bys u.1.b))
    (ho : w2.ownsRow w.heap.size 113 2 v' (l.length + 1) (pcs (l ++ [u]))) (hb2 : Below w.heap.size w1 w2) (hst : Stays w1 w2 v) : PRel w v' (l ++ [u]) w2 := by
  have h1 := own_belowN h.1 hb1
  refine ⟨by rw [List.length_append]; exact ho, fun x hx => ?_, (h.2.2.trans (hb1.mono h.2.2.size)).trans hb2⟩
  have hx1 : w1.ownsRow w.heap.size 5 1 x.2 x.1.b.length (bys x.1.b) := by
    rcases List.mem_append.1 hx with hx | hx
    · exact own_belowN (h.2.1 x hx) hb1
    · have : x = u := by simpa using hx
      subst this
      exact own_baseN hB h.2.2.size
  exact own_keep hx1 hst (own_diff (by decide) h1 hx1)

theorem clone_any (A : Option Addr) (n c : Nat) (l : List UInt8) (w : World) (hs : SeesV w (.slice A n c) (bys l)) (hl : l.length ≤ 1000000) : Calls Tryz.prog 40 #[.slice A n c] w (EndPost l w) := by
  obtain ⟨A1, c1, e, hv⟩ := id hs
  injection e with e1 e2 e3
  subst e1 e3
  rw [bys_len] at e2
  subst e2
  cases A with
  | none =>
    have : l = [] := by
      rcases hv with h0 | ⟨g, off, h0, _⟩
      · simpa [bys] using h0
      · cases h0
    subst this
    clear hs hv
    have HP := Lib.hid (show EndPost [] w (.returned (.slice none 0 0)) w from ⟨_, rfl, World.ownsRow_nil _ _ _ _, Below.refl _ _⟩)
    have E := fun W => Go.Lib.run_eql_slice_nil (P := Tryz.prog) W 38 5 none 0 c 0 0 Tryz.underlying38
    go_enter Tryz.func40, Tryz.ntmps40
    go_wp2_with fail
    go_ret
    exact HP.out
  | some ad =>
    have HS := Lib.hid (hs.later (below_made w (.cells #[] 5)))
    have HO := Lib.hid (own_made w 5)
    have HL := Lib.hid hl
    clear hs hv hl
    have E := fun W => Go.Lib.run_eql_slice_nil (P := Tryz.prog) W 38 5 (some ad) l.length c 0 0 Tryz.underlying38
    go_enter Tryz.func40, Tryz.ntmps40
    go_wp2_with (at_builtin; refine append_all oneByte rfl _ _ rfl w.heap.size _ 0 [] rfl HO.out _ (bys l) rfl HS.out (bys_ones _) ?a1 ?a2 ?a3 ?_)
    case a1 => have := HL.out; rw [bys_len]; omega
    case a2 => have := HL.out; rw [bys_len]; unfold maxLen; omega
    case a3 => simp
    intro v' w' ho hb
    have HP := Lib.hid (show EndPost l w (.returned v') w' from ⟨_, rfl, by simpa [bys_len] using ho, (below_made w _).trans hb⟩)
    clear ho hb
    go_wp2_with fail
    go_ret
    exact HP.out
end Go.Proofs.YtaklilhnikmmfaaGreat

/-
  The walks of block.long and block.Lay.
-/
namespace Go.Proofs.YtaklilhnikmmfaaGreat
open Go.RowKit StrM BlockM

theorem ret_int {a b : Int} (h : a = b) : Ending.returned (.int .i64 a) = .returned (.int .i64 b) := by rw [h]

/-- The block of a piece that a loop holds. -/
def PBox (w : World) (q : Nat) (p : Int) (B : Value) : Prop := w.cell? ⟨q, 0, none⟩ = some (.int .i64 p) ∧ w.cell? ⟨q, 1, none⟩ = some B ∧ q < w.heap.size
theorem PBox.made (w : World) (p : Int) (B : Value) : PBox (w.alloc (.cells #[.int .i64 p, B] 113)) w.heap.size p B := by
  refine ⟨?_, ?_, by simp⟩ <;> simp
theorem PBox.later {w w' : World} {q : Nat} {p : Int} {B : Value} (h : PBox w q p B) (hb : Below w.heap.size w w') : PBox w' q p B :=
  ⟨(hb.cell (p := ⟨q, 0, none⟩) h.2.2).trans h.1, (hb.cell (p := ⟨q, 1, none⟩) h.2.2).trans h.2.1, Nat.lt_of_lt_of_le h.2.2 hb.size⟩

set_option maxHeartbeats 2000000 in
set_option maxRecDepth 100000 in
theorem blong_any (A : Option Addr) (lf cf : Nat) (f : List UInt8) (v : Value) (l : List P) (w : World) (hf : f.length = lf) (hs : SeesP w v l) (hp : ∀ x ∈ l, x.p ≤ 9223372036854775807) (hL : l.length ≤ 1000000) :
    Calls Tryz.prog 99 #[.slice A lf cf, v] w fun e w' => e = .returned (.int .i64 ((lay f l).length : Int)) ∧ Below w.heap.size w w' := by
  obtain ⟨len, hn⟩ : ∃ len, len = l.length := ⟨_, rfl⟩
  obtain ⟨a, cap, rfl, -⟩ := id hs
  have HS := Lib.hid hs
  rw [← hn] at HS hL ⊢
  have HN := Lib.hid hn
  have HF := Lib.hid hf
  have HPP := Lib.hid hp
  clear hs hn hf hp
  go_enter Tryz.func99, Tryz.ntmps99
  go_wp2_with fail
  go_loopw [5, 12] (fun x i wr => ∃ (k n : Nat), k ≤ len ∧ i = .int .i64 (k : Int) ∧ x = .int .i64 (n : Int) ∧ n = (lay f (l.take k)).length ∧ Below w.heap.size w wr) (fun _ i _ => len - (intOf i).toNat)
  case atStart => exact ⟨0, lf, Nat.zero_le _, rfl, rfl, HF.out.symm, Below.refl _ _⟩
  case round =>
    obtain ⟨k, n, hk, rfl, rfl, hnn, hB⟩ := hrel
    have HNN := Lib.hid hnn
    have HB := Lib.hid hB
    clear hnn hB
    by_cases hlt : k < len
    · have hkl : k < l.length := by rw [← HN.out]; exact hlt
      obtain ⟨g, off, A1, bc, rfl, hg, hc1, hc2, -⟩ := (HS.out.later HB.out).cells hkl
      have hpk := HPP.out _ (List.getElem_mem hkl)
      have hok1 := lay_next_ok (f := f) (n := l[k].p.toNat) hkl
      have hok2 := lay_next_no (f := f) hkl
      have hok3 := ok_facts (x := l[k])
      have hoe := ok_eq l[k]
      generalize l[k] = u at *
      obtain ⟨p, b⟩ := u
      simp only at hc1 hc2 hpk hok1 hok3 hoe
      obtain ⟨bl, hbl⟩ : ∃ bl, bl = b.length := ⟨_, rfl⟩
      rw [← hbl] at hc2 hoe
      have RI := Lib.hid (fun w => bright_any p A1 bl bc w hpk)
      rw [← hoe] at RI
      have BX := Lib.hid (PBox.made wr p (.slice A1 bl bc))
      have B1 := Lib.hid (HB.out.alloc HB.out.size (.cells #[.int .i64 p, .slice A1 bl bc] 113))
      cases ho : ok ⟨p, b⟩ with
      | false =>
        rw [ho] at RI
        have HX := Lib.hid (show n = (lay f (l.take (k + 1))).length by rw [hok2 ho]; exact HNN.out)
        clear hok1 hok2 hok3 hoe hbl ho hpk
        go_wp2_with fail
        refine (RI.out _).mono ?_
        rintro e w2 ⟨rfl, hb⟩
        have B2 := Lib.hid (B1.out.trans (hb.mono B1.out.size))
        clear hb
        go_wp2_with fail
        go_roundw
        case rel => exact ⟨k + 1, n, by omega, by go_num, rfl, HX.out, B2.out⟩
        case measure => simp [intOf]; omega
      | true =>
        rw [ho] at RI
        obtain ⟨q, hq1, hq2, _, _, _, hq6⟩ := hok3 ho
        have hq1 : p = q := hq1
        have hq2 : p.toNat = q := hq2
        have hq6 : q + b.length ≤ 65536 := hq6
        rw [← hbl] at hq6
        have HX := Lib.hid (show max n (q + bl) = (lay f (l.take (k + 1))).length by rw [hok1 ho trivial, over_len, ← HNN.out, hq2, hbl])
        clear hok1 hok2 hok3 hoe hbl ho hpk hq2
        subst hq1
        have hmax : ∀ W, (Builtin.max_ #[3, 3] 3 #[.int .i64 (n : Int), .int .i64 ((q : Int) + (bl : Int))]).run Tryz.prog W = .ok (.int .i64 ((max n (q + bl) : Nat) : Int)) W := by
          intro W
          rw [run_max_int2]
          congr 2
          split <;> omega
        generalize max n (q + bl) = n2 at *
        go_wp2_with fail
        refine (RI.out _).mono ?_
        rintro e w2 ⟨rfl, hb⟩
        have B2 := Lib.hid (B1.out.trans (hb.mono B1.out.size))
        obtain ⟨x0, x1, -⟩ := BX.out.later hb
        clear hb
        go_wp2_with fail
        go_roundw
        case rel => exact ⟨k + 1, n2, by omega, by go_num, rfl, HX.out, B2.out⟩
        case measure => simp [intOf]; omega
    · have HX := Lib.hid (show (n : Int) = ((lay f l).length : Int) by rw [HNN.out, lay_full (by rw [← HN.out]; exact hlt)])
      go_wp2_with fail
      go_ret
      exact ⟨ret_int HX.out, HB.out⟩

/-- What Lay returns. -/
def LayPost (r : List UInt8) (w : World) (e : Ending) (w' : World) : Prop := ∃ v, e = .returned v ∧ SeesV w' v (bys r) ∧ Below w.heap.size w w'

/-- A row of bytes that is known whole. -/
def Whole (w : World) (g : Nat) (r : List UInt8) : Prop := w.heap[g]? = some (.cells (bys r).toArray 5 (0, 0))
theorem Whole.sees {w : World} {g : Nat} {r : List UInt8} (h : Whole w g r) (n c : Nat) (hn : n = r.length) : SeesV w (.slice (some ⟨g, 0, none⟩) n c) (bys r) := by
  refine ⟨some ⟨g, 0, none⟩, c, by rw [bys_len, hn], .inr ⟨g, 0, rfl, (Array.getElem?_eq_some_iff.1 h).1, fun k hk => ?_⟩⟩
  rw [Nat.zero_add, cell_of_row w g k _ _ (0, 0) h, List.getElem?_toArray, List.getElem?_eq_getElem hk]
theorem Whole.later {w w' : World} {g : Nat} {r : List UInt8} (h : Whole w g r) (hb : Below w.heap.size w w') : Whole w' g r := by
  unfold Whole at h ⊢
  rw [hb.block g (Array.getElem?_eq_some_iff.1 h).1]; exact h
theorem Whole.lt {w : World} {g : Nat} {r : List UInt8} (h : Whole w g r) : g < w.heap.size := (Array.getElem?_eq_some_iff.1 h).1

theorem bys_splice (L : List UInt8) (n : Nat) (b : List UInt8) : splice (bys L) n (bys b) = bys (spl L n b) := by
  simp [splice, spl, bys]

set_option maxRecDepth 100000 in
theorem made_whole (w : World) (N : Nat) (hN : N ≤ 1000000) :
    ∃ w', (Instr.makeSlice 38 (.int .i64 (N : Int)) (.int .i64 (N : Int))).run Tryz.prog w = .ok (.slice (some ⟨w.heap.size, 0, none⟩) N N) w' ∧ Whole w' w.heap.size (List.replicate N 0) ∧ Below w.heap.size w w' := by
  obtain ⟨i0, hi, hz0, hz1, hz2⟩ := info_parts oneByte.info
  obtain ⟨w', h1, h2, h3⟩ := run_make_full (P := Tryz.prog) w w.heap.size 38 5 i0 (.int .u8 0) 1 Tryz.underlying38 hi hz0 hz1 .i64 .i64 N (by rw [hz2]; omega) (by unfold maxLen; omega) (Nat.le_refl _)
  refine ⟨w', h1, ?_, (Below.refl _ _).grown h3 (Nat.le_refl _) (fun k hk => by cases hk)⟩
  rcases h2.2 with ⟨h', _⟩ | ⟨g, cap, cur, h', _, hg, _, _, hcs, htake⟩
  · injection h' with h'1; cases h'1
  · injection h' with h'1 h'2 h'3
    injection h'1 with h'1
    injection h'1 with h'1 _ _
    subst h'1 h'3
    rw [Nat.mul_one] at hcs htake
    rw [List.take_of_length_le (by simp [hcs])] at htake
    have : cur = (bys (List.replicate N 0)).toArray := by
      apply Array.ext'
      rw [htake, show (Value.int IntKind.u8 0).cells = #[.int .u8 0] from rfl, toList_madeCells_one]
      simp [bys]
    rw [Whole, ← this]
    exact hg

/-- The bytes that a copy takes. -/
theorem SeesV.src {w : World} {A : Option Addr} {n c : Nat} {l : List UInt8} (h : SeesV w (.slice A n c) (bys l)) (h0 : 0 < l.length) : ∃ ad, A = some ad ∧ ∀ j v, (bys l)[j]? = some v → w.cell? (ad.add j) = some v := by
  obtain ⟨A', c', e, h⟩ := h
  injection e with e1 _ _
  subst e1
  rcases h with h | ⟨g, off, rfl, _, hc⟩
  · have := congrArg List.length h
    rw [bys_len, List.length_nil] at this; omega
  · refine ⟨_, rfl, fun j v hj => ?_⟩
    have hjl : j < (bys l).length := (List.getElem?_eq_some_iff.1 hj).1
    have := hc j hjl
    rw [List.getElem?_eq_getElem hjl] at hj
    rw [Option.some.inj hj] at this
    by_cases j0 : j = 0
    · subst j0; simpa [Addr.add] using this
    · simpa [Addr.add, j0] using this

theorem sizeByte : (Tryz.prog.info? 5).map (·.size) = some 1 := by kernel_rfl

/-- s[i:] of a row, ahead of its end: where it lies. -/
theorem cut_at {g N n : Nat} (h : n < N) : ∀ W, (Instr.sliceAt 38 (.slice (some ⟨g, 0, none⟩) N N) (some (.int .i64 (n : Int))) none none).run Tryz.prog W = .ok (.slice (some ⟨g, n, none⟩) (N - n) (N - n)) W := by
  intro W
  rw [run_sliceAt_slice W _ _ _ _ _ elem_bytes, run_slice_l W _ (some ⟨g, 0, none⟩) N N elem_bytes .i64 _ (by omega) (by omega), size_byte]
  simp only [Result.andThen, Int.toNat_natCast]
  congr 1
  rw [sliced, if_neg (by omega)]
  by_cases h0 : n = 0
  · subst h0; simp [Addr.add]
  · simp [Addr.add, h0]

set_option maxHeartbeats 2000000 in
set_option maxRecDepth 100000 in
theorem lay_any (A : Option Addr) (lf cf : Nat) (f : List UInt8) (v : Value) (l : List P) (w : World) (hf : f.length = lf) (hlf : lf ≤ 100000) (hfs : SeesV w (.slice A lf cf) (bys f)) (hs : SeesP w v l) (hp : ∀ x ∈ l, x.p ≤ 9223372036854775807) (hL : l.length ≤ 1000000) :
    Calls Tryz.prog 76 #[.slice A lf cf, v] w (LayPost (lay f l) w) := by
  have LO := Lib.hid (blong_any A lf cf f v l w hf hs hp hL)
  obtain ⟨len, hn⟩ : ∃ len, len = l.length := ⟨_, rfl⟩
  obtain ⟨N, hN⟩ : ∃ N, N = (lay f l).length := ⟨_, rfl⟩
  obtain ⟨a, cap, rfl, -⟩ := id hs
  have HS := Lib.hid hs
  have hNm : N ≤ 100000 := by rw [hN]; have := lay_len_lim f l; omega
  have hfN : lf ≤ N := by rw [hN, ← hf]; exact lay_len_le f l
  rw [← hn] at HS hL LO ⊢
  rw [← hN] at LO
  have HN := Lib.hid hn
  have HNN := Lib.hid hN
  have HF := Lib.hid hf
  have HFS := Lib.hid hfs
  have HPP := Lib.hid hp
  clear hs hn hf hp hfs hN
  go_enter Tryz.func76, Tryz.ntmps76
  go_wp2_with fail
  refine (LO.out).mono ?_
  rintro e w1 ⟨rfl, hb⟩
  have B1 := Lib.hid hb
  obtain ⟨w2, hmk, hw2, hb2⟩ := made_whole w1 N (by omega)
  have W2 := Lib.hid (show w2.heap[w1.heap.size]? = some (.cells (bys (List.replicate N 0)).toArray 5 (0, 0)) from hw2)
  have B2 := Lib.hid (B1.out.trans (hb2.mono B1.out.size))
  have F2 := Lib.hid (HFS.out.later B2.out)
  have hgw := B1.out.size
  obtain ⟨g, hg⟩ : ∃ g, g = w1.heap.size := ⟨_, rfl⟩
  rw [← hg] at hmk W2 hgw
  clear hb hb2 hw2 hg
  go_wp2_with (with_reducible refine wpList_copy_splice (o := ⟨some 14, _, _, _, _, _⟩) rfl (.tmp 12) (.tmp 13) 38 38 rfl 5 Tryz.underlying38 sizeByte (some ⟨g, 0, none⟩) A N N lf cf rfl rfl g 0 (bys (List.replicate N 0)) 5 W2.out (bys f) ?h1 ?h2 ?h3 (bys_ones f) w.heap.size w B2.out hgw ?_)
  case h1 => rw [bys_len, HF.out]; exact (Nat.min_eq_left hfN).symm
  case h2 =>
    intro h0
    rw [bys_len] at h0
    exact F2.out.src h0
  case h3 => rw [bys_len, bys_len, List.length_replicate, HF.out]; omega
  intro w3 hw3 hb3
  have W3 := Lib.hid (show Whole w3 g (pad N (lay f (l.take 0))) by
    rw [show lay f (l.take 0) = f from rfl, ← spl_zeros (by rw [HF.out]; exact hfN), Whole, ← bys_splice]; exact hw3.out)
  have B3 := Lib.hid hb3
  clear hw3 hb3 W2 B2 F2
  go_wp2_with fail
  go_loopw [17] (fun i wr => ∃ k : Nat, k ≤ len ∧ i = .int .i64 (k : Int) ∧ Whole wr g (pad N (lay f (l.take k))) ∧ Below w.heap.size w wr) (fun i _ => len - (intOf i).toNat)
  case atStart => exact ⟨0, Nat.zero_le _, rfl, W3.out, B3.out⟩
  case round =>
    obtain ⟨k, hk, rfl, hW, hB⟩ := hrel
    have HW := Lib.hid hW
    have HB := Lib.hid hB
    clear hW hB W3 B3 hmk
    by_cases hlt : k < len
    · have hkl : k < l.length := by rw [← HN.out]; exact hlt
      obtain ⟨g1, off, A1, bc, rfl, hg1, hc1, hc2, hsv⟩ := (HS.out.later HB.out).cells hkl
      have hpk := HPP.out _ (List.getElem_mem hkl)
      have hok1 := fun n => lay_next_ok (f := f) (n := n) hkl
      have hok2 := lay_next_no (f := f) hkl
      have hok3 := ok_facts (x := l[k])
      have hoe := ok_eq l[k]
      have HLE := Lib.hid (lay_take_le f l k)
      have HLE2 := Lib.hid (lay_take_le f l (k + 1))
      generalize l[k] = u at *
      obtain ⟨p, b⟩ := u
      simp only at hc1 hc2 hpk hok1 hok3 hoe hsv
      obtain ⟨bl, hbl⟩ : ∃ bl, bl = b.length := ⟨_, rfl⟩
      rw [← hbl] at hc2 hoe hsv
      have RI := Lib.hid (fun w => bright_any p A1 bl bc w hpk)
      rw [← hoe] at RI
      have BX := Lib.hid (PBox.made wr p (.slice A1 bl bc))
      have B1' := Lib.hid (below_made wr (.cells #[.int .i64 p, .slice A1 bl bc] 113))
      cases ho : ok ⟨p, b⟩ with
      | false =>
        rw [ho] at RI
        have HX := Lib.hid (show lay f (l.take (k + 1)) = lay f (l.take k) from hok2 ho)
        clear hok1 hok2 hok3 hoe hbl ho hpk hsv
        go_wp2_with fail
        refine (RI.out _).mono ?_
        rintro e w4 ⟨rfl, hb⟩
        have B4 := Lib.hid (B1'.out.trans (hb.mono B1'.out.size))
        clear hb
        go_wp2_with fail
        go_roundw
        case rel => exact ⟨k + 1, by omega, by go_num, by rw [HX.out]; exact HW.out.later B4.out, HB.out.trans (B4.out.mono HB.out.size)⟩
        case measure => simp [intOf]; omega
      | true =>
        rw [ho] at RI
        obtain ⟨q, hq1, hq2, hq3, _, _, hq6⟩ := hok3 ho
        have hq1 : p = q := hq1
        have hq2 : p.toNat = q := hq2
        have hq3 : 0 < b.length := hq3
        have HX := Lib.hid (show lay f (l.take (k + 1)) = over (lay f (l.take k)) q b from hok1 q ho hq2)
        have HBL := Lib.hid hbl
        have hfit : q + bl ≤ N := by
          have h := HLE2.out
          rw [HX.out, over_len, ← HNN.out, ← hbl] at h; omega
        have hq0 : q < N := by omega
        have SV := Lib.hid hsv
        clear hok1 hok2 hok3 hoe hbl ho hpk hq2 hsv hq3 hq6
        subst hq1
        have hcut := cut_at (g := g) hq0
        go_wp2_with fail
        refine (RI.out _).mono ?_
        rintro e w4 ⟨rfl, hb⟩
        have B4 := Lib.hid (B1'.out.trans (hb.mono B1'.out.size))
        obtain ⟨x0, x1, -⟩ := BX.out.later hb
        have W4 := Lib.hid (HW.out.later B4.out)
        have S4 := Lib.hid (SV.out.later B4.out)
        have B5 := Lib.hid (HB.out.trans (B4.out.mono HB.out.size))
        have WD := Lib.hid (show w4.drew.heap[g]? = some (.cells (bys (pad N (lay f (l.take k)))).toArray 5 (0, 0)) from W4.out)
        have BD := Lib.hid (B5.out.drew)
        have SD := Lib.hid (S4.out.later (below_drew w4 (Nat.le_refl _)))
        have P1 := Lib.hid (show (bys b).length = Nat.min bl (N - q) by rw [bys_len, ← HBL.out]; exact (Nat.min_eq_left (by omega)).symm)
        have P2 := Lib.hid (show 0 < (bys b).length → ∃ ad, A1 = some ad ∧ ∀ j v, (bys b)[j]? = some v → w4.drew.cell? (ad.add j) = some v from fun h0 => SD.out.src (by rw [bys_len] at h0; exact h0))
        have P3 := Lib.hid (show q + (bys b).length ≤ (bys (pad N (lay f (l.take k)))).length by rw [bys_len, bys_len, pad_len, ← HBL.out]; omega)
        clear hb
        go_wp2_with fail
        go_region_law (refine step_copy_splice rfl (.tmp 26) (.tmp 28) 38 38 rfl 5 Tryz.underlying38 sizeByte (some ⟨g, q, none⟩) A1 (N - q) (N - q) bl bc rfl rfl g q (bys (pad N (lay f (l.take k)))) 5 WD.out (bys b) P1.out (fun h0 => ⟨rfl, P2.out h0⟩) P3.out (bys_ones b) w.heap.size w BD.out hgw ?_; intro w5 hw5 hb5)
        all_goals
          have W5 := Lib.hid (show Whole w5 g (pad N (lay f (l.take (k + 1)))) by
            have h := hw5.out
            rw [bys_splice, spl_pad (by rw [HNN.out]; exact HLE.out) (by rw [← HBL.out]; exact hfit), ← HX.out] at h
            exact h)
          have B6 := Lib.hid hb5
          clear hw5 hb5
          go_wp2_with fail
          go_roundw
          case rel => exact ⟨k + 1, by omega, by go_num, W5.out, B6.out⟩
          case measure => simp [intOf]; omega
    · have HX := Lib.hid (show SeesV wr (.slice (some ⟨g, 0, none⟩) N N) (bys (lay f l)) by
        have h := HW.out
        rw [lay_full (by rw [← HN.out]; exact hlt), pad_same (by rw [← HNN.out]; exact Nat.le_refl _)] at h
        exact h.sees N N HNN.out)
      go_wp2_with fail
      go_ret
      exact ⟨_, rfl, HX.out, HB.out⟩
end Go.Proofs.YtaklilhnikmmfaaGreat

/-
  The walk of block.Pieces.
-/
namespace Go.Proofs.YtaklilhnikmmfaaGreat
open Go.RowKit StrM BlockM

/-- What Pieces returns: an error, and the pieces. -/
def pErr (p : Int) (n : Nat) : Int := if p < 0 then 1 else if 65536 < p + n then 4 else 0
def pList (p : Int) (b : List UInt8) : List P := if p < 0 then [] else if 65536 < p + b.length then [] else pieces p.toNat b
def PiecesPost (p : Int) (b : List UInt8) (w : World) (e : Ending) (w' : World) : Prop :=
  ∃ v, e = .returned (.tuple #[v, .int .i64 (pErr p b.length)]) ∧ SeesP w' v (pList p b) ∧ Below w.heap.size w w'

theorem seesP_nil (w : World) : SeesP w (.slice none 0 0) [] := ⟨none, 0, rfl, .inl rfl⟩
theorem PiecesPost.neg {p : Int} {b : List UInt8} {w : World} (h : p < 0) : PiecesPost p b w (.returned (.tuple #[.slice none 0 0, .int .i64 1])) w :=
  ⟨_, by rw [pErr, if_pos h], by rw [pList, if_pos h]; exact seesP_nil w, Below.refl _ _⟩
theorem PiecesPost.long {p : Int} {b : List UInt8} {w : World} (h : ¬ p < 0) (h2 : 65536 < p + b.length) : PiecesPost p b w (.returned (.tuple #[.slice none 0 0, .int .i64 4])) w :=
  ⟨_, by rw [pErr, if_neg h, if_pos h2], by rw [pList, if_neg h, if_pos h2]; exact seesP_nil w, Below.refl _ _⟩
theorem PiecesPost.fits {n : Nat} {b : List UInt8} {w w' : World} {v : Value} (h2 : n + b.length ≤ 65536) (hv : SeesP w' v (pieces n b)) (hb : Below w.heap.size w w') : PiecesPost n b w (.returned (.tuple #[v, .int .i64 0])) w' :=
  ⟨v, by rw [pErr, if_neg (by omega), if_neg (by omega)], by rw [pList, if_neg (by omega), if_neg (by omega), Int.toNat_natCast]; exact hv, hb⟩

/-- What the loop holds. -/
def PLoop (w : World) (n : Nat) (b : List UInt8) (q : Nat) (r : List UInt8) (v : Value) (wr : World) : Prop :=
  ∃ l : List PB, PRel w v l wr ∧ l.map Prod.fst ++ pieces q r = pieces n b ∧ q + r.length = n + b.length ∧ l.length + r.length ≤ b.length

theorem PLoop.start (w : World) (n : Nat) (b : List UInt8) : PLoop w n b n b (.slice none 0 0) w := ⟨[], PRel.start w, rfl, rfl, by simp⟩
theorem PLoop.last {w : World} {n : Nat} {b : List UInt8} {q : Nat} {v : Value} {wr : World} (h : PLoop w n b q [] v wr) : SeesP wr v (pieces n b) ∧ Below w.heap.size w wr := by
  obtain ⟨l, h1, h2, _, _⟩ := h
  rw [pieces_nil, List.append_nil] at h2
  rw [← h2]
  exact ⟨h1.sees, h1.2.2⟩

set_option maxHeartbeats 2000000 in
set_option maxRecDepth 100000 in
theorem pieces_any (p : Int) (A : Option Addr) (len cap : Nat) (b : List UInt8) (w : World) (hs : SeesV w (.slice A len cap) (bys b)) (hlen : b.length = len) (hcap : len ≤ cap) (hmax : len ≤ 1000000) (hp : p ≤ 9223372036854775807) :
    Calls Tryz.prog 53 #[.int .i64 p, .slice A len cap] w (PiecesPost p b w) := by
  by_cases h1 : p < 0
  · have HP := Lib.hid (PiecesPost.neg (b := b) (w := w) h1)
    clear hs hlen
    go_enter Tryz.func53, Tryz.ntmps53
    go_wp2_with fail
    go_ret2
    exact HP.out
  · obtain ⟨n, rfl⟩ : ∃ n : Nat, p = n := ⟨p.toNat, by omega⟩
    have FI := Lib.hid (fun w => bfits_any n len w (by omega))
    by_cases h2 : n + len ≤ 65536
    · rw [decide_eq_true h2] at FI
      have HP := Lib.hid (fun w' v (hv : SeesP w' v (pieces n b)) (hb : Below w.heap.size w w') => PiecesPost.fits (w := w) (n := n) (b := b) (by omega) hv hb)
      have HS := Lib.hid hs
      have HL := Lib.hid hlen
      have h1' : decide ((n : Int) < 0) = false := by simp
      clear hs hlen h1 hp
      go_enter Tryz.func53, Tryz.ntmps53
      go_wp2_with fail
      refine (FI.out _).mono ?_
      rintro e w' ⟨rfl, rfl⟩
      go_wp2_with fail
      go_loopw [0, 1, 6, 7] (fun x y v z wr => ∃ (q m c : Nat) (A : Option Addr) (r : List UInt8), x = .int .i64 (q : Int) ∧ y = .slice A m c ∧ m = r.length ∧ m ≤ c ∧ q + m = n + len ∧ SeesV w (.slice A m c) (bys r) ∧ PLoop w n b q r v wr) (fun _ y _ _ _ => sliceLen y)
      case atStart => exact ⟨n, len, cap, A, b, rfl, rfl, HL.out.symm, hcap, rfl, HS.out, PLoop.start w n b⟩
      case round =>
        obtain ⟨q, m, c, A1, r, rfl, rfl, hm, hmc, hqm, hS, hP⟩ := hrel
        by_cases h0 : m = 0
        · subst h0
          obtain rfl : r = [] := List.eq_nil_of_length_eq_zero hm.symm
          have HX := Lib.hid hP.last
          clear hS hP hm
          go_wp2_with fail
          go_ret2
          exact HP.out _ _ HX.out.1 HX.out.2
        · obtain ⟨l, hR, hE, hq2, hll⟩ := hP
          have h0' : (0 : Int) < (m : Int) := by omega
          have RO := Lib.hid (fun w => broom_any q w (by omega))
          obtain ⟨k, hk⟩ : ∃ k, k = min m (room q) := ⟨_, rfl⟩
          have hrp := room_pos q
          have hk0 : 0 < k := by omega
          have hkm : k ≤ m := by omega
          have hki : (if room q < m then (room q : Int) else (m : Int)) = (k : Int) := by split <;> omega
          have hmin : ∀ W, (Builtin.min_ #[3, 3] 3 #[.int .i64 (m : Int), .int .i64 (room q : Int)]).run Tryz.prog W = .ok (.int .i64 (k : Int)) W := by
            intro W
            rw [run_min_int2]
            by_cases g : room q < m
            · rw [if_pos (by omega), show room q = k by omega]
            · rw [if_neg (by omega), show m = k by omega]
          obtain ⟨A2, r2, s2⟩ := cut_h hS hmc hkm
          obtain ⟨A3, r3, s3⟩ := cut_l hS hmc hkm
          obtain ⟨t, ht⟩ : ∃ t, t = r.take k := ⟨_, rfl⟩
          rw [← ht] at s2
          have HT := Lib.hid (show t.length = k by rw [ht, List.length_take]; omega)
          have CL := Lib.hid (clone_any A2 k c t wr (s2.later hR.2.2) (by have := HT.out; omega))
          have HR := Lib.hid hR
          have S3 := Lib.hid s3
          have HE := Lib.hid (show l.map Prod.fst ++ (⟨(q : Int), t⟩ :: pieces (q + k) (r.drop k)) = pieces n b by
            rw [← hE, pieces_min q (b := r) (m := k) (by omega) (by omega), ht])
          have HD := Lib.hid (show m - k = (r.drop k).length by rw [List.length_drop]; omega)
          have HQ := Lib.hid (show q + k + (r.drop k).length = n + b.length by rw [← HD.out]; omega)
          have hll2 : l.length + 1 + (m - k) ≤ len := by rw [← HL.out]; omega
          generalize room q = rq at *
          clear hR hE s2 s3 ht hS hm hk hrp h1' hq2 hll
          go_wp2_with fail
          refine (RO.out _).mono ?_
          rintro e w' ⟨rfl, rfl⟩
          go_wp2_with fail
          refine (CL.out).mono ?_
          rintro e w1 ⟨B, rfl, hB, hb1⟩
          obtain ⟨A4, c4, hBe, -⟩ := own_slice hB
          rw [HT.out] at hBe
          subst hBe
          have HB := Lib.hid hB
          have HB1 := Lib.hid hb1
          have O1 := Lib.hid (own_belowN HR.out.1 hb1)
          have hsz := Nat.le_trans HR.out.2.2.size hb1.size
          clear hB hb1
          go_wp2_with (at_builtin; refine append_piece rfl _ _ rfl w.heap.size _ _ _ rfl O1.out (⟨(q : Int), t⟩, .slice A4 k c4) (own_one HB.out) rfl ?a1 ?a2 ?_)
          case a1 => omega
          case a2 => exact hsz
          intro v' w2 ho hb2 hst
          have HN := Lib.hid (show PLoop w n b (q + k) (r.drop k) v' w2 from
            ⟨l ++ [(⟨(q : Int), t⟩, .slice A4 k c4)], HR.out.add HB1.out HB.out ho hb2 hst, by have := HE.out; simpa using this, HQ.out, by rw [List.length_append, ← HD.out, HL.out]; simpa using hll2⟩)
          clear ho hb2 hst
          go_wp2_with fail
          go_roundw
          case rel => exact ⟨q + k, m - k, c - k, A3, r.drop k, by go_num, by simp, HD.out, by omega, by omega, S3.out, HN.out⟩
          case measure => simp [sliceLen]; omega
    · rw [decide_eq_false h2] at FI
      have HP := Lib.hid (PiecesPost.long (p := n) (b := b) (w := w) h1 (by omega))
      clear hs hlen h1 h2
      go_enter Tryz.func53, Tryz.ntmps53
      go_wp2_with fail
      refine (FI.out _).mono ?_
      rintro e w' ⟨rfl, rfl⟩
      go_wp2_with fail
      go_ret2
      exact HP.out
end Go.Proofs.YtaklilhnikmmfaaGreat

/-
  The walks of the reference's Few and Same.
-/
namespace Go.Proofs.YtaklilhnikmmfaaGreat
open Go.RowKit StrM BlockM

theorem text_drewN {w : World} {v : Value} {l : List UInt8} (h : SeesV w v (bys l)) : ∀ m, (convert 38 9 v).run Tryz.prog (w.drewN m) = .ok (.string ⟨l.toArray⟩) (w.drewN m) :=
  fun _ => run_text_sees (h.later (below_drewN _ _))

end Go.Proofs.YtaklilhnikmmfaaGreat
