/-
  Layer 8's mathematics: bytes divided into blocks, and pieces written over a file.
-/
namespace BlockM

/-- A piece: its offset and its bytes. -/
structure P where
  p : Int
  b : List UInt8

/-- The bytes from an offset to the end of its block. -/
def room (n : Nat) : Nat := 16 - n % 16
theorem room_pos (n : Nat) : 0 < room n := by unfold room; omega
theorem room_le (n : Nat) : room n ≤ 16 := by unfold room; omega

def ok (x : P) : Bool := decide (0 ≤ x.p ∧ 0 < x.b.length ∧ x.b.length ≤ room x.p.toNat ∧ x.p + x.b.length ≤ 65536)

/-- The byte at a place, 0 behind the end. -/
def D (f : List UInt8) (i : Nat) : UInt8 := f[i]?.getD 0
theorem ext {a b : List UInt8} (hl : a.length = b.length) (h : ∀ i, D a i = D b i) : a = b := by
  apply List.ext_getElem hl
  intro i h1 h2
  have := h i
  simpa [D, List.getElem?_eq_getElem h1, List.getElem?_eq_getElem h2] using this
theorem D_out {f : List UInt8} {i : Nat} (h : f.length ≤ i) : D f i = 0 := by simp [D, List.getElem?_eq_none h]
theorem D_at {f : List UInt8} {i : Nat} (h : i < f.length) : D f i = f[i] := by simp [D, h]
theorem D_append (a b : List UInt8) (i : Nat) : D (a ++ b) i = if i < a.length then D a i else D b (i - a.length) := by
  unfold D
  rw [List.getElem?_append]
  split <;> rfl
theorem D_take (a : List UInt8) (n i : Nat) : D (a.take n) i = if i < n then D a i else 0 := by
  unfold D
  rw [List.getElem?_take]
  split <;> rfl
theorem D_drop (a : List UInt8) (n i : Nat) : D (a.drop n) i = D a (n + i) := by
  unfold D
  rw [List.getElem?_drop]
theorem D_zeros (n i : Nat) : D (List.replicate n 0) i = 0 := by
  unfold D
  rw [List.getElem?_replicate]
  split <;> rfl
theorem D_set (a : List UInt8) (n i : Nat) (c : UInt8) (h : n < a.length) : D (a.set n c) i = if i = n then c else D a i := by
  unfold D
  rw [List.getElem?_set]
  by_cases e : n = i
  · subst e; simp [h]
  · rw [if_neg e, if_neg (fun x => e x.symm)]

/-- Bytes with zero bytes behind them, up to a length. -/
def pad (n : Nat) (f : List UInt8) : List UInt8 := f ++ List.replicate (n - f.length) 0
theorem pad_len (n : Nat) (f : List UInt8) : (pad n f).length = max f.length n := by simp [pad]; omega
theorem pad_D (n : Nat) (f : List UInt8) (i : Nat) : D (pad n f) i = D f i := by
  rw [pad, D_append]
  split
  · rfl
  · rw [D_zeros, D_out (by omega)]
theorem pad_same {n : Nat} {f : List UInt8} (h : n ≤ f.length) : pad n f = f := by simp [pad, Nat.sub_eq_zero_of_le h]

/-- Bytes written over others. -/
def over (f : List UInt8) (n : Nat) (b : List UInt8) : List UInt8 := (pad n f).take n ++ b ++ f.drop (n + b.length)
theorem over_len (f : List UInt8) (n : Nat) (b : List UInt8) : (over f n b).length = max f.length (n + b.length) := by
  simp [over, pad_len]; omega
theorem over_D (f : List UInt8) (n : Nat) (b : List UInt8) (i : Nat) : D (over f n b) i = if i < n then D f i else if i < n + b.length then D b (i - n) else D f i := by
  have hl : ((pad n f).take n).length = n := by simp [pad_len]; omega
  rw [over, D_append, D_append, List.length_append, hl, D_take, pad_D, D_drop]
  by_cases h1 : i < n
  · rw [if_pos h1, if_pos h1, if_pos h1, if_pos (by omega)]
  · rw [if_neg h1, if_neg h1]
    split
    · rfl
    · congr 1; omega

theorem over_over (f : List UInt8) (n : Nat) (a c : List UInt8) : over (over f n a) (n + a.length) c = over f n (a ++ c) := by
  apply ext
  · simp only [over_len, List.length_append]; omega
  · intro i
    simp only [over_D, D_append, List.length_append]
    by_cases h1 : i < n
    · rw [if_pos (show i < n + a.length by omega), if_pos h1, if_pos h1]
    · by_cases h2 : i < n + a.length
      · rw [if_pos h2, if_neg h1, if_pos h2, if_neg h1, if_pos (by omega), if_pos (by omega)]
      · by_cases h3 : i < n + a.length + c.length
        · rw [if_neg h2, if_pos h3, if_neg h1, if_pos (by omega), if_neg (by omega)]; congr 1; omega
        · rw [if_neg h2, if_neg h3, if_neg h1, if_neg h2, if_neg h1, if_neg (by omega)]
theorem over_under (f : List UInt8) (n : Nat) (a c : List UInt8) : over (over f (n + a.length) c) n a = over f n (a ++ c) := by
  apply ext
  · simp only [over_len, List.length_append]; omega
  · intro i
    simp only [over_D, D_append, List.length_append]
    by_cases h1 : i < n
    · rw [if_pos h1, if_pos h1, if_pos (show i < n + a.length by omega)]
    · by_cases h2 : i < n + a.length
      · rw [if_neg h1, if_pos h2, if_neg h1, if_pos (by omega), if_pos (by omega)]
      · by_cases h3 : i < n + a.length + c.length
        · rw [if_neg h1, if_neg h2, if_neg h2, if_pos h3, if_neg h1, if_pos (by omega), if_neg (by omega)]; congr 1; omega
        · rw [if_neg h1, if_neg h2, if_neg h2, if_neg h3, if_neg h1, if_neg (by omega)]
theorem over_nil (f : List UInt8) (n : Nat) : over f n [] = pad n f := by
  apply ext
  · simp [over_len, pad_len]
  · intro i
    rw [over_D, pad_D]
    split
    · rfl
    · rw [if_neg (by simpa using by omega)]

/-! ### A file with pieces written over it -/
def lay1 (f : List UInt8) (x : P) : List UInt8 := if ok x then over f x.p.toNat x.b else f
def lay (f : List UInt8) (l : List P) : List UInt8 := l.foldl lay1 f
theorem lay_add (f : List UInt8) (a b : List P) : lay f (a ++ b) = lay (lay f a) b := by simp [lay]
theorem lay_next (f : List UInt8) (l : List P) {k : Nat} (hk : k < l.length) : lay f (l.take (k + 1)) = lay1 (lay f (l.take k)) l[k] := by
  rw [List.take_succ_eq_append_getElem hk, lay_add]; rfl
theorem lay1_len_le (f : List UInt8) (x : P) : f.length ≤ (lay1 f x).length := by
  unfold lay1
  split
  · rw [over_len]; omega
  · exact Nat.le_refl _
theorem lay_len_le (f : List UInt8) (l : List P) : f.length ≤ (lay f l).length := by
  induction l generalizing f with
  | nil => exact Nat.le_refl _
  | cons x r ih => exact Nat.le_trans (lay1_len_le f x) (ih (lay1 f x))
theorem lay_take_le (f : List UInt8) (l : List P) (k : Nat) : (lay f (l.take k)).length ≤ (lay f l).length := by
  have h := lay_len_le (lay f (l.take k)) (l.drop k)
  rwa [← lay_add, List.take_append_drop] at h
theorem lay_full {f : List UInt8} {l : List P} {k : Nat} (h : ¬ k < l.length) : lay f (l.take k) = lay f l := by rw [List.take_of_length_le (by omega)]

theorem ok_facts {x : P} (h : ok x = true) : ∃ n : Nat, x.p = n ∧ x.p.toNat = n ∧ 0 < x.b.length ∧ x.b.length ≤ 16 ∧ x.b.length ≤ room n ∧ n + x.b.length ≤ 65536 := by
  simp only [ok, decide_eq_true_eq] at h
  obtain ⟨h1, h2, h3, h4⟩ := h
  have := room_le x.p.toNat
  exact ⟨x.p.toNat, by omega, rfl, h2, by omega, h3, by omega⟩
theorem ok_of {n : Nat} {b : List UInt8} (h1 : 0 < b.length) (h2 : b.length ≤ room n) (h3 : n + b.length ≤ 65536) : ok ⟨n, b⟩ = true := by
  simp only [ok, decide_eq_true_eq, Int.toNat_natCast]
  omega
theorem lay1_ok {f : List UInt8} {x : P} {n : Nat} (h : ok x = true) (hn : x.p.toNat = n) : lay1 f x = over f n x.b := by rw [lay1, if_pos h, hn]
theorem lay1_no {f : List UInt8} {x : P} (h : ok x = false) : lay1 f x = f := by simp [lay1, h]
theorem lay_next_ok {f : List UInt8} {l : List P} {k n : Nat} (hk : k < l.length) (h : ok l[k] = true) (hn : l[k].p.toNat = n) : lay f (l.take (k + 1)) = over (lay f (l.take k)) n l[k].b := by
  rw [lay_next f l hk, lay1_ok h hn]
theorem lay_next_no {f : List UInt8} {l : List P} {k : Nat} (hk : k < l.length) (h : ok l[k] = false) : lay f (l.take (k + 1)) = lay f (l.take k) := by
  rw [lay_next f l hk, lay1_no h]
/-- All of a file with pieces of which none lies far away. -/
theorem lay_len_lim (f : List UInt8) (l : List P) : (lay f l).length ≤ max f.length 65536 := by
  induction l generalizing f with
  | nil => simp [lay]; omega
  | cons x r ih =>
    have h := ih (lay1 f x)
    have e : lay f (x :: r) = lay (lay1 f x) r := rfl
    rw [e]
    have h2 : (lay1 f x).length ≤ max f.length 65536 := by
      cases hx : ok x with
      | false => rw [lay1_no hx]; omega
      | true =>
        obtain ⟨n, _, hn, _, _, _, h6⟩ := ok_facts hx
        rw [lay1_ok hx hn, over_len]; omega
    omega

/-- The program's way: pieces are copied over what has its last length already. -/
def spl (L : List UInt8) (k : Nat) (cs : List UInt8) : List UInt8 := L.take k ++ (cs ++ L.drop (k + cs.length))
theorem spl_len {L : List UInt8} {k : Nat} {cs : List UInt8} (h : k + cs.length ≤ L.length) : (spl L k cs).length = L.length := by simp [spl]; omega
theorem spl_D {L : List UInt8} {k : Nat} {cs : List UInt8} (h : k + cs.length ≤ L.length) (i : Nat) : D (spl L k cs) i = if i < k then D L i else if i < k + cs.length then D cs (i - k) else D L i := by
  have hl : (L.take k).length = k := by simp; omega
  rw [spl, D_append, D_append, hl, D_take, D_drop]
  by_cases h1 : i < k
  · simp [h1]
  · rw [if_neg h1, if_neg h1]
    by_cases h2 : i < k + cs.length
    · rw [if_pos (by omega), if_pos h2]
    · rw [if_neg (by omega), if_neg h2]; congr 1; omega
theorem spl_pad {N : Nat} {f : List UInt8} {n : Nat} {b : List UInt8} (hf : f.length ≤ N) (h : n + b.length ≤ N) : spl (pad N f) n b = pad N (over f n b) := by
  have hp := pad_len N f
  apply ext
  · rw [spl_len (by omega), pad_len, pad_len, over_len]; omega
  · intro i
    rw [spl_D (by omega), pad_D, pad_D, over_D]
theorem spl_zeros {N : Nat} {f : List UInt8} (hf : f.length ≤ N) : spl (List.replicate N 0) 0 f = pad N f := by
  have e : List.replicate N (0 : UInt8) = pad N [] := by simp [pad]
  rw [e, spl_pad (by simp) (by omega)]
  congr 1
  simp [over, pad]

/-! ### The reference's way: byte by byte -/
def upTo (c : List UInt8) (n : Nat) (b : List UInt8) (k : Nat) : List UInt8 := if k = 0 then c else over c n (b.take k)
theorem upTo_zero (c : List UInt8) (n : Nat) (b : List UInt8) : upTo c n b 0 = c := rfl
theorem upTo_end {c : List UInt8} {n : Nat} {b : List UInt8} (h : 0 < b.length) : upTo c n b b.length = over c n b := by
  rw [upTo, if_neg (by omega), List.take_length]
theorem upTo_len (c : List UInt8) (n : Nat) (b : List UInt8) {k : Nat} (h : k ≤ b.length) : (upTo c n b k).length ≤ max c.length (n + k) := by
  unfold upTo
  split
  · omega
  · rw [over_len, List.length_take]; omega
theorem upTo_next (c : List UInt8) (n : Nat) {b : List UInt8} {k : Nat} (h : k < b.length) : (pad (n + k + 1) (upTo c n b k)).set (n + k) b[k] = upTo c n b (k + 1) := by
  have hl := pad_len (n + k + 1) (upTo c n b k)
  have e : upTo c n b (k + 1) = over c n (b.take (k + 1)) := by rw [upTo, if_neg (by omega)]
  rw [e]
  apply ext
  · rw [List.length_set, hl, over_len, List.length_take]
    unfold upTo
    split
    · omega
    · rw [over_len, List.length_take]; omega
  · intro i
    rw [D_set _ _ _ _ (by omega), pad_D, over_D, List.length_take, D_take]
    unfold upTo
    by_cases h1 : i = n + k
    · subst h1
      rw [if_pos rfl, if_neg (by omega), if_pos (by omega), if_pos (by omega), show n + k - n = k by omega, D_at h]
    · rw [if_neg h1]
      split
      · by_cases h2 : i < n
        · rw [if_pos h2]
        · rw [if_neg h2, if_neg (by omega)]
      · rw [over_D, List.length_take, D_take]
        by_cases h2 : i < n
        · rw [if_pos h2, if_pos h2]
        · rw [if_neg h2, if_neg h2]
          by_cases h3 : i < n + k
          · rw [if_pos (by omega), if_pos (by omega), if_pos (by omega), if_pos (by omega)]
          · rw [if_neg (by omega), if_neg (by omega)]
/-- Written, or appended, one byte more. -/
theorem over_set (f : List UInt8) (n : Nat) {b : List UInt8} {k : Nat} (h : k < b.length) (hl : n + k < (over f n (b.take k)).length) : (over f n (b.take k)).set (n + k) b[k] = over f n (b.take (k + 1)) := by
  rw [over_len, List.length_take] at hl
  apply ext
  · rw [List.length_set, over_len, over_len, List.length_take, List.length_take]; omega
  · intro i
    rw [D_set _ _ _ _ (by rw [over_len, List.length_take]; omega), over_D, over_D, List.length_take, List.length_take, D_take, D_take]
    by_cases h1 : i = n + k
    · subst h1
      rw [if_pos rfl, if_neg (by omega), if_pos (by omega), if_pos (by omega), show n + k - n = k by omega, D_at h]
    · rw [if_neg h1]
      by_cases h2 : i < n
      · rw [if_pos h2, if_pos h2]
      · rw [if_neg h2, if_neg h2]
        by_cases h3 : i < n + k
        · rw [if_pos (by omega), if_pos (by omega), if_pos (by omega), if_pos (by omega)]
        · rw [if_neg (by omega), if_neg (by omega)]
theorem over_snoc (f : List UInt8) (n : Nat) {b : List UInt8} {k : Nat} (h : k < b.length) (hl : ¬ n + k < (over f n (b.take k)).length) : over f n (b.take k) ++ [b[k]] = over f n (b.take (k + 1)) := by
  rw [over_len, List.length_take] at hl
  have hm : min k b.length = k := by omega
  apply ext
  · rw [List.length_append, over_len, over_len, List.length_take, List.length_take]; simp; omega
  · intro i
    rw [D_append, over_D, over_D, over_len, List.length_take, List.length_take, D_take, D_take]
    by_cases h1 : i < n + k
    · rw [if_pos (by omega)]
      by_cases h2 : i < n
      · rw [if_pos h2, if_pos h2]
      · rw [if_neg h2, if_neg h2, if_pos (by omega), if_pos (by omega), if_pos (by omega), if_pos (by omega)]
    · rw [if_neg (by omega)]
      by_cases h2 : i = n + k
      · subst h2
        rw [if_neg (by omega), if_pos (by omega), if_pos (by omega), show n + k - n = k by omega, D_at h, show n + k - max f.length (n + min k b.length) = 0 by omega]; rfl
      · rw [if_neg (by omega), if_neg (by omega), D_out (show f.length ≤ i by omega), D_out (by simp; omega)]

/-! ### Bytes divided at the ends of blocks -/
def pieces (n : Nat) (b : List UInt8) : List P :=
  if b.length = 0 then [] else ⟨n, b.take (room n)⟩ :: pieces (n + room n) (b.drop (room n))
termination_by b.length
decreasing_by
  have := room_pos n
  rw [List.length_drop]; omega

theorem pieces_nil (n : Nat) : pieces n [] = [] := by rw [pieces]; rfl
theorem pieces_some (n : Nat) {b : List UInt8} (h : 0 < b.length) : pieces n b = ⟨n, b.take (room n)⟩ :: pieces (n + room n) (b.drop (room n)) := by
  rw [pieces, if_neg (by omega)]
/-- As the program divides: with the lesser of what is left and of the room. -/
theorem pieces_min (n : Nat) {b : List UInt8} {m : Nat} (h : 0 < b.length) (hm : m = min b.length (room n)) : pieces n b = ⟨n, b.take m⟩ :: pieces (n + m) (b.drop m) := by
  rw [pieces_some n h]
  by_cases hr : room n ≤ b.length
  · rw [show m = room n by omega]
  · have e1 : b.take (room n) = b.take m := by rw [List.take_of_length_le (by omega), List.take_of_length_le (by omega)]
    have e2 : b.drop (room n) = [] := List.drop_eq_nil_of_le (by omega)
    have e3 : b.drop m = [] := List.drop_eq_nil_of_le (by omega)
    rw [e1, e2, e3, pieces_nil, pieces_nil]
theorem pieces_short (n : Nat) {b : List UInt8} (h : 0 < b.length) (hr : b.length ≤ room n) : pieces n b = [⟨n, b⟩] := by
  rw [pieces_some n h, List.take_of_length_le hr, List.drop_eq_nil_of_le hr, pieces_nil]

theorem pieces_len (n : Nat) (b : List UInt8) : (pieces n b).length ≤ b.length := by
  by_cases h : b.length = 0
  · rw [List.eq_nil_of_length_eq_zero h, pieces_nil]; simp
  · have := room_pos n
    have ih := pieces_len (n + room n) (b.drop (room n))
    rw [List.length_drop] at ih
    rw [pieces_some n (by omega), List.length_cons]; omega
termination_by b.length
decreasing_by
  have := room_pos n
  rw [List.length_drop]; omega

theorem pieces_ok (n : Nat) (b : List UInt8) (h : n + b.length ≤ 65536) : ∀ x ∈ pieces n b, ok x = true := by
  by_cases h0 : b.length = 0
  · rw [List.eq_nil_of_length_eq_zero h0, pieces_nil]; intro x hx; cases hx
  · have hr := room_pos n
    have hd : (b.drop (room n)).length = b.length - room n := by simp
    rw [pieces_some n (by omega)]
    intro x hx
    rcases List.mem_cons.1 hx with rfl | hx
    · exact ok_of (by rw [List.length_take]; omega) (by rw [List.length_take]; omega) (by rw [List.length_take]; omega)
    · by_cases hl : room n < b.length
      · exact pieces_ok (n + room n) (b.drop (room n)) (by omega) x hx
      · rw [List.eq_nil_of_length_eq_zero (show (b.drop (room n)).length = 0 by omega), pieces_nil] at hx; cases hx
termination_by b.length
decreasing_by rw [List.length_drop]; omega

/-- No two pieces lie in one block: the i-th one is in the i-th block from the first one's on. -/
theorem pieces_block (n : Nat) (b : List UInt8) (i : Nat) (hi : i < (pieces n b).length) : ∃ q : Nat, (pieces n b)[i].p = q ∧ q / 16 = n / 16 + i ∧ q ≤ n + b.length := by
  by_cases h0 : b.length = 0
  · rw [List.eq_nil_of_length_eq_zero h0, pieces_nil] at hi; simp at hi
  · have hr := room_pos n
    have hd : (b.drop (room n)).length = b.length - room n := by simp
    have e := pieces_some n (b := b) (by omega)
    cases i with
    | zero => exact ⟨n, by simp [e], by omega, by omega⟩
    | succ i =>
      have hi' : i < (pieces (n + room n) (b.drop (room n))).length := by rw [e, List.length_cons] at hi; omega
      have hl : room n < b.length := by
        by_cases hl : room n < b.length
        · exact hl
        · rw [List.eq_nil_of_length_eq_zero (show (b.drop (room n)).length = 0 by omega), pieces_nil] at hi'; simp at hi'
      obtain ⟨q, h1, h2, h3⟩ := pieces_block (n + room n) (b.drop (room n)) i hi'
      refine ⟨q, ?_, ?_, by omega⟩
      · rw [← h1]; simp [e]
      · rw [h2]; unfold room; omega
termination_by b.length
decreasing_by rw [List.length_drop]; omega

/-- One byte more: a piece of its own, or the last piece's last byte. -/
theorem pieces_snoc (n : Nat) (b : List UInt8) (c : UInt8) :
    ((b.length = 0 ∨ (n + b.length) % 16 = 0) ∧ pieces n (b ++ [c]) = pieces n b ++ [⟨((n + b.length : Nat) : Int), [c]⟩]) ∨
    (¬ (b.length = 0 ∨ (n + b.length) % 16 = 0) ∧ ∃ i x, pieces n b = i ++ [x] ∧ pieces n (b ++ [c]) = i ++ [⟨x.p, x.b ++ [c]⟩]) := by
  by_cases h0 : b.length = 0
  · left
    refine ⟨.inl h0, ?_⟩
    rw [List.eq_nil_of_length_eq_zero h0, pieces_nil, List.nil_append, pieces_short n (by simp) (by have := room_pos n; simp; omega)]; rfl
  · have hr := room_pos n
    have hr2 : room n = 16 - n % 16 := rfl
    by_cases hs : b.length < room n
    · right
      refine ⟨by omega, [], ⟨n, b⟩, by rw [pieces_short n (by omega) (by omega)]; rfl, ?_⟩
      rw [pieces_short n (by simp) (by simp; omega)]; rfl
    · have hd : (b.drop (room n)).length = b.length - room n := by simp
      have e1 := pieces_some n (b := b) (by omega)
      have e2 := pieces_some n (b := b ++ [c]) (by simp)
      rw [List.take_append_of_le_length (by omega), List.drop_append_of_le_length (by omega)] at e2
      have hn : n + room n + (b.drop (room n)).length = n + b.length := by omega
      rcases pieces_snoc (n + room n) (b.drop (room n)) c with ⟨h1, h2⟩ | ⟨h1, i, x, h2, h3⟩
      · left
        refine ⟨by rw [hn] at h1; rcases h1 with h1 | h1 <;> omega, ?_⟩
        rw [e2, h2, e1, hn]; rfl
      · right
        refine ⟨by rw [hn] at h1; omega, ⟨n, b.take (room n)⟩ :: i, x, by rw [e1, h2]; rfl, by rw [e2, h3]; rfl⟩
termination_by b.length
decreasing_by rw [List.length_drop]; omega

/-- Bl3: all pieces in order, and from the last to the first, make what the bytes make at once. -/
theorem lay_pieces (f : List UInt8) (n : Nat) (b : List UInt8) (h0 : 0 < b.length) (h : n + b.length ≤ 65536) : lay f (pieces n b) = over f n b ∧ lay f (pieces n b).reverse = over f n b := by
  have hr := room_pos n
  have hd : (b.drop (room n)).length = b.length - room n := by simp
  have hx := pieces_ok n b h ⟨n, b.take (room n)⟩ (by rw [pieces_some n h0]; simp)
  by_cases hl : room n < b.length
  · have ht : (b.take (room n)).length = room n := by simp; omega
    have e1 := over_over f n (b.take (room n)) (b.drop (room n))
    have e2 := over_under f n (b.take (room n)) (b.drop (room n))
    rw [ht, List.take_append_drop] at e1 e2
    constructor
    · obtain ⟨i1, -⟩ := lay_pieces (over f n (b.take (room n))) (n + room n) (b.drop (room n)) (by omega) (by omega)
      rw [pieces_some n h0, show lay f (⟨n, b.take (room n)⟩ :: pieces (n + room n) (b.drop (room n))) = lay (lay1 f ⟨n, b.take (room n)⟩) (pieces (n + room n) (b.drop (room n))) from rfl, lay1_ok (n := n) hx rfl]
      exact i1.trans e1
    · obtain ⟨-, i2⟩ := lay_pieces f (n + room n) (b.drop (room n)) (by omega) (by omega)
      rw [pieces_some n h0, List.reverse_cons, lay_add, i2]
      show lay1 _ _ = _
      rw [lay1_ok hx rfl]
      exact e2
  · have e := pieces_short n h0 (show b.length ≤ room n by omega)
    have hx' : ok ⟨n, b⟩ = true := pieces_ok n b h _ (by rw [e]; simp)
    rw [e]
    have : lay1 f ⟨n, b⟩ = over f n b := lay1_ok hx' rfl
    exact ⟨this, this⟩
termination_by b.length
decreasing_by all_goals (rw [List.length_drop]; omega)

/-- What all pieces of some bytes make. -/
def written (f : List UInt8) (n : Nat) (b : List UInt8) : List UInt8 := if b.length = 0 then f else over f n b
theorem lay_written (f : List UInt8) (n : Nat) (b : List UInt8) (h : n + b.length ≤ 65536) : lay f (pieces n b) = written f n b ∧ lay f (pieces n b).reverse = written f n b := by
  unfold written
  split
  · next h0 => rw [List.eq_nil_of_length_eq_zero h0, pieces_nil]; exact ⟨rfl, rfl⟩
  · exact lay_pieces f n b (by omega) h

theorem rev_next {l : List P} {k : Nat} (hk : k < l.length) : (l.drop (k + 1)).reverse ++ [l[k]] = (l.drop k).reverse := by
  rw [List.drop_eq_getElem_cons hk, List.reverse_cons]
end BlockM
