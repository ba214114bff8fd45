/-
  Feeds and episodes as rows of values (layer 14): which are right, what row each has, and back. Mathematics alone.
-/
import Derived.Test.YtahocamjihhjhaaCodeMath
namespace Go.Proofs.Ytahocamjihhjhaa.RowsM
open CodeM

/-- A feed. -/
structure F where
  id : Int
  url : ByteArray
  tag : ByteArray
  next : Int
  fails : Int

/-- An episode. -/
structure X where
  id : Int
  feed : Int
  guid : ByteArray
  url : ByteArray
  title : ByteArray
  date : Int
  long : Int
  st : Int
  why : Int
  pin : Bool
  pos : Int
  tries : Int
  next : Int
  cur : ByteArray
  hops : Int
  gen : Int
  tag : ByteArray
  total : Int
  size : Int
  sha : ByteArray

def zF : F := ⟨0, ⟨#[]⟩, ⟨#[]⟩, 0, 0⟩
def zX : X := ⟨0, 0, ⟨#[]⟩, ⟨#[]⟩, ⟨#[]⟩, 0, 0, 0, 0, false, 0, 0, 0, ⟨#[]⟩, 0, 0, ⟨#[]⟩, 0, 0, ⟨#[]⟩⟩

def cnt (least n : Int) : Bool := decide (least ≤ n) && decide (n ≤ 1048576)
def siz (n : Int) : Bool := decide (0 ≤ n) && decide (n ≤ 1099511627776)
def unk (n : Int) : Bool := n == -1 || siz n
def txt (s : ByteArray) : Bool := decide (s.size ≤ 200)
def nam (s : ByteArray) : Bool := decide (1 ≤ s.size) && txt s
def hexB (c : UInt8) : Bool := (decide (48 ≤ c.toNat) && decide (c.toNat ≤ 57)) || (decide (97 ≤ c.toNat) && decide (c.toNat ≤ 102))
/-- The first k bytes are digits. -/
def hexTo (s : ByteArray) (k : Nat) : Bool := (s.data.toList.take k).all hexB
def hashOk (s : ByteArray) : Bool := s.size == 64 && hexTo s s.size

def fOk (f : F) : Bool := cnt 1 f.id && (nam f.url && (txt f.tag && (siz f.next && cnt 0 f.fails)))
def unp (x : X) : Bool := x.size == 0 && x.sha.size == 0
def stOk (x : X) : Bool :=
  if x.st = 1 ∨ x.st = 2 ∨ x.st = 5 then x.why == 0 && unp x
  else if x.st = 3 then x.why == 0 && hashOk x.sha
  else if x.st = 4 then decide (1 ≤ x.why) && (decide (x.why ≤ 4) && unp x)
  else false
def numOk (x : X) : Bool :=
  cnt 1 x.id && (cnt 1 x.feed && (cnt 0 x.tries && (cnt 0 x.gen && (siz x.next && (siz x.pos && (unk x.long && (unk x.total &&
  (decide (-1099511627776 ≤ x.date) && (decide (x.date ≤ 1099511627776) && (decide (0 ≤ x.size) && (decide (x.size ≤ 65536) && (decide (0 ≤ x.hops) && decide (x.hops ≤ 3)))))))))))))
def txtOk (x : X) : Bool := nam x.guid && (nam x.url && (txt x.title && (txt x.tag && txt x.cur)))
def xOk (x : X) : Bool := numOk x && (txtOk x && stOk x)

def nv (n : Int) : V := ⟨1, n, ⟨#[]⟩⟩
def tv (s : ByteArray) : V := ⟨2, 0, s⟩
def bit (b : Bool) : Int := if b then 1 else 0
def fRow (f : F) : List V := [tv ⟨#[102, 101, 101, 100]⟩, nv f.id, tv f.url, tv f.tag, nv f.next, nv f.fails]
def xRow (x : X) : List V := [tv ⟨#[101, 112]⟩, nv x.id, nv x.feed, tv x.guid, tv x.url, tv x.title, nv x.date, nv x.long, nv x.st, nv x.why, nv (bit x.pin),
  nv x.pos, nv x.tries, nv x.next, tv x.cur, nv x.hops, nv x.gen, tv x.tag, nv x.total, nv x.size, tv x.sha]

def fOf : List V → F
  | [_, a, b, c, d, e] => ⟨a.n, b.t, c.t, d.n, e.n⟩
  | _ => zF
def xOf : List V → X
  | [_, a1, a2, a3, a4, a5, a6, a7, a8, a9, a10, a11, a12, a13, a14, a15, a16, a17, a18, a19, a20] =>
    ⟨a1.n, a2.n, a3.t, a4.t, a5.t, a6.n, a7.n, a8.n, a9.n, a10.n == 1, a11.n, a12.n, a13.n, a14.t, a15.n, a16.n, a17.t, a18.n, a19.n, a20.t⟩
  | _ => zX

theorem v_eq {a b : V} : a = b ↔ a.k = b.k ∧ a.n = b.n ∧ a.t = b.t := by cases a; cases b; simp
instance : DecidableEq V := fun _ _ => decidable_of_iff _ v_eq.symm

theorem list6 {α : Type} (l : List α) (h : l.length = 6) : ∃ a0 a1 a2 a3 a4 a5, l = [a0, a1, a2, a3, a4, a5] := by
  match l, h with
  | [a0, a1, a2, a3, a4, a5], _ => exact ⟨a0, a1, a2, a3, a4, a5, rfl⟩
theorem list21 {α : Type} (l : List α) (h : l.length = 21) : ∃ a0 a1 a2 a3 a4 a5 a6 a7 a8 a9 a10 a11 a12 a13 a14 a15 a16 a17 a18 a19 a20, l = [a0, a1, a2, a3, a4, a5, a6, a7, a8, a9, a10, a11, a12, a13, a14, a15, a16, a17, a18, a19, a20] := by
  match l, h with
  | [a0, a1, a2, a3, a4, a5, a6, a7, a8, a9, a10, a11, a12, a13, a14, a15, a16, a17, a18, a19, a20], _ => exact ⟨a0, a1, a2, a3, a4, a5, a6, a7, a8, a9, a10, a11, a12, a13, a14, a15, a16, a17, a18, a19, a20, rfl⟩

theorem fOf_else {l : List V} (h : l.length ≠ 6) : fOf l = zF := by
  unfold fOf
  split
  · simp at h
  · rfl
theorem xOf_else {l : List V} (h : l.length ≠ 21) : xOf l = zX := by
  unfold xOf
  split
  · simp at h
  · rfl

theorem fOf_row (f : F) : fOf (fRow f) = f := rfl
theorem bit_one (b : Bool) : (bit b == 1) = b := by cases b <;> rfl
theorem xOf_row (x : X) : xOf (xRow x) = x := by
  show (⟨x.id, x.feed, x.guid, x.url, x.title, x.date, x.long, x.st, x.why, bit x.pin == 1, x.pos, x.tries, x.next, x.cur, x.hops, x.gen, x.tag, x.total, x.size, x.sha⟩ : X) = x
  rw [bit_one]

/-- The feed of a row, or the error. -/
def takeF (l : List V) : F × Int := if fOk (fOf l) = true ∧ fRow (fOf l) = l then (fOf l, 0) else (zF, 12)
def takeX (l : List V) : X × Int := if xOk (xOf l) = true ∧ xRow (xOf l) = l then (xOf l, 0) else (zX, 12)

theorem takeF_row {f : F} (h : fOk f = true) : takeF (fRow f) = (f, 0) := by
  unfold takeF
  rw [fOf_row, if_pos ⟨h, rfl⟩]
theorem takeX_row {x : X} (h : xOk x = true) : takeX (xRow x) = (x, 0) := by
  unfold takeX
  rw [xOf_row, if_pos ⟨h, rfl⟩]
theorem takeF_back {l : List V} (h : (takeF l).2 = 0) : fOk (takeF l).1 = true ∧ fRow (takeF l).1 = l := by
  unfold takeF at h ⊢
  split
  · rename_i hc; exact hc
  · rename_i hc; rw [if_neg hc] at h; simp at h
theorem takeX_back {l : List V} (h : (takeX l).2 = 0) : xOk (takeX l).1 = true ∧ xRow (takeX l).1 = l := by
  unfold takeX at h ⊢
  split
  · rename_i hc; exact hc
  · rename_i hc; rw [if_neg hc] at h; simp at h

/-- The reference's way: numbers that are small, or -7. -/
def i20 (n : Int) : Int := if n < 0 ∨ 1048576 < n then -7 else n
theorem i20_or (n : Int) : i20 n = n ∨ (i20 n = -7 ∧ (n < 0 ∨ 1048576 < n)) := by
  unfold i20
  split
  · right; exact ⟨rfl, by assumption⟩
  · left; rfl
def fOf2 (f : F) : F := { f with id := i20 f.id, fails := i20 f.fails }
def xOf2 (x : X) : X := { x with id := i20 x.id, feed := i20 x.feed, st := i20 x.st, why := i20 x.why, tries := i20 x.tries, hops := i20 x.hops, gen := i20 x.gen }

theorem cnt_iff {a n : Int} : cnt a n = true ↔ a ≤ n ∧ n ≤ 1048576 := by simp [cnt]
theorem i20_cnt {a n : Int} (ha : 0 ≤ a) (h : cnt a n = true ∨ cnt a (i20 n) = true) : i20 n = n := by
  rw [cnt_iff, cnt_iff] at h
  rcases i20_or n with h1 | ⟨h1, h2⟩
  · exact h1
  · rw [h1] at h; omega
theorem fOf2_same {f : F} (h : fOk f = true ∨ fOk (fOf2 f) = true) : fOf2 f = f := by
  simp only [fOk, Bool.and_eq_true, fOf2] at h
  have h1 : i20 f.id = f.id := i20_cnt (a := 1) (by omega) (by rcases h with h | h <;> simp [h.1])
  have h2 : i20 f.fails = f.fails := i20_cnt (a := 0) (by omega) (by rcases h with h | h <;> simp [h.2.2.2.2])
  unfold fOf2
  rw [h1, h2]
theorem st_range {x : X} (h : stOk x = true) : 1 ≤ x.st ∧ x.st ≤ 5 ∧ 0 ≤ x.why ∧ x.why ≤ 4 := by
  unfold stOk at h
  split at h
  · simp at h; omega
  · split at h
    · simp at h; omega
    · split at h
      · simp at h; omega
      · cases h
theorem xOk_parts {x : X} (h : xOk x = true) : cnt 1 x.id = true ∧ cnt 1 x.feed = true ∧ cnt 0 x.tries = true ∧ cnt 0 x.gen = true ∧ 0 ≤ x.hops ∧ x.hops ≤ 3 ∧ stOk x = true := by
  simp only [xOk, numOk, Bool.and_eq_true, decide_eq_true_eq] at h
  obtain ⟨⟨h1, h2, h3, h4, _, _, _, _, _, _, _, _, h5, h6⟩, _, h7⟩ := h
  exact ⟨h1, h2, h3, h4, h5, h6, h7⟩
theorem i20_in {lo hi n : Int} (h0 : 0 ≤ lo) (h1 : hi ≤ 1048576) (h : (lo ≤ n ∧ n ≤ hi) ∨ (lo ≤ i20 n ∧ i20 n ≤ hi)) : i20 n = n := by
  rcases i20_or n with e | ⟨e, h2⟩
  · exact e
  · rw [e] at h; omega
theorem xOf2_same {x : X} (h : xOk x = true ∨ xOk (xOf2 x) = true) : xOf2 x = x := by
  have h1 : i20 x.id = x.id := i20_cnt (a := 1) (by omega) (h.imp (fun h => (xOk_parts h).1) (fun h => (xOk_parts h).1))
  have h2 : i20 x.feed = x.feed := i20_cnt (a := 1) (by omega) (h.imp (fun h => (xOk_parts h).2.1) (fun h => (xOk_parts h).2.1))
  have h3 : i20 x.tries = x.tries := i20_cnt (a := 0) (by omega) (h.imp (fun h => (xOk_parts h).2.2.1) (fun h => (xOk_parts h).2.2.1))
  have h4 : i20 x.gen = x.gen := i20_cnt (a := 0) (by omega) (h.imp (fun h => (xOk_parts h).2.2.2.1) (fun h => (xOk_parts h).2.2.2.1))
  have h5 : i20 x.hops = x.hops := i20_in (lo := 0) (hi := 3) (by omega) (by omega) (h.imp (fun h => ⟨(xOk_parts h).2.2.2.2.1, (xOk_parts h).2.2.2.2.2.1⟩) (fun h => ⟨(xOk_parts h).2.2.2.2.1, (xOk_parts h).2.2.2.2.2.1⟩))
  have hs : ∀ {y : X}, xOk y = true → 1 ≤ y.st ∧ y.st ≤ 5 ∧ 0 ≤ y.why ∧ y.why ≤ 4 := fun h => st_range (xOk_parts h).2.2.2.2.2.2
  have h6 : i20 x.st = x.st := i20_in (lo := 1) (hi := 5) (by omega) (by omega) (h.imp (fun h => ⟨(hs h).1, (hs h).2.1⟩) (fun h => ⟨(hs h).1, (hs h).2.1⟩))
  have h7 : i20 x.why = x.why := i20_in (lo := 0) (hi := 4) (by omega) (by omega) (h.imp (fun h => (hs h).2.2) (fun h => (hs h).2.2))
  unfold xOf2
  rw [h1, h2, h3, h4, h5, h6, h7]

/-- What the reference takes is what the code takes. -/
theorem take2F (l : List V) : (if fOk (fOf2 (fOf l)) = true ∧ fRow (fOf2 (fOf l)) = l then (fOf2 (fOf l), (0 : Int)) else (zF, 12)) = takeF l := by
  unfold takeF
  by_cases h1 : fOk (fOf l) = true ∨ fOk (fOf2 (fOf l)) = true
  · rw [fOf2_same h1]
  · rw [if_neg (fun h => h1 (.inr h.1)), if_neg (fun h => h1 (.inl h.1))]
theorem take2X (l : List V) : (if xOk (xOf2 (xOf l)) = true ∧ xRow (xOf2 (xOf l)) = l then (xOf2 (xOf l), (0 : Int)) else (zX, 12)) = takeX l := by
  unfold takeX
  by_cases h1 : xOk (xOf l) = true ∨ xOk (xOf2 (xOf l)) = true
  · rw [xOf2_same h1]
  · rw [if_neg (fun h => h1 (.inr h.1)), if_neg (fun h => h1 (.inl h.1))]
theorem fRow_len (f : F) : (fRow f).length = 6 := rfl
theorem xRow_len (x : X) : (xRow x).length = 21 := rfl
theorem takeF_else {l : List V} (h : l.length ≠ 6) : takeF l = (zF, 12) := by
  unfold takeF
  rw [if_neg]
  rintro ⟨_, h2⟩
  exact h (by rw [← h2]; rfl)
theorem takeX_else {l : List V} (h : l.length ≠ 21) : takeX l = (zX, 12) := by
  unfold takeX
  rw [if_neg]
  rintro ⟨_, h2⟩
  exact h (by rw [← h2]; rfl)

/-! Digits, place by place. -/
theorem hexTo_zero (s : ByteArray) : hexTo s 0 = true := by simp [hexTo]
theorem hexTo_next {s : ByteArray} {k : Nat} (h : hexTo s k = true) (hk : k < s.size) (hb : hexB s[k] = true) : hexTo s (k + 1) = true := by
  have hk' : k < s.data.toList.length := by rw [StrM.length_bytes]; exact hk
  unfold hexTo at h ⊢
  rw [List.take_succ_eq_append_getElem hk', List.all_append, h]
  have e : s.data.toList[k] = s[k] := rfl
  simp [e, hb]
theorem hexTo_bad {s : ByteArray} {k : Nat} (hk : k < s.size) (hb : hexB s[k] = false) : hexTo s s.size = false := by
  have hk' : k < s.data.toList.length := by rw [StrM.length_bytes]; exact hk
  unfold hexTo
  rw [List.take_of_length_le (by rw [StrM.length_bytes]; exact Nat.le_refl _)]
  rw [List.all_eq_false]
  exact ⟨s.data.toList[k], List.getElem_mem hk', by rw [show s.data.toList[k] = s[k] from rfl, hb]; simp⟩
theorem hash_bad {s : ByteArray} {k : Nat} (hk : k < s.size) (hb : hexB s[k] = false) : hashOk s = false := by
  rw [hashOk, hexTo_bad hk hb]; simp
theorem hash_good {s : ByteArray} (h : hexTo s s.size = true) : hashOk s = (s.size == 64) := by
  rw [hashOk, h]; simp
theorem hexB_cases (c : UInt8) : ∃ z : Int, z = (c.toNat : Int) ∧
    ((hexB c = true ∧ 48 ≤ z ∧ z ≤ 57) ∨ (hexB c = false ∧ z < 48) ∨ (hexB c = false ∧ 48 ≤ z ∧ 57 < z ∧ z < 97) ∨ (hexB c = true ∧ 48 ≤ z ∧ 57 < z ∧ 97 ≤ z ∧ z ≤ 102) ∨ (hexB c = false ∧ 48 ≤ z ∧ 57 < z ∧ 97 ≤ z ∧ 102 < z)) := by
  refine ⟨_, rfl, ?_⟩
  unfold hexB
  simp
  omega
end Go.Proofs.Ytahocamjihhjhaa.RowsM
