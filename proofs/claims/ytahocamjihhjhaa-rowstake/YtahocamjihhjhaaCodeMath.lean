/-
  Rows of values as bytes (layer 7): what is right, what is put, what is taken, and that the two turn each other back. Mathematics alone.
-/
import Derived.Test.YtahocamjihhjhaaVaryMath
import Derived.Test.YtahocamjihhjhaaStrMath
namespace Go.Proofs.Ytahocamjihhjhaa.CodeM
open VaryM

/-- A value: its kind, its number, its text. -/
structure V where
  k : Int
  n : Int
  t : ByteArray

def zero : V := ⟨0, 0, ⟨#[]⟩⟩
def ok (v : V) : Bool := (v.k == 1 && v.t.size == 0) || (v.k == 2 && (v.n == 0 && decide (v.t.size ≤ 4096)))
def right (l : List V) : Bool := decide (l.length ≤ 1000) && l.all ok
/-- The fields of a value that is of Go's types. -/
def Fits (v : V) : Prop := -9223372036854775808 ≤ v.n ∧ v.n ≤ 9223372036854775807

def enc (v : V) : List UInt8 := if v.k = 1 then 1 :: putL (zig v.n).toNat else 2 :: (putL v.t.size ++ v.t.data.toList)
def encs : List V → List UInt8
  | [] => []
  | v :: l => enc v ++ encs l
def put (l : List V) : List UInt8 := putL l.length ++ encs l

theorem encs_add (a b : List V) : encs (a ++ b) = encs a ++ encs b := by
  induction a with
  | nil => rfl
  | cons v a ih => simp [encs, ih]
theorem encs_one (v : V) : encs [v] = enc v := by simp [encs]
theorem enc_num {v : V} (h : v.k = 1) : enc v = 1 :: putL (zig v.n).toNat := by simp [enc, h]
theorem enc_text {v : V} (h : v.k ≠ 1) : enc v = 2 :: (putL v.t.size ++ v.t.data.toList) := by simp [enc, h]

theorem enc_len {v : V} (hf : Fits v) (h : ok v = true) : (enc v).length ≤ 4200 := by
  unfold enc
  split
  · have := putL_ten (n := (zig v.n).toNat) (by have := zig_range hf.1 hf.2; omega)
    simp; omega
  · rename_i hk
    simp [ok, hk] at h
    have := putL_ten (n := v.t.size) (by omega)
    have := StrM.length_bytes v.t
    simp only [List.length_cons, List.length_append]
    omega
theorem encs_len : ∀ {l : List V}, (∀ v ∈ l, Fits v) → l.all ok = true → (encs l).length ≤ 4200 * l.length
  | [], _, _ => by simp [encs]
  | v :: l, hf, h => by
    simp at h
    have h1 := enc_len (hf v (by simp)) h.1
    have h2 := encs_len (l := l) (fun u hu => hf u (by simp [hu])) (by simpa using h.2)
    simp only [encs, List.length_append, List.length_cons]
    omega

/-- The value that bytes begin with: it, how many bytes, the error. -/
def takeV : List UInt8 → V × Nat × Nat
  | [] => (zero, 0, 11)
  | c :: r =>
    if c.toNat ≠ 1 ∧ c.toNat ≠ 2 then (zero, 0, 16)
    else if (takeL r).2.2 ≠ 0 then (zero, 0, (takeL r).2.2)
    else if c.toNat = 1 then (⟨1, zag ((takeL r).1 : Int), ⟨#[]⟩⟩, 1 + (takeL r).2.1, 0)
    else if 4096 < (takeL r).1 then (zero, 0, 4)
    else if r.length - (takeL r).2.1 < (takeL r).1 then (zero, 0, 11)
    else (⟨2, 0, ⟨((r.drop (takeL r).2.1).take (takeL r).1).toArray⟩⟩, 1 + (takeL r).2.1 + (takeL r).1, 0)

theorem takeV_kind {c : UInt8} {r : List UInt8} (h1 : c.toNat ≠ 1) (h2 : c.toNat ≠ 2) : takeV (c :: r) = (zero, 0, 16) := by simp [takeV, h1, h2]
theorem takeV_err {c : UInt8} {r : List UInt8} (h1 : c.toNat = 1 ∨ c.toNat = 2) {u x e : Nat} (ht : takeL r = (u, x, e)) (he : e ≠ 0) : takeV (c :: r) = (zero, 0, e) := by
  rw [takeV, if_neg (by omega), ht]; simp [he]
theorem takeV_num {c : UInt8} {r : List UInt8} (h1 : c.toNat = 1) {u x : Nat} (ht : takeL r = (u, x, 0)) : takeV (c :: r) = (⟨1, zag (u : Int), ⟨#[]⟩⟩, 1 + x, 0) := by
  rw [takeV, if_neg (by omega), ht]; simp [h1]
theorem takeV_long {c : UInt8} {r : List UInt8} (h1 : c.toNat = 2) {u x : Nat} (ht : takeL r = (u, x, 0)) (hu : 4096 < u) : takeV (c :: r) = (zero, 0, 4) := by
  rw [takeV, if_neg (by omega), ht]; simp [h1, hu]
theorem takeV_short {c : UInt8} {r : List UInt8} (h1 : c.toNat = 2) {u x : Nat} (ht : takeL r = (u, x, 0)) (hu : ¬ 4096 < u) (hs : r.length - x < u) : takeV (c :: r) = (zero, 0, 11) := by
  rw [takeV, if_neg (by omega), ht]; simp only [h1]; simp [hu, hs]
theorem takeV_text {c : UInt8} {r : List UInt8} (h1 : c.toNat = 2) {u x : Nat} (ht : takeL r = (u, x, 0)) (hu : ¬ 4096 < u) (hs : ¬ r.length - x < u) : takeV (c :: r) = (⟨2, 0, ⟨((r.drop x).take u).toArray⟩⟩, 1 + x + u, 0) := by
  rw [takeV, if_neg (by omega), ht]; simp only [h1]; simp [hu, hs]

/-- What is taken is right, and, put, is these bytes. -/
theorem takeV_back {b : List UInt8} {v : V} {x : Nat} (h : takeV b = (v, x, 0)) : ok v = true ∧ Fits v ∧ 1 ≤ x ∧ x ≤ b.length ∧ enc v = b.take x := by
  cases b with
  | nil => simp [takeV] at h
  | cons c r =>
    rcases ht : takeL r with ⟨u, k, e⟩
    have hu := takeL_lt r
    rw [ht] at hu
    by_cases hk : c.toNat ≠ 1 ∧ c.toNat ≠ 2
    · rw [takeV_kind hk.1 hk.2] at h; simp at h
    · have hk' : c.toNat = 1 ∨ c.toNat = 2 := by omega
      by_cases he : e = 0
      · subst he
        obtain ⟨hx1, hxl, hput⟩ := take_back ht
        rcases hk' with h1 | h2
        · rw [takeV_num h1 ht] at h
          simp only [Prod.mk.injEq, and_true] at h
          obtain ⟨rfl, rfl⟩ := h
          have hz := zag_range (u := (u : Int)) (by omega) (by simp at hu; omega)
          refine ⟨by simp [ok, ByteArray.size], hz, by omega, by simp; omega, ?_⟩
          rw [enc_num rfl, Nat.add_comm 1 k, List.take_succ_cons]
          simp only
          rw [zig_zag (by omega), Int.toNat_natCast, hput]
          congr 1
          apply UInt8.toNat_inj.1; rw [h1]; rfl
        · by_cases hl : 4096 < u
          · rw [takeV_long h2 ht hl] at h; simp at h
          · by_cases hs : r.length - k < u
            · rw [takeV_short h2 ht hl hs] at h; simp at h
            · rw [takeV_text h2 ht hl hs] at h
              simp only [Prod.mk.injEq, and_true] at h
              obtain ⟨rfl, rfl⟩ := h
              have hsz : (⟨((r.drop k).take u).toArray⟩ : ByteArray).size = u := by rw [StrM.size_mk]; simp; omega
              refine ⟨by simp [ok]; rw [hsz]; omega, ⟨show (-9223372036854775808 : Int) ≤ 0 by decide, show (0 : Int) ≤ 9223372036854775807 by decide⟩, by omega, by simp; omega, ?_⟩
              rw [enc_text (show (2 : Int) ≠ 1 by decide)]
              simp only
              rw [hsz, hput, show 1 + k + u = (k + u) + 1 by omega, List.take_succ_cons, List.take_add]
              congr 1
              apply UInt8.toNat_inj.1; rw [h2]; rfl
      · rw [takeV_err hk' ht he] at h
        simp only [Prod.mk.injEq] at h
        exact absurd h.2.2 he

/-- What is put is taken, whatever stands behind it. -/
theorem takeV_put {v : V} (h : ok v = true) (hf : Fits v) (b : List UInt8) : takeV (enc v ++ b) = (v, (enc v).length, 0) := by
  by_cases hk : v.k = 1
  · have hz := zig_range hf.1 hf.2
    simp [ok, hk] at h
    rw [enc_num hk, List.cons_append, takeV_num rfl (take_put (by omega) b), Int.toNat_of_nonneg hz.1, zag_zig]
    obtain ⟨k, n, ⟨t⟩⟩ := v
    have : t = #[] := congrArg ByteArray.data h
    subst this hk
    simp; omega
  · simp [ok, hk] at h
    obtain ⟨k, n, t⟩ := v
    obtain ⟨rfl, rfl, h⟩ : k = 2 ∧ n = 0 ∧ t.size ≤ 4096 := by simpa using h
    have hl := StrM.length_bytes t
    have ht := take_put (n := t.size) (by omega) (t.data.toList ++ b)
    rw [enc_text hk, List.cons_append]
    simp only [List.append_assoc]
    rw [takeV_text rfl ht (by omega) (by simp only [List.length_append]; omega)]
    simp only [List.length_cons, List.length_append, hl, Prod.mk.injEq, and_true]
    refine ⟨?_, by omega⟩
    rw [List.drop_left, List.take_append_of_le_length (by omega), List.take_of_length_le (by omega)]

/-- m values one behind the other: they, how many bytes, the error. -/
def takeN : Nat → List UInt8 → List V × Nat × Nat
  | 0, _ => ([], 0, 0)
  | m + 1, b =>
    if (takeV b).2.2 ≠ 0 then ([], 0, (takeV b).2.2)
    else if (takeN m (b.drop (takeV b).2.1)).2.2 ≠ 0 then ([], 0, (takeN m (b.drop (takeV b).2.1)).2.2)
    else ((takeV b).1 :: (takeN m (b.drop (takeV b).2.1)).1, (takeV b).2.1 + (takeN m (b.drop (takeV b).2.1)).2.1, 0)

theorem takeN_err {m : Nat} {b : List UInt8} {v : V} {x e : Nat} (h : takeV b = (v, x, e)) (he : e ≠ 0) : takeN (m + 1) b = ([], 0, e) := by simp [takeN, h, he]

/-- What has been gathered, and what is still to come. -/
def fin (acc : List V) (at_ : Nat) (t : List V × Nat × Nat) : List V × Nat × Nat := if t.2.2 ≠ 0 then ([], 0, t.2.2) else (acc ++ t.1, at_ + t.2.1, 0)
theorem fin_step {acc : List V} {at_ m : Nat} {b : List UInt8} {v : V} {x : Nat} (h : takeV b = (v, x, 0)) : fin acc at_ (takeN (m + 1) b) = fin (acc ++ [v]) (at_ + x) (takeN m (b.drop x)) := by
  rw [takeN, h]
  simp only [ne_eq, not_true, if_false, fin]
  by_cases he : (takeN m (b.drop x)).2.2 = 0
  · simp [he, Nat.add_assoc]
  · simp [he]
theorem fin_err {acc : List V} {at_ m : Nat} {b : List UInt8} {v : V} {x e : Nat} (h : takeV b = (v, x, e)) (he : e ≠ 0) : fin acc at_ (takeN (m + 1) b) = ([], 0, e) := by
  rw [takeN_err h he, fin]; simp [he]
theorem fin_zero (acc : List V) (at_ : Nat) (b : List UInt8) : fin acc at_ (takeN 0 b) = (acc, at_, 0) := by simp [takeN, fin]

/-- The row that bytes begin with. -/
def take (b : List UInt8) : List V × Nat × Nat :=
  if (takeL b).2.2 ≠ 0 then ([], 0, (takeL b).2.2)
  else if 1000 < (takeL b).1 then ([], 0, 4)
  else fin [] (takeL b).2.1 (takeN (takeL b).1 (b.drop (takeL b).2.1))

theorem take_err {b : List UInt8} {u x e : Nat} (h : takeL b = (u, x, e)) (he : e ≠ 0) : take b = ([], 0, e) := by simp [take, h, he]
theorem take_long {b : List UInt8} {u x : Nat} (h : takeL b = (u, x, 0)) (hu : 1000 < u) : take b = ([], 0, 4) := by simp [take, h, hu]
theorem take_go {b : List UInt8} {u x : Nat} (h : takeL b = (u, x, 0)) (hu : ¬ 1000 < u) : take b = fin [] x (takeN u (b.drop x)) := by simp [take, h, hu]

/-- Where the loop stands: i of u values are taken, from at_ on the others stand. -/
def At (b : List UInt8) (u i at_ : Nat) (acc : List V) : Prop := i ≤ u ∧ u ≤ 1000 ∧ at_ ≤ b.length ∧ acc.length = i ∧ take b = fin acc at_ (takeN (u - i) (b.drop at_))
theorem At.start {b : List UInt8} {u x : Nat} (h : takeL b = (u, x, 0)) (hu : ¬ 1000 < u) : At b u 0 x [] := ⟨by omega, by omega, (take_back h).2.1, rfl, by rw [take_go h hu]; rfl⟩
theorem At.next {b : List UInt8} {u i at_ x : Nat} {acc : List V} {v : V} (h : At b u i at_ acc) (hi : i < u) (hv : takeV (b.drop at_) = (v, x, 0)) : At b u (i + 1) (at_ + x) (acc ++ [v]) := by
  obtain ⟨h1, h2, h3, h4, h5⟩ := h
  have hb := (takeV_back hv).2.2.2.1
  rw [List.length_drop] at hb
  refine ⟨by omega, h2, by omega, by simp [h4], ?_⟩
  rw [h5, show u - i = (u - (i + 1)) + 1 by omega, fin_step hv, List.drop_drop]
theorem At.fail {b : List UInt8} {u i at_ x e : Nat} {acc : List V} {v : V} (h : At b u i at_ acc) (hi : i < u) (hv : takeV (b.drop at_) = (v, x, e)) (he : e ≠ 0) : take b = ([], 0, e) := by
  obtain ⟨h1, h2, h3, h4, h5⟩ := h
  rw [h5, show u - i = (u - (i + 1)) + 1 by omega, fin_err hv he]
theorem At.done {b : List UInt8} {u i at_ : Nat} {acc : List V} (h : At b u i at_ acc) (hi : ¬ i < u) : take b = (acc, at_, 0) := by
  obtain ⟨h1, h2, h3, h4, h5⟩ := h
  rw [h5, show u - i = 0 by omega, fin_zero]

theorem takeN_back : ∀ (m : Nat) {b : List UInt8} {l : List V} {x : Nat}, takeN m b = (l, x, 0) → l.length = m ∧ l.all ok = true ∧ (∀ v ∈ l, Fits v) ∧ x ≤ b.length ∧ encs l = b.take x := by
  intro m
  induction m with
  | zero => intro b l x h; simp [takeN] at h; obtain ⟨rfl, rfl⟩ := h; simp [encs]
  | succ m ih =>
    intro b l x h
    rcases hv : takeV b with ⟨v, y, e⟩
    by_cases he : e = 0
    · subst he
      rcases hn : takeN m (b.drop y) with ⟨l', x', e'⟩
      rw [takeN, hv] at h
      simp only [ne_eq, not_true, if_false, hn] at h
      by_cases he' : e' = 0
      · subst he'
        simp only [not_true, if_false, Prod.mk.injEq, and_true] at h
        obtain ⟨rfl, rfl⟩ := h
        obtain ⟨v1, v2, v3, v4, v5⟩ := takeV_back hv
        obtain ⟨n1, n2, n3, n4, n5⟩ := ih hn
        rw [List.length_drop] at n4
        refine ⟨by simp [n1], by rw [List.all_cons, v1, n2]; rfl, ?_, by omega, ?_⟩
        · intro u hu
          rcases List.mem_cons.1 hu with rfl | hu
          · exact v2
          · exact n3 u hu
        · rw [encs, v5, n5, ← List.take_add]
      · simp [he'] at h
    · rw [takeN_err hv he] at h
      simp only [Prod.mk.injEq] at h
      exact absurd h.2.2 he
theorem take_back {b : List UInt8} {l : List V} {x : Nat} (h : take b = (l, x, 0)) : right l = true ∧ (∀ v ∈ l, Fits v) ∧ x ≤ b.length ∧ put l = b.take x := by
  rcases ht : takeL b with ⟨u, k, e⟩
  by_cases he : e = 0
  · subst he
    by_cases hu : 1000 < u
    · rw [take_long ht hu] at h; simp at h
    · rw [take_go ht hu] at h
      rcases hn : takeN u (b.drop k) with ⟨l', x', e'⟩
      rw [hn] at h
      by_cases he' : e' = 0
      · subst he'
        simp only [fin, ne_eq, not_true, if_false, Prod.mk.injEq, and_true, List.nil_append] at h
        obtain ⟨rfl, rfl⟩ := h
        obtain ⟨n1, n2, n3, n4, n5⟩ := takeN_back u hn
        obtain ⟨k1, k2, k3⟩ := VaryM.take_back ht
        rw [List.length_drop] at n4
        refine ⟨by simp [right, n2]; omega, n3, by omega, ?_⟩
        rw [put, n1, k3, n5, ← List.take_add]
      · simp [fin, he'] at h
  · rw [take_err ht he] at h
    simp only [Prod.mk.injEq] at h
    exact absurd h.2.2 he
theorem take_zero {b : List UInt8} {l : List V} {x e : Nat} (h : take b = (l, x, e)) (he : e ≠ 0) : l = [] ∧ x = 0 := by
  rcases ht : takeL b with ⟨u, k, e1⟩
  by_cases he1 : e1 = 0
  · subst he1
    by_cases hu : 1000 < u
    · rw [take_long ht hu] at h; simp at h; exact ⟨h.1.symm ▸ rfl, h.2.1.symm⟩
    · rw [take_go ht hu, fin] at h
      split at h
      · simp only [Prod.mk.injEq] at h; exact ⟨h.1.symm, h.2.1.symm⟩
      · simp only [Prod.mk.injEq] at h; exact absurd h.2.2.symm he
  · rw [take_err ht he1] at h
    simp only [Prod.mk.injEq] at h; exact ⟨h.1.symm, h.2.1.symm⟩

theorem takeN_put : ∀ (l : List V) (b : List UInt8), l.all ok = true → (∀ v ∈ l, Fits v) → takeN l.length (encs l ++ b) = (l, (encs l).length, 0)
  | [], b, _, _ => by simp [takeN, encs]
  | v :: l, b, h, hf => by
    simp only [List.all_cons, Bool.and_eq_true] at h
    have h1 := takeV_put h.1 (hf v (by simp)) (encs l ++ b)
    have h2 := takeN_put l b h.2 (fun u hu => hf u (by simp [hu]))
    rw [encs, List.append_assoc, List.length_cons, takeN, h1]
    simp only [List.drop_left, h2]
    simp
theorem take_put {l : List V} (h : right l = true) (hf : ∀ v ∈ l, Fits v) (b : List UInt8) : take (put l ++ b) = (l, (put l).length, 0) := by
  simp only [right, Bool.and_eq_true, decide_eq_true_eq] at h
  rw [put, List.append_assoc, take_go (VaryM.take_put (by omega) _) (by omega), List.drop_left, takeN_put l b h.2 hf]
  simp [fin]
theorem put_len {l : List V} (h : right l = true) (hf : ∀ v ∈ l, Fits v) : (put l).length ≤ 5000000 := by
  simp only [right, Bool.and_eq_true, decide_eq_true_eq] at h
  have h1 := encs_len hf h.2
  have h2 := putL_ten (n := l.length) (by omega)
  simp only [put, List.length_append]
  omega
theorem takeV_errs {b : List UInt8} {v : V} {x e : Nat} (h : takeV b = (v, x, e)) : (e = 0 ∨ (v = zero ∧ x = 0 ∧ (e = 4 ∨ e = 11 ∨ e = 12 ∨ e = 16))) := by
  cases b with
  | nil => simp [takeV] at h; obtain ⟨rfl, rfl, rfl⟩ := h; simp
  | cons c r =>
    rcases ht : takeL r with ⟨u, k, e1⟩
    have hE := takeF_err r 0 0
    rw [show takeF r 0 0 = takeL r from rfl, ht] at hE
    by_cases hk : c.toNat ≠ 1 ∧ c.toNat ≠ 2
    · rw [takeV_kind hk.1 hk.2] at h; simp at h; obtain ⟨rfl, rfl, rfl⟩ := h; simp
    · have hk' : c.toNat = 1 ∨ c.toNat = 2 := by omega
      by_cases he : e1 = 0
      · subst he
        rcases hk' with h1 | h2
        · rw [takeV_num h1 ht] at h; simp at h; left; omega
        · by_cases hl : 4096 < u
          · rw [takeV_long h2 ht hl] at h; simp at h; obtain ⟨rfl, rfl, rfl⟩ := h; simp
          · by_cases hs : r.length - k < u
            · rw [takeV_short h2 ht hl hs] at h; simp at h; obtain ⟨rfl, rfl, rfl⟩ := h; simp
            · rw [takeV_text h2 ht hl hs] at h; simp at h; left; omega
      · rw [takeV_err hk' ht he] at h; simp at h; obtain ⟨rfl, rfl, rfl⟩ := h
        right; refine ⟨rfl, rfl, ?_⟩
        simp only at hE
        omega
end Go.Proofs.Ytahocamjihhjhaa.CodeM
