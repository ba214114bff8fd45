/-
  Layer 10's mathematics: names and their order, lists of entries, what is done to them, directories, crashes.
-/
import Derived.Lib.Bytealg
namespace DirM
open Go

/-! ### The order of names -/
def lt (a b : ByteArray) : Bool := Op.bytesLess a.toList b.toList

theorem less_irrefl : ∀ x : List UInt8, Op.bytesLess x x = false
  | [] => rfl
  | a :: x => by simp [Op.bytesLess, less_irrefl x]
theorem less_trans : ∀ x y z : List UInt8, Op.bytesLess x y = true → Op.bytesLess y z = true → Op.bytesLess x z = true
  | _, _, [], _, h => by simp [Op.bytesLess] at h
  | _, [], _ :: _, h, _ => by simp [Op.bytesLess] at h
  | [], _ :: _, _ :: _, _, _ => rfl
  | a :: x, b :: y, c :: z, h1, h2 => by
    have ih := less_trans x y z
    simp only [Op.bytesLess, Bool.or_eq_true, decide_eq_true_eq, Bool.and_eq_true, beq_iff_eq] at h1 h2 ⊢
    rcases h1 with h1 | ⟨rfl, h1⟩
    · rcases h2 with h2 | ⟨rfl, h2⟩
      · left; rw [UInt8.lt_iff_toNat_lt] at *; omega
      · left; exact h1
    · rcases h2 with h2 | ⟨rfl, h2⟩
      · left; exact h2
      · right; exact ⟨rfl, ih h1 h2⟩
theorem less_total : ∀ x y : List UInt8, x ≠ y → Op.bytesLess x y = false → Op.bytesLess y x = true
  | [], [], h, _ => absurd rfl h
  | [], _ :: _, _, h => by simp [Op.bytesLess] at h
  | _ :: _, [], _, _ => rfl
  | a :: x, b :: y, h1, h2 => by
    have ih := less_total x y
    simp only [Op.bytesLess, Bool.or_eq_false_iff, decide_eq_false_iff_not, Bool.and_eq_false_iff, beq_eq_false_iff_ne, Bool.or_eq_true, decide_eq_true_eq, Bool.and_eq_true, beq_iff_eq] at h2 ⊢
    by_cases hab : a = b
    · subst hab
      right
      refine ⟨rfl, ih (fun e => h1 (by rw [e])) ?_⟩
      rcases h2.2 with h | h
      · exact absurd rfl h
      · exact h
    · left
      have h := h2.1
      have hne : a.toNat ≠ b.toNat := fun e => hab (UInt8.toNat_inj.1 e)
      rw [UInt8.lt_iff_toNat_lt] at *; omega
theorem comp_less : ∀ x y : List UInt8, (Lib.compareBytes x y < 0 ↔ Op.bytesLess x y = true) ∧ (Lib.compareBytes x y = 0 ↔ x = y)
  | [], [] => by simp [Lib.compareBytes, Op.bytesLess]
  | [], _ :: _ => by simp [Lib.compareBytes, Op.bytesLess]
  | _ :: _, [] => by simp [Lib.compareBytes, Op.bytesLess]
  | a :: x, b :: y => by
    have ih := comp_less x y
    unfold Lib.compareBytes
    by_cases h1 : a < b
    · have hne : a ≠ b := by rintro rfl; rw [UInt8.lt_iff_toNat_lt] at h1; omega
      simp [Op.bytesLess, h1, hne]
    · by_cases h2 : b < a
      · have hne : a ≠ b := by rintro rfl; exact h1 h2
        simp [Op.bytesLess, h1, h2, hne]
      · have hab : a = b := by
          rw [UInt8.lt_iff_toNat_lt] at h1 h2
          exact UInt8.toNat_inj.1 (by omega)
        subst hab
        simp [Op.bytesLess, h1, ih]

theorem list_eq {a b : ByteArray} : a.toList = b.toList ↔ a = b := by
  constructor
  · intro h
    rw [Lib.toList_data, Lib.toList_data] at h
    cases a; cases b
    simpa using h
  · rintro rfl; rfl
theorem data_eq {a b : ByteArray} : a.data.toList = b.data.toList ↔ a = b := by rw [← Lib.toList_data, ← Lib.toList_data]; exact list_eq
theorem lt_irrefl (a : ByteArray) : lt a a = false := less_irrefl _
theorem lt_trans {a b c : ByteArray} (h1 : lt a b = true) (h2 : lt b c = true) : lt a c = true := less_trans _ _ _ h1 h2
theorem lt_total {a b : ByteArray} (h1 : a ≠ b) (h2 : lt a b = false) : lt b a = true := less_total _ _ (fun h => h1 (list_eq.1 h)) h2
theorem lt_asymm {a b : ByteArray} (h : lt a b = true) : lt b a = false := by
  cases h' : lt b a with
  | false => rfl
  | true => have := lt_trans h h'; rw [lt_irrefl] at this; cases this
theorem lt_ne {a b : ByteArray} (h : lt a b = true) : a ≠ b := by
  rintro rfl; rw [lt_irrefl] at h; cases h
/-- What strings.Compare returns. -/
def cmp (a b : ByteArray) : Int := Lib.compareBytes a.data.toList b.data.toList
theorem cmp_neg (a b : ByteArray) : cmp a b < 0 ↔ lt a b = true := by unfold cmp lt; rw [Lib.toList_data, Lib.toList_data]; exact (comp_less _ _).1
theorem cmp_zero (a b : ByteArray) : cmp a b = 0 ↔ a = b := by unfold cmp; rw [(comp_less _ _).2]; exact data_eq

/-! ### Names -/
def okB (c : UInt8) : Bool := (decide (97 ≤ c.toNat) && decide (c.toNat ≤ 122)) || (decide (48 ≤ c.toNat) && decide (c.toNat ≤ 57)) || decide (c.toNat = 46)
def allOk (s : ByteArray) (k : Nat) : Bool := (s.data.toList.take k).all okB
def nameOk (s : ByteArray) : Bool := allOk s s.size && (decide (1 ≤ s.size) && decide (s.size ≤ 24))
theorem allOk_zero (s : ByteArray) : allOk s 0 = true := by simp [allOk]
theorem allOk_next {s : ByteArray} {k : Nat} (hk : k < s.size) (h : allOk s k = true) : allOk s (k + 1) = okB s[k] := by
  have hl : k < s.data.toList.length := by simpa using hk
  unfold allOk at *
  rw [List.take_succ_eq_append_getElem hl, List.all_append, h]
  simp; rfl
theorem allOk_bad {s : ByteArray} {k : Nat} (hk : k < s.size) (h : okB s[k] = false) : allOk s s.size = false := by
  have hl : k < s.data.toList.length := by simpa using hk
  unfold allOk
  rw [List.all_eq_false]
  refine ⟨s.data.toList[k], ?_, by rw [show s.data.toList[k] = s[k] from by simp; rfl, h]; decide⟩
  rw [List.take_of_length_le (by simp)]
  exact List.getElem_mem hl
theorem name_short {s : ByteArray} (h : s.size < 1) : nameOk s = false := by unfold nameOk; simp; omega
theorem name_long {s : ByteArray} (h : 24 < s.size) : nameOk s = false := by unfold nameOk; simp; omega
theorem name_bad {s : ByteArray} {k : Nat} (hk : k < s.size) (h : okB s[k] = false) : nameOk s = false := by unfold nameOk; rw [allOk_bad hk h]; rfl
theorem name_good {s : ByteArray} (h : allOk s s.size = true) : nameOk s = (decide (1 ≤ s.size) && decide (s.size ≤ 24)) := by unfold nameOk; rw [h]; rfl

/-! ### Entries -/
structure E where
  name : ByteArray
  node : Int
  deriving DecidableEq
structure O where
  kind : Int
  name : ByteArray
  dst : ByteArray
  node : Int
  deriving DecidableEq
structure D where
  now : List E
  sure : List E
  pend : List O
def zd : D := ⟨[], [], []⟩
instance : Inhabited E := ⟨⟨⟨#[]⟩, 0⟩⟩
instance : Inhabited O := ⟨⟨0, ⟨#[]⟩, ⟨#[]⟩, 0⟩⟩

def fnd : List E → ByteArray → Option (Nat × Int)
  | [], _ => none
  | x :: r, n => if x.name = n then some (0, x.node) else (fnd r n).map fun p => (p.1 + 1, p.2)
def has (l : List E) (n : ByteArray) : Bool := (fnd l n).isSome
def fv (l : List E) (n : ByteArray) : Int := ((fnd l n).map (·.2)).getD 0
def av (l : List E) (n : ByteArray) : Int := match fnd l n with | some p => (p.1 : Int) | none => -1

theorem fnd_at : ∀ (l : List E) (n : ByteArray) (k : Nat) (hk : k < l.length), (∀ j (hj : j < k), (l[j]'(by omega)).name ≠ n) → l[k].name = n → fnd l n = some (k, l[k].node)
  | x :: r, n, 0, _, _, h => by simp at h; simp [fnd, h]
  | x :: r, n, k + 1, hk, h0, h => by
    have hx : x.name ≠ n := h0 0 (by omega)
    have ih := fnd_at r n k (by simpa using hk) (fun j hj => h0 (j + 1) (by omega)) (by simpa using h)
    simp [fnd, hx, ih]
theorem fnd_none : ∀ (l : List E) (n : ByteArray), (∀ x ∈ l, x.name ≠ n) → fnd l n = none
  | [], _, _ => rfl
  | x :: r, n, h => by
    have hx : x.name ≠ n := h x (by simp)
    simp [fnd, hx, fnd_none r n fun y hy => h y (by simp [hy])]
theorem fnd_some : ∀ (l : List E) (n : ByteArray) (p : Nat × Int), fnd l n = some p → ∃ h : p.1 < l.length, l[p.1].name = n ∧ l[p.1].node = p.2
  | [], _, _, h => by simp [fnd] at h
  | x :: r, n, p, h => by
    unfold fnd at h
    by_cases hx : x.name = n
    · rw [if_pos hx] at h
      have := Option.some.inj h
      subst this
      exact ⟨by simp, by simpa using hx, rfl⟩
    · rw [if_neg hx] at h
      obtain ⟨q, hq, rfl⟩ := Option.map_eq_some_iff.1 h
      obtain ⟨h1, h2, h3⟩ := fnd_some r n q hq
      exact ⟨by simpa using h1, by simpa using h2, by simpa using h3⟩
theorem has_iff {l : List E} {n : ByteArray} : has l n = true ↔ ∃ x ∈ l, x.name = n := by
  constructor
  · intro h
    obtain ⟨p, hp⟩ := Option.isSome_iff_exists.1 h
    obtain ⟨h1, h2, _⟩ := fnd_some l n p hp
    exact ⟨_, List.getElem_mem h1, h2⟩
  · rintro ⟨x, hx, hn⟩
    cases h : has l n with
    | true => rfl
    | false =>
      exfalso
      have hnone : fnd l n = none := by unfold has at h; simpa using h
      clear h
      induction l with
      | nil => cases hx
      | cons y r ih =>
        unfold fnd at hnone
        by_cases hy : y.name = n
        · rw [if_pos hy] at hnone; cases hnone
        · rw [if_neg hy] at hnone
          rcases List.mem_cons.1 hx with rfl | hx
          · exact hy hn
          · exact ih hx (by simpa using hnone)
theorem has_false {l : List E} {n : ByteArray} : has l n = false ↔ ∀ x ∈ l, x.name ≠ n := by
  rw [← Bool.not_eq_true, has_iff]
  constructor
  · intro h x hx e; exact h ⟨x, hx, e⟩
  · rintro h ⟨x, hx, e⟩; exact h x hx e
theorem av_has {l : List E} {n : ByteArray} (h : has l n = true) : ∃ k : Nat, ∃ hk : k < l.length, av l n = (k : Int) ∧ l[k].node = fv l n ∧ l[k].name = n := by
  obtain ⟨p, hp⟩ := Option.isSome_iff_exists.1 h
  obtain ⟨h1, h2, h3⟩ := fnd_some l n p hp
  exact ⟨p.1, h1, by simp [av, hp], by simp [fv, hp, h3], h2⟩
theorem av_none {l : List E} {n : ByteArray} (h : has l n = false) : av l n = -1 ∧ fv l n = 0 := by
  have hnone : fnd l n = none := by unfold has at h; simpa using h
  simp [av, fv, hnone]
theorem av_nonneg {l : List E} {n : ByteArray} : decide (0 ≤ av l n) = has l n := by
  cases h : has l n with
  | true => obtain ⟨k, _, hk, _⟩ := av_has h; rw [hk]; simp
  | false => rw [(av_none h).1]; rfl

def wo (l : List E) (n : ByteArray) : List E := l.filter fun x => decide (x.name ≠ n)
def wi (x : E) : List E → List E
  | [] => [x]
  | y :: r => if lt x.name y.name = true then x :: y :: r else y :: wi x r
def err (l : List E) (o : O) : Int :=
  if o.kind = 1 then (if nameOk o.name = true then (if has l o.name = true then 6 else if 100 ≤ l.length then 7 else 0) else 1)
  else if o.kind = 2 then (if has l o.name = true then (if nameOk o.dst = true ∧ o.dst ≠ o.name then 0 else 1) else 5)
  else if o.kind = 3 then (if has l o.name = true then 0 else 5)
  else 16
def done (l : List E) (o : O) : List E :=
  if o.kind = 1 then wi ⟨o.name, o.node⟩ l
  else if o.kind = 2 then wi ⟨o.dst, fv l o.name⟩ (wo (wo l o.name) o.dst)
  else wo l o.name
def all : List E → List O → List E × Int
  | l, [] => (l, 0)
  | l, o :: r => if err l o = 0 then all (done l o) r else ([], err l o)

def Srt (l : List E) : Prop := l.Pairwise fun x y => lt x.name y.name = true
structure Ord (l : List E) : Prop where
  few : l.length ≤ 100
  names : ∀ x ∈ l, nameOk x.name = true
  srt : Srt l

theorem mem_wi {x z : E} : ∀ {l : List E}, z ∈ wi x l ↔ z = x ∨ z ∈ l
  | [] => by simp [wi]
  | y :: r => by
    unfold wi
    split
    · simp
    · rw [List.mem_cons, mem_wi (l := r), List.mem_cons]
      constructor
      · rintro (h | h | h) <;> simp [h]
      · rintro (h | h | h) <;> simp [h]
theorem len_wi (x : E) : ∀ l : List E, (wi x l).length = l.length + 1
  | [] => rfl
  | y :: r => by unfold wi; split <;> simp [len_wi x r]
theorem mem_wo {l : List E} {n : ByteArray} {z : E} : z ∈ wo l n ↔ z ∈ l ∧ z.name ≠ n := by simp [wo]
theorem len_wo (l : List E) (n : ByteArray) : (wo l n).length ≤ l.length := List.length_filter_le _ _
theorem len_wo_has {l : List E} {n : ByteArray} (h : has l n = true) : (wo l n).length < l.length := by
  obtain ⟨x, hx, hn⟩ := has_iff.1 h
  unfold wo
  rw [List.length_filter_lt_length_iff_exists]
  exact ⟨x, hx, by simp [hn]⟩
theorem wo_none {l : List E} {n : ByteArray} (h : has l n = false) : wo l n = l := by
  unfold wo
  rw [List.filter_eq_self]
  intro x hx
  simpa using has_false.1 h x hx
theorem has_wo (l : List E) (n : ByteArray) : has (wo l n) n = false := has_false.2 fun _ hx => (mem_wo.1 hx).2
theorem srt_wo {l : List E} (h : Srt l) (n : ByteArray) : Srt (wo l n) := List.Pairwise.filter _ h
theorem srt_wi {x : E} : ∀ {l : List E}, Srt l → has l x.name = false → Srt (wi x l)
  | [], _, _ => by simp [wi, Srt]
  | y :: r, h, hn => by
    have hy : ∀ z ∈ r, lt y.name z.name = true := fun z hz => List.rel_of_pairwise_cons h hz
    have hr : Srt r := List.Pairwise.of_cons h
    have hne := has_false.1 hn
    unfold wi
    split
    · next hlt =>
      refine List.Pairwise.cons (fun z hz => ?_) h
      rcases List.mem_cons.1 hz with rfl | hz
      · exact hlt
      · exact lt_trans hlt (hy z hz)
    · next hlt =>
      have hlt : lt x.name y.name = false := by simpa using hlt
      have hyx : lt y.name x.name = true := lt_total (fun e => hne y (by simp) e.symm) hlt
      refine List.Pairwise.cons (fun z hz => ?_) (srt_wi hr (has_false.2 fun z hz => hne z (by simp [hz])))
      rcases mem_wi.1 hz with rfl | hz
      · exact hyx
      · exact hy z hz

theorem err_kinds {l : List E} {o : O} (h : err l o = 0) : (o.kind = 1 ∧ nameOk o.name = true ∧ has l o.name = false ∧ l.length < 100) ∨ (o.kind = 2 ∧ has l o.name = true ∧ nameOk o.dst = true ∧ o.dst ≠ o.name) ∨ (o.kind = 3 ∧ has l o.name = true) := by
  unfold err at h
  split at h
  · next hk =>
    left
    split at h
    · next h1 =>
      split at h
      · cases h
      · next h2 =>
        split at h
        · cases h
        · exact ⟨hk, h1, by simpa using h2, by omega⟩
    · cases h
  · split at h
    · next hk =>
      right; left
      split at h
      · next h1 =>
        split at h
        · next h2 => exact ⟨hk, h1, h2.1, h2.2⟩
        · cases h
      · cases h
    · split at h
      · next hk =>
        right; right
        split at h
        · next h1 => exact ⟨hk, h1⟩
        · cases h
      · cases h

theorem ord_done {l : List E} {o : O} (h : Ord l) (he : err l o = 0) : Ord (done l o) := by
  rcases err_kinds he with ⟨hk, h1, h2, h3⟩ | ⟨hk, h1, h2, h3⟩ | ⟨hk, h1⟩
  · rw [done, if_pos hk]
    exact ⟨by rw [len_wi]; omega, fun x hx => by
      rcases mem_wi.1 hx with rfl | hx
      · exact h1
      · exact h.names x hx, srt_wi h.srt h2⟩
  · rw [done, if_neg (by omega), if_pos hk]
    refine ⟨?_, fun x hx => ?_, srt_wi (srt_wo (srt_wo h.srt _) _) (has_wo _ _)⟩
    · have a := len_wo_has h1
      have b := len_wo (wo l o.name) o.dst
      have c := h.few
      rw [len_wi]; omega
    · rcases mem_wi.1 hx with rfl | hx
      · exact h2
      · exact h.names x (mem_wo.1 (mem_wo.1 hx).1).1
  · rw [done, if_neg (by omega), if_neg (by omega)]
    exact ⟨Nat.le_trans (len_wo _ _) h.few, fun x hx => h.names x (mem_wo.1 hx).1, srt_wo h.srt _⟩

theorem all_app : ∀ (a : List O) (l : List E) (b : List O), all l (a ++ b) = if (all l a).2 = 0 then all (all l a).1 b else all l a
  | [], l, b => by simp [all]
  | o :: r, l, b => by
    have e : ∀ r', all l (o :: r') = if err l o = 0 then all (done l o) r' else ([], err l o) := fun _ => rfl
    rw [List.cons_append, e, e]
    by_cases h : err l o = 0
    · rw [if_pos h, if_pos h]; exact all_app r _ b
    · simp [h]
theorem all_ord : ∀ (os : List O) {l : List E}, Ord l → (all l os).2 = 0 → Ord (all l os).1
  | [], _, h, _ => h
  | o :: r, l, h, h0 => by
    unfold all at h0 ⊢
    by_cases he : err l o = 0
    · rw [if_pos he] at h0 ⊢; exact all_ord r (ord_done h he) h0
    · rw [if_neg he] at h0; exact absurd h0 he
/-- Of a list behind k operations. -/
theorem all_next {l cur : List E} {os : List O} {k : Nat} (hk : k < os.length) (h : all l (os.take k) = (cur, 0)) (he : err cur os[k] = 0) : all l (os.take (k + 1)) = (done cur os[k], 0) := by
  rw [List.take_succ_eq_append_getElem hk, all_app, h]
  simp [all, he]
theorem all_stop {l cur : List E} {os : List O} {k : Nat} (hk : k < os.length) (h : all l (os.take k) = (cur, 0)) (he : err cur os[k] ≠ 0) : all l os = ([], err cur os[k]) := by
  have e : os = os.take k ++ os[k] :: os.drop (k + 1) := by rw [← List.drop_eq_getElem_cons hk, List.take_append_drop]
  have h2 : all l (os.take k ++ os[k] :: os.drop (k + 1)) = ([], err cur os[k]) := by
    rw [all_app, h]
    simp [all, he]
  rw [← e] at h2
  exact h2

/-! ### Lists of entries that are valid -/
def gd (l : List E) (k : Nat) : Bool := match l[k]? with
  | none => true
  | some x => nameOk x.name && (match k with | 0 => true | j + 1 => (match l[j]? with | none => true | some y => lt y.name x.name))
def ordK (l : List E) (k : Nat) : Bool := (List.range k).all (gd l)
def ordL (l : List E) : Bool := decide (l.length ≤ 100) && ordK l l.length
theorem ordK_zero (l : List E) : ordK l 0 = true := rfl
theorem ordK_next {l : List E} {k : Nat} (h : ordK l k = true) : ordK l (k + 1) = gd l k := by
  unfold ordK at *
  rw [List.range_succ, List.all_append, h]; simp
theorem ordK_bad {l : List E} {k : Nat} (hk : k < l.length) (h : gd l k = false) : ordK l l.length = false := by
  unfold ordK
  rw [List.all_eq_false]
  exact ⟨k, by simpa using hk, by simp [h]⟩
theorem gd_zero {l : List E} (hk : 0 < l.length) : gd l 0 = nameOk l[0].name := by simp [gd, hk]
theorem gd_succ {l : List E} {j : Nat} (hk : j + 1 < l.length) : gd l (j + 1) = (nameOk l[j + 1].name && lt (l[j]'(by omega)).name l[j + 1].name) := by
  have : j < l.length := by omega
  simp [gd, hk, this]
theorem ordL_iff {l : List E} : ordL l = true ↔ Ord l := by
  constructor
  · intro h
    unfold ordL at h
    obtain ⟨h1, h2⟩ := Bool.and_eq_true_iff.1 h
    have h1 : l.length ≤ 100 := by simpa using h1
    have hg : ∀ k, k < l.length → gd l k = true := by
      intro k hk
      unfold ordK at h2
      rw [List.all_eq_true] at h2
      exact h2 k (by simpa using hk)
    refine ⟨h1, fun x hx => ?_, ?_⟩
    · obtain ⟨k, hk, rfl⟩ := List.mem_iff_getElem.1 hx
      have := hg k hk
      cases k with
      | zero => rwa [gd_zero hk] at this
      | succ j => rw [gd_succ hk] at this; exact (Bool.and_eq_true_iff.1 this).1
    · unfold Srt
      rw [List.pairwise_iff_getElem]
      have hs : ∀ j (hj : j + 1 < l.length), lt (l[j]'(by omega)).name l[j + 1].name = true := fun j hj => by
        have := hg (j + 1) hj
        rw [gd_succ hj] at this; exact (Bool.and_eq_true_iff.1 this).2
      have hd : ∀ d i (hi : i + d + 1 < l.length), lt (l[i]'(by omega)).name (l[i + d + 1]'hi).name = true := by
        intro d
        induction d with
        | zero => intro i hi; exact hs i hi
        | succ d ih => intro i hi; exact lt_trans (ih i (by omega)) (hs (i + d + 1) hi)
      intro i j hi hj hij
      obtain ⟨d, rfl⟩ : ∃ d, j = i + d + 1 := ⟨j - i - 1, by omega⟩
      exact hd d i hj
  · intro h
    unfold ordL
    rw [Bool.and_eq_true_iff]
    refine ⟨by simpa using h.few, ?_⟩
    unfold ordK
    rw [List.all_eq_true]
    intro k hk
    have hk : k < l.length := by simpa using hk
    cases k with
    | zero => rw [gd_zero hk]; exact h.names _ (List.getElem_mem hk)
    | succ j =>
      rw [gd_succ hk, Bool.and_eq_true_iff]
      exact ⟨h.names _ (List.getElem_mem hk), List.pairwise_iff_getElem.1 h.srt j (j + 1) (by omega) hk (by omega)⟩

/-! ### The place of a name -/
def Pl (l : List E) (n : ByteArray) (k : Nat) (b : Bool) : Prop :=
  k ≤ l.length ∧ (∀ x ∈ l.take k, lt x.name n = true) ∧ (∀ x ∈ l.drop k, lt x.name n = false) ∧ (b = true ↔ ∃ h : k < l.length, l[k].name = n)
theorem Pl.cut {l : List E} {k : Nat} (hk : k < l.length) : l = l.take k ++ l[k] :: l.drop (k + 1) := by rw [← List.drop_eq_getElem_cons hk, List.take_append_drop]
theorem Pl.upper {l : List E} {n : ByteArray} {k : Nat} {b : Bool} (hs : Srt l) (h : Pl l n k b) : ∀ x ∈ l.drop (k + 1), lt n x.name = true := by
  obtain ⟨h0, h1, h2, h3⟩ := h
  intro x hx
  have hk : k < l.length := by
    rcases Nat.lt_or_ge k l.length with h | h
    · exact h
    · rw [List.drop_eq_nil_of_le (by omega)] at hx; cases hx
  have hd : l.drop k = l[k] :: l.drop (k + 1) := List.drop_eq_getElem_cons hk
  have hkn : lt l[k].name n = false := h2 _ (by rw [hd]; exact List.mem_cons_self)
  have hp : Srt (l.drop k) := List.Pairwise.drop hs
  rw [hd] at hp
  have hlx : lt l[k].name x.name = true := List.rel_of_pairwise_cons hp hx
  by_cases e : l[k].name = n
  · rw [← e]; exact hlx
  · exact lt_trans (lt_total e hkn) hlx
theorem Pl.over {l : List E} {n : ByteArray} {k : Nat} (hs : Srt l) (h : Pl l n k false) : ∀ x ∈ l.drop k, lt n x.name = true := by
  intro x hx
  rcases Nat.lt_or_ge k l.length with hk | hk
  · have hd : l.drop k = l[k] :: l.drop (k + 1) := List.drop_eq_getElem_cons hk
    have hkn : lt l[k].name n = false := h.2.2.1 _ (by rw [hd]; exact List.mem_cons_self)
    have hne : l[k].name ≠ n := fun e => by have := h.2.2.2.2 ⟨hk, e⟩; cases this
    rw [hd] at hx
    rcases List.mem_cons.1 hx with rfl | hx
    · exact lt_total hne hkn
    · exact h.upper hs x hx
  · rw [List.drop_eq_nil_of_le hk] at hx; cases hx
theorem Pl.has_eq {l : List E} {n : ByteArray} {k : Nat} {b : Bool} (hs : Srt l) (h : Pl l n k b) : b = has l n := by
  cases b with
  | true =>
    obtain ⟨hk, e⟩ := h.2.2.2.1 rfl
    exact (has_iff.2 ⟨_, List.getElem_mem hk, e⟩).symm
  | false =>
    refine (has_false.2 fun x hx => ?_).symm
    rw [← List.take_append_drop k l] at hx
    rcases List.mem_append.1 hx with hx | hx
    · exact lt_ne (h.2.1 x hx)
    · exact (lt_ne (h.over hs x hx)).symm
theorem Pl.node {l : List E} {n : ByteArray} {k : Nat} (h : Pl l n k true) : ∃ hk : k < l.length, l[k].name = n ∧ fv l n = l[k].node := by
  obtain ⟨hk, e⟩ := h.2.2.2.1 rfl
  refine ⟨hk, e, ?_⟩
  have := fnd_at l n k hk (fun j hj => lt_ne (h.2.1 _ (by
    rw [List.mem_take_iff_getElem]
    exact ⟨j, by omega, rfl⟩))) e
  simp [fv, this]
theorem Pl.without {l : List E} {n : ByteArray} {k : Nat} (hs : Srt l) (h : Pl l n k true) : wo l n = l.take k ++ l.drop (k + 1) := by
  obtain ⟨hk, e⟩ := h.2.2.2.1 rfl
  have h1 : wo (l.take k) n = l.take k := wo_none (has_false.2 fun x hx => lt_ne (h.2.1 x hx))
  have h2 : wo (l.drop (k + 1)) n = l.drop (k + 1) := wo_none (has_false.2 fun x hx => (lt_ne (h.upper hs x hx)).symm)
  have hc := Pl.cut hk
  have h3 : wo (l.take k ++ l[k] :: l.drop (k + 1)) n = l.take k ++ l.drop (k + 1) := by
    unfold wo at h1 h2 ⊢
    rw [List.filter_append, List.filter_cons, h1, h2]
    simp [e]
  rw [← hc] at h3
  exact h3
theorem wi_at {n : ByteArray} {m : Int} : ∀ (A B : List E), (∀ x ∈ A, lt n x.name = false) → (∀ x ∈ B, lt n x.name = true) → wi ⟨n, m⟩ (A ++ B) = A ++ ⟨n, m⟩ :: B
  | [], [], _, _ => rfl
  | [], y :: r, _, h => by simp [wi, h y (by simp)]
  | x :: A, B, h1, h2 => by
    rw [List.cons_append, wi, if_neg (by simp [h1 x (by simp)]), wi_at A B (fun y hy => h1 y (by simp [hy])) h2]
    rfl
theorem Pl.with_new {l : List E} {n : ByteArray} {k : Nat} (hs : Srt l) (h : Pl l n k false) (m : Int) : wi ⟨n, m⟩ (wo l n) = l.take k ++ ⟨n, m⟩ :: l.drop k := by
  rw [wo_none (h.has_eq hs).symm]
  have := wi_at (m := m) (l.take k) (l.drop k) (fun x hx => lt_asymm (h.2.1 x hx)) (h.over hs)
  rwa [List.take_append_drop] at this
theorem Pl.with_old {l : List E} {n : ByteArray} {k : Nat} (hs : Srt l) (h : Pl l n k true) (m : Int) : wi ⟨n, m⟩ (wo l n) = l.take k ++ ⟨n, m⟩ :: l.drop (k + 1) := by
  rw [h.without hs]
  exact wi_at (l.take k) (l.drop (k + 1)) (fun x hx => lt_asymm (h.2.1 x hx)) (h.upper hs)

/-! ### Directories -/
def valid (d : D) : Bool := ordL d.sure && (decide ((all d.sure d.pend).2 = 0) && decide ((all d.sure d.pend).1 = d.now))
def doE (d : D) (o : O) : Int := if valid d = true then err d.now o else 10
def doD (d : D) (o : O) : D := if valid d = true then (if err d.now o = 0 then ⟨done d.now o, d.sure, d.pend ++ [o]⟩ else zd) else zd
def syn (d : D) : D := if valid d = true then ⟨d.now, d.now, []⟩ else zd
def cnt (n : Int) (m : Nat) : Nat := (min (max n 0) (m : Int)).toNat
def crL (d : D) (n : Int) : List E := (all d.sure (d.pend.take (cnt n d.pend.length))).1
def cr (d : D) (n : Int) : D := if valid d = true then ⟨crL d n, crL d n, []⟩ else zd
theorem cnt_le (n : Int) (m : Nat) : cnt n m ≤ m := by unfold cnt; omega
theorem cnt_int (n : Int) (m : Nat) : ((cnt n m : Nat) : Int) = min (max n 0) (m : Int) := by unfold cnt; omega

theorem valid_iff {d : D} : valid d = true ↔ Ord d.sure ∧ (all d.sure d.pend).2 = 0 ∧ (all d.sure d.pend).1 = d.now := by
  unfold valid
  rw [Bool.and_eq_true_iff, Bool.and_eq_true_iff, ordL_iff, decide_eq_true_iff, decide_eq_true_iff]
theorem valid_now {d : D} (h : valid d = true) : Ord d.now := by
  obtain ⟨h1, h2, h3⟩ := valid_iff.1 h
  rw [← h3]; exact all_ord _ h1 h2
theorem valid_pre {d : D} (h : valid d = true) (j : Nat) : (all d.sure (d.pend.take j)).2 = 0 ∧ Ord (all d.sure (d.pend.take j)).1 := by
  obtain ⟨h1, h2, _⟩ := valid_iff.1 h
  rw [← List.take_append_drop j d.pend, all_app] at h2
  have h0 : (all d.sure (d.pend.take j)).2 = 0 := by
    by_cases h0 : (all d.sure (d.pend.take j)).2 = 0
    · exact h0
    · rw [if_neg h0] at h2; exact h2
  exact ⟨h0, all_ord _ h1 h0⟩
theorem ord_nil : Ord [] := ⟨by simp, by simp, List.Pairwise.nil⟩
theorem valid_zd : valid zd = true := valid_iff.2 ⟨ord_nil, rfl, rfl⟩
theorem valid_same {l : List E} (h : Ord l) : valid ⟨l, l, []⟩ = true := valid_iff.2 ⟨h, rfl, rfl⟩
theorem valid_syn {d : D} : valid (syn d) = true := by
  unfold syn
  split
  · next h => exact valid_same (valid_now h)
  · exact valid_zd
theorem valid_cr {d : D} {n : Int} : valid (cr d n) = true := by
  unfold cr
  split
  · next h => exact valid_same (valid_pre h _).2
  · exact valid_zd
theorem valid_do {d : D} {o : O} : valid (doD d o) = true := by
  unfold doD
  split
  · next h =>
    split
    · next he =>
      obtain ⟨h1, h2, h3⟩ := valid_iff.1 h
      refine valid_iff.2 ⟨h1, ?_, ?_⟩ <;> simp [all_app, h2, h3, all, he]
    · exact valid_zd
  · exact valid_zd
theorem do_ok {d : D} {o : O} (h : doE d o = 0) : valid d = true ∧ err d.now o = 0 ∧ doD d o = ⟨done d.now o, d.sure, d.pend ++ [o]⟩ := by
  unfold doE at h
  split at h
  · next hv => exact ⟨hv, h, by rw [doD, if_pos hv, if_pos h]⟩
  · cases h

/-! ### The list of things done -/
def mid (sure : List Bool) (d : D) (k : Nat) : D := if sure.getD k false = true then syn d else d
def step (sure : List Bool) (d : D) (k : Nat) (o : O) : D := if doE (mid sure d k) o = 0 then doD (mid sure d k) o else mid sure d k
theorem valid_mid {sure : List Bool} {d : D} {k : Nat} (h : valid d = true) : valid (mid sure d k) = true := by
  unfold mid
  split
  · exact valid_syn
  · exact h
def madeTo (ops : List O) (sure : List Bool) : Nat → D
  | 0 => zd
  | k + 1 => step sure (madeTo ops sure k) k (ops.getD k default)
theorem valid_made (ops : List O) (sure : List Bool) : ∀ k, valid (madeTo ops sure k) = true
  | 0 => valid_zd
  | k + 1 => by
    unfold madeTo step
    split
    · exact valid_do
    · exact valid_mid (valid_made ops sure k)
theorem pend_syn (d : D) : (syn d).pend = [] := by unfold syn; split <;> rfl
theorem pend_do (d : D) (o : O) : (doD d o).pend.length ≤ d.pend.length + 1 := by
  unfold doD
  split
  · split
    · simp
    · simp [zd]
  · simp [zd]
theorem pend_mid {sure : List Bool} {d : D} {k : Nat} : (mid sure d k).pend.length ≤ d.pend.length := by
  unfold mid
  split
  · rw [pend_syn]; exact Nat.zero_le _
  · exact Nat.le_refl _
theorem pend_made (ops : List O) (sure : List Bool) : ∀ k, (madeTo ops sure k).pend.length ≤ k
  | 0 => by simp [madeTo, zd]
  | k + 1 => by
    have h1 : (mid sure (madeTo ops sure k) k).pend.length ≤ k := Nat.le_trans pend_mid (pend_made ops sure k)
    unfold madeTo step
    split
    · exact Nat.le_trans (pend_do _ _) (Nat.succ_le_succ h1)
    · exact Nat.le_trans h1 (Nat.le_succ k)

/-! ### Crashes (Di4) -/
theorem crL_all {d : D} (h : valid d = true) : crL d (d.pend.length : Int) = d.now := by
  unfold crL
  rw [show cnt (d.pend.length : Int) d.pend.length = d.pend.length by unfold cnt; omega, List.take_length]
  exact (valid_iff.1 h).2.2
theorem crL_zero (d : D) : crL d 0 = d.sure := by
  unfold crL
  rw [show cnt 0 d.pend.length = 0 by unfold cnt; omega]
  rfl
theorem crL_same (l : List E) (n : Int) : crL ⟨l, l, []⟩ n = l := by
  unfold crL
  simp [all]
def zz : ByteArray := ⟨#[122, 122]⟩
def mv (x : E) : O := ⟨2, x.name, zz, 0⟩
theorem zz_ok : nameOk zz = true := by decide +kernel
theorem mv_err {x : E} {r : List E} : err (x :: r) (mv x) = if x.name = zz then 1 else 0 := by
  have hh : has (x :: r) x.name = true := has_iff.2 ⟨x, by simp, rfl⟩
  by_cases e : x.name = zz
  · rw [e] at hh
    simp [err, mv, hh, e]
  · simp [err, mv, hh, e, zz_ok, Ne.symm e]
theorem mv_cr {x : E} {r : List E} (he : err (x :: r) (mv x) = 0) (n : Int) : crL ⟨done (x :: r) (mv x), x :: r, [mv x]⟩ n = if n ≤ 0 then x :: r else done (x :: r) (mv x) := by
  unfold crL
  by_cases h : n ≤ 0
  · rw [if_pos h, show cnt n [mv x].length = 0 by unfold cnt; omega]; rfl
  · rw [if_neg h, show cnt n [mv x].length = 1 by unfold cnt; simp; omega]
    simp [all, he]
theorem mv_done {x : E} {r : List E} (he : x.name ≠ zz) : has (done (x :: r) (mv x)) x.name = false ∧ has (done (x :: r) (mv x)) zz = true ∧ fv (done (x :: r) (mv x)) zz = x.node := by
  have hd : done (x :: r) (mv x) = wi ⟨zz, x.node⟩ (wo (wo (x :: r) x.name) zz) := by
    have : fv (x :: r) x.name = x.node := by simp [fv, fnd]
    simp [done, mv, this]
  rw [hd]
  refine ⟨has_false.2 fun y hy => ?_, has_iff.2 ⟨_, mem_wi.2 (.inl rfl), rfl⟩, ?_⟩
  · rcases mem_wi.1 hy with rfl | hy
    · exact Ne.symm he
    · exact (mem_wo.1 (mem_wo.1 hy).1).2
  · have hh : has (wi ⟨zz, x.node⟩ (wo (wo (x :: r) x.name) zz)) zz = true := has_iff.2 ⟨_, mem_wi.2 (.inl rfl), rfl⟩
    obtain ⟨k, hk, _, hn, hz⟩ := av_has hh
    rw [← hn]
    rcases mem_wi.1 (List.getElem_mem hk) with h | h
    · rw [h]
    · exact absurd hz (mem_wo.1 h).2
theorem mv_now {x : E} {r : List E} : has (x :: r) x.name = true ∧ fv (x :: r) x.name = x.node := by simp [has, fv, fnd]
end DirM
