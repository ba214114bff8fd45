/-
  Joined: DirMath DirRow DirLeaf DirCut DirIns.
-/
import Derived.Lib.Bytealg
import Derived.Test.YtaklilhnikmmfaaGreatJRow
import Derived.Lib.AppendZerosOnto
import Derived.Laws.CopyOwn
import Derived.Laws.OwnMore
import Derived.Laws.StandIn
import Derived.Lib.Overlaps
import Derived.Deep.RegionLaw
/-
  Layer 10's mathematics: names and their order, lists of entries, what is done to them, directories, crashes.
-/
namespace DirM
open Go

/-! ### The order of names -/
def lt (a b : ByteArray) : Bool := Op.bytesLess a.toList b.toList

theorem less_irrefl : ∀ x : List UInt8, Op.bytesLess x x = false
  | [] => rfl
  | a :: x => by simp [Op.bytesLess, less_irrefl x]
theorem less_trans : ∀ x y z : List UInt8, Op.bytesLess x y = true → Op.bytesLess y z = true → Op.bytesLess x z = true
  | _, _, [], _, h => by simp [Op.bytesLess] at h
  | _, [], _ :: _, h, _ => by simp [Op.bytesLess] at h
  | [], _ :: _, _ :: _, _, _ => rfl
  | a :: x, b :: y, c :: z, h1, h2 => by
    have ih := less_trans x y z
    simp only [Op.bytesLess, Bool.or_eq_true, decide_eq_true_eq, Bool.and_eq_true, beq_iff_eq] at h1 h2 ⊢
    rcases h1 with h1 | ⟨rfl, h1⟩
    · rcases h2 with h2 | ⟨rfl, h2⟩
      · left; rw [UInt8.lt_iff_toNat_lt] at *; omega
      · left; exact h1
    · rcases h2 with h2 | ⟨rfl, h2⟩
      · left; exact h2
      · right; exact ⟨rfl, ih h1 h2⟩
theorem less_total : ∀ x y : List UInt8, x ≠ y → Op.bytesLess x y = false → Op.bytesLess y x = true
  | [], [], h, _ => absurd rfl h
  | [], _ :: _, _, h => by simp [Op.bytesLess] at h
  | _ :: _, [], _, _ => rfl
  | a :: x, b :: y, h1, h2 => by
    have ih := less_total x y
    simp only [Op.bytesLess, Bool.or_eq_false_iff, decide_eq_false_iff_not, Bool.and_eq_false_iff, beq_eq_false_iff_ne, Bool.or_eq_true, decide_eq_true_eq, Bool.and_eq_true, beq_iff_eq] at h2 ⊢
    by_cases hab : a = b
    · subst hab
      right
      refine ⟨rfl, ih (fun e => h1 (by rw [e])) ?_⟩
      rcases h2.2 with h | h
      · exact absurd rfl h
      · exact h
    · left
      have h := h2.1
      have hne : a.toNat ≠ b.toNat := fun e => hab (UInt8.toNat_inj.1 e)
      rw [UInt8.lt_iff_toNat_lt] at *; omega
theorem comp_less : ∀ x y : List UInt8, (Lib.compareBytes x y < 0 ↔ Op.bytesLess x y = true) ∧ (Lib.compareBytes x y = 0 ↔ x = y)
  | [], [] => by simp [Lib.compareBytes, Op.bytesLess]
  | [], _ :: _ => by simp [Lib.compareBytes, Op.bytesLess]
  | _ :: _, [] => by simp [Lib.compareBytes, Op.bytesLess]
  | a :: x, b :: y => by
    have ih := comp_less x y
    unfold Lib.compareBytes
    by_cases h1 : a < b
    · have hne : a ≠ b := by rintro rfl; rw [UInt8.lt_iff_toNat_lt] at h1; omega
      simp [Op.bytesLess, h1, hne]
    · by_cases h2 : b < a
      · have hne : a ≠ b := by rintro rfl; exact h1 h2
        simp [Op.bytesLess, h1, h2, hne]
      · have hab : a = b := by
          rw [UInt8.lt_iff_toNat_lt] at h1 h2
          exact UInt8.toNat_inj.1 (by omega)
        subst hab
        simp [Op.bytesLess, h1, ih]

theorem list_eq {a b : ByteArray} : a.toList = b.toList ↔ a = b := by
  constructor
  · intro h
    rw [Lib.toList_data, Lib.toList_data] at h
    cases a; cases b
    simpa using h
  · rintro rfl; rfl
theorem data_eq {a b : ByteArray} : a.data.toList = b.data.toList ↔ a = b := by rw [← Lib.toList_data, ← Lib.toList_data]; exact list_eq
theorem lt_irrefl (a : ByteArray) : lt a a = false := less_irrefl _
theorem lt_trans {a b c : ByteArray} (h1 : lt a b = true) (h2 : lt b c = true) : lt a c = true := less_trans _ _ _ h1 h2
theorem lt_total {a b : ByteArray} (h1 : a ≠ b) (h2 : lt a b = false) : lt b a = true := less_total _ _ (fun h => h1 (list_eq.1 h)) h2
theorem lt_asymm {a b : ByteArray} (h : lt a b = true) : lt b a = false := by
  cases h' : lt b a with
  | false => rfl
  | true => have := lt_trans h h'; rw [lt_irrefl] at this; cases this
theorem lt_ne {a b : ByteArray} (h : lt a b = true) : a ≠ b := by
  rintro rfl; rw [lt_irrefl] at h; cases h
/-- What strings.Compare returns. -/
def cmp (a b : ByteArray) : Int := Lib.compareBytes a.data.toList b.data.toList
theorem cmp_neg (a b : ByteArray) : cmp a b < 0 ↔ lt a b = true := by unfold cmp lt; rw [Lib.toList_data, Lib.toList_data]; exact (comp_less _ _).1
theorem cmp_zero (a b : ByteArray) : cmp a b = 0 ↔ a = b := by unfold cmp; rw [(comp_less _ _).2]; exact data_eq

/-! ### Names -/
def okB (c : UInt8) : Bool := (decide (97 ≤ c.toNat) && decide (c.toNat ≤ 122)) || (decide (48 ≤ c.toNat) && decide (c.toNat ≤ 57)) || decide (c.toNat = 46)
def allOk (s : ByteArray) (k : Nat) : Bool := (s.data.toList.take k).all okB
def nameOk (s : ByteArray) : Bool := allOk s s.size && (decide (1 ≤ s.size) && decide (s.size ≤ 24))
theorem allOk_zero (s : ByteArray) : allOk s 0 = true := by simp [allOk]
theorem allOk_next {s : ByteArray} {k : Nat} (hk : k < s.size) (h : allOk s k = true) : allOk s (k + 1) = okB s[k] := by
  have hl : k < s.data.toList.length := by simpa using hk
  unfold allOk at *
  rw [List.take_succ_eq_append_getElem hl, List.all_append, h]
  simp; rfl
theorem allOk_bad {s : ByteArray} {k : Nat} (hk : k < s.size) (h : okB s[k] = false) : allOk s s.size = false := by
  have hl : k < s.data.toList.length := by simpa using hk
  unfold allOk
  rw [List.all_eq_false]
  refine ⟨s.data.toList[k], ?_, by rw [show s.data.toList[k] = s[k] from by simp; rfl, h]; decide⟩
  rw [List.take_of_length_le (by simp)]
  exact List.getElem_mem hl
theorem name_short {s : ByteArray} (h : s.size < 1) : nameOk s = false := by unfold nameOk; simp; omega
theorem name_long {s : ByteArray} (h : 24 < s.size) : nameOk s = false := by unfold nameOk; simp; omega
theorem name_bad {s : ByteArray} {k : Nat} (hk : k < s.size) (h : okB s[k] = false) : nameOk s = false := by unfold nameOk; rw [allOk_bad hk h]; rfl
theorem name_good {s : ByteArray} (h : allOk s s.size = true) : nameOk s = (decide (1 ≤ s.size) && decide (s.size ≤ 24)) := by unfold nameOk; rw [h]; rfl

/-! ### Entries -/
structure E where
  name : ByteArray
  node : Int
  deriving DecidableEq
structure O where
  kind : Int
  name : ByteArray
  dst : ByteArray
  node : Int
  deriving DecidableEq
structure D where
  now : List E
  sure : List E
  pend : List O
def zd : D := ⟨[], [], []⟩
instance : Inhabited E := ⟨⟨⟨#[]⟩, 0⟩⟩
instance : Inhabited O := ⟨⟨0, ⟨#[]⟩, ⟨#[]⟩, 0⟩⟩

def fnd : List E → ByteArray → Option (Nat × Int)
  | [], _ => none
  | x :: r, n => if x.name = n then some (0, x.node) else (fnd r n).map fun p => (p.1 + 1, p.2)
def has (l : List E) (n : ByteArray) : Bool := (fnd l n).isSome
def fv (l : List E) (n : ByteArray) : Int := ((fnd l n).map (·.2)).getD 0
def av (l : List E) (n : ByteArray) : Int := match fnd l n with | some p => (p.1 : Int) | none => -1

theorem fnd_at : ∀ (l : List E) (n : ByteArray) (k : Nat) (hk : k < l.length), (∀ j (hj : j < k), (l[j]'(by omega)).name ≠ n) → l[k].name = n → fnd l n = some (k, l[k].node)
  | x :: r, n, 0, _, _, h => by simp at h; simp [fnd, h]
  | x :: r, n, k + 1, hk, h0, h => by
    have hx : x.name ≠ n := h0 0 (by omega)
    have ih := fnd_at r n k (by simpa using hk) (fun j hj => h0 (j + 1) (by omega)) (by simpa using h)
    simp [fnd, hx, ih]
theorem fnd_none : ∀ (l : List E) (n : ByteArray), (∀ x ∈ l, x.name ≠ n) → fnd l n = none
  | [], _, _ => rfl
  | x :: r, n, h => by
    have hx : x.name ≠ n := h x (by simp)
    simp [fnd, hx, fnd_none r n fun y hy => h y (by simp [hy])]
theorem fnd_some : ∀ (l : List E) (n : ByteArray) (p : Nat × Int), fnd l n = some p → ∃ h : p.1 < l.length, l[p.1].name = n ∧ l[p.1].node = p.2
  | [], _, _, h => by simp [fnd] at h
  | x :: r, n, p, h => by
    unfold fnd at h
    by_cases hx : x.name = n
    · rw [if_pos hx] at h
      have := Option.some.inj h
      subst this
      exact ⟨by simp, by simpa using hx, rfl⟩
    · rw [if_neg hx] at h
      obtain ⟨q, hq, rfl⟩ := Option.map_eq_some_iff.1 h
      obtain ⟨h1, h2, h3⟩ := fnd_some r n q hq
      exact ⟨by simpa using h1, by simpa using h2, by simpa using h3⟩
theorem has_iff {l : List E} {n : ByteArray} : has l n = true ↔ ∃ x ∈ l, x.name = n := by
  constructor
  · intro h
    obtain ⟨p, hp⟩ := Option.isSome_iff_exists.1 h
    obtain ⟨h1, h2, _⟩ := fnd_some l n p hp
    exact ⟨_, List.getElem_mem h1, h2⟩
  · rintro ⟨x, hx, hn⟩
    cases h : has l n with
    | true => rfl
    | false =>
      exfalso
      have hnone : fnd l n = none := by unfold has at h; simpa using h
      clear h
      induction l with
      | nil => cases hx
      | cons y r ih =>
        unfold fnd at hnone
        by_cases hy : y.name = n
        · rw [if_pos hy] at hnone; cases hnone
        · rw [if_neg hy] at hnone
          rcases List.mem_cons.1 hx with rfl | hx
          · exact hy hn
          · exact ih hx (by simpa using hnone)
theorem has_false {l : List E} {n : ByteArray} : has l n = false ↔ ∀ x ∈ l, x.name ≠ n := by
  rw [← Bool.not_eq_true, has_iff]
  constructor
  · intro h x hx e; exact h ⟨x, hx, e⟩
  · rintro h ⟨x, hx, e⟩; exact h x hx e
theorem av_has {l : List E} {n : ByteArray} (h : has l n = true) : ∃ k : Nat, ∃ hk : k < l.length, av l n = (k : Int) ∧ l[k].node = fv l n ∧ l[k].name = n := by
  obtain ⟨p, hp⟩ := Option.isSome_iff_exists.1 h
  obtain ⟨h1, h2, h3⟩ := fnd_some l n p hp
  exact ⟨p.1, h1, by simp [av, hp], by simp [fv, hp, h3], h2⟩
theorem av_none {l : List E} {n : ByteArray} (h : has l n = false) : av l n = -1 ∧ fv l n = 0 := by
  have hnone : fnd l n = none := by unfold has at h; simpa using h
  simp [av, fv, hnone]
theorem av_nonneg {l : List E} {n : ByteArray} : decide (0 ≤ av l n) = has l n := by
  cases h : has l n with
  | true => obtain ⟨k, _, hk, _⟩ := av_has h; rw [hk]; simp
  | false => rw [(av_none h).1]; rfl

def wo (l : List E) (n : ByteArray) : List E := l.filter fun x => decide (x.name ≠ n)
def wi (x : E) : List E → List E
  | [] => [x]
  | y :: r => if lt x.name y.name = true then x :: y :: r else y :: wi x r
def err (l : List E) (o : O) : Int :=
  if o.kind = 1 then (if nameOk o.name = true then (if has l o.name = true then 6 else if 100 ≤ l.length then 7 else 0) else 1)
  else if o.kind = 2 then (if has l o.name = true then (if nameOk o.dst = true ∧ o.dst ≠ o.name then 0 else 1) else 5)
  else if o.kind = 3 then (if has l o.name = true then 0 else 5)
  else 16
def done (l : List E) (o : O) : List E :=
  if o.kind = 1 then wi ⟨o.name, o.node⟩ l
  else if o.kind = 2 then wi ⟨o.dst, fv l o.name⟩ (wo (wo l o.name) o.dst)
  else wo l o.name
def all : List E → List O → List E × Int
  | l, [] => (l, 0)
  | l, o :: r => if err l o = 0 then all (done l o) r else ([], err l o)

def Srt (l : List E) : Prop := l.Pairwise fun x y => lt x.name y.name = true
structure Ord (l : List E) : Prop where
  few : l.length ≤ 100
  names : ∀ x ∈ l, nameOk x.name = true
  srt : Srt l

theorem mem_wi {x z : E} : ∀ {l : List E}, z ∈ wi x l ↔ z = x ∨ z ∈ l
  | [] => by simp [wi]
  | y :: r => by
    unfold wi
    split
    · simp
    · rw [List.mem_cons, mem_wi (l := r), List.mem_cons]
      constructor
      · rintro (h | h | h) <;> simp [h]
      · rintro (h | h | h) <;> simp [h]
theorem len_wi (x : E) : ∀ l : List E, (wi x l).length = l.length + 1
  | [] => rfl
  | y :: r => by unfold wi; split <;> simp [len_wi x r]
theorem mem_wo {l : List E} {n : ByteArray} {z : E} : z ∈ wo l n ↔ z ∈ l ∧ z.name ≠ n := by simp [wo]
theorem len_wo (l : List E) (n : ByteArray) : (wo l n).length ≤ l.length := List.length_filter_le _ _
theorem len_wo_has {l : List E} {n : ByteArray} (h : has l n = true) : (wo l n).length < l.length := by
  obtain ⟨x, hx, hn⟩ := has_iff.1 h
  unfold wo
  rw [List.length_filter_lt_length_iff_exists]
  exact ⟨x, hx, by simp [hn]⟩
theorem wo_none {l : List E} {n : ByteArray} (h : has l n = false) : wo l n = l := by
  unfold wo
  rw [List.filter_eq_self]
  intro x hx
  simpa using has_false.1 h x hx
theorem has_wo (l : List E) (n : ByteArray) : has (wo l n) n = false := has_false.2 fun _ hx => (mem_wo.1 hx).2
theorem srt_wo {l : List E} (h : Srt l) (n : ByteArray) : Srt (wo l n) := List.Pairwise.filter _ h
theorem srt_wi {x : E} : ∀ {l : List E}, Srt l → has l x.name = false → Srt (wi x l)
  | [], _, _ => by simp [wi, Srt]
  | y :: r, h, hn => by
    have hy : ∀ z ∈ r, lt y.name z.name = true := fun z hz => List.rel_of_pairwise_cons h hz
    have hr : Srt r := List.Pairwise.of_cons h
    have hne := has_false.1 hn
    unfold wi
    split
    · next hlt =>
      refine List.Pairwise.cons (fun z hz => ?_) h
      rcases List.mem_cons.1 hz with rfl | hz
      · exact hlt
      · exact lt_trans hlt (hy z hz)
    · next hlt =>
      have hlt : lt x.name y.name = false := by simpa using hlt
      have hyx : lt y.name x.name = true := lt_total (fun e => hne y (by simp) e.symm) hlt
      refine List.Pairwise.cons (fun z hz => ?_) (srt_wi hr (has_false.2 fun z hz => hne z (by simp [hz])))
      rcases mem_wi.1 hz with rfl | hz
      · exact hyx
      · exact hy z hz

theorem err_kinds {l : List E} {o : O} (h : err l o = 0) : (o.kind = 1 ∧ nameOk o.name = true ∧ has l o.name = false ∧ l.length < 100) ∨ (o.kind = 2 ∧ has l o.name = true ∧ nameOk o.dst = true ∧ o.dst ≠ o.name) ∨ (o.kind = 3 ∧ has l o.name = true) := by
  unfold err at h
  split at h
  · next hk =>
    left
    split at h
    · next h1 =>
      split at h
      · cases h
      · next h2 =>
        split at h
        · cases h
        · exact ⟨hk, h1, by simpa using h2, by omega⟩
    · cases h
  · split at h
    · next hk =>
      right; left
      split at h
      · next h1 =>
        split at h
        · next h2 => exact ⟨hk, h1, h2.1, h2.2⟩
        · cases h
      · cases h
    · split at h
      · next hk =>
        right; right
        split at h
        · next h1 => exact ⟨hk, h1⟩
        · cases h
      · cases h

theorem ord_done {l : List E} {o : O} (h : Ord l) (he : err l o = 0) : Ord (done l o) := by
  rcases err_kinds he with ⟨hk, h1, h2, h3⟩ | ⟨hk, h1, h2, h3⟩ | ⟨hk, h1⟩
  · rw [done, if_pos hk]
    exact ⟨by rw [len_wi]; omega, fun x hx => by
      rcases mem_wi.1 hx with rfl | hx
      · exact h1
      · exact h.names x hx, srt_wi h.srt h2⟩
  · rw [done, if_neg (by omega), if_pos hk]
    refine ⟨?_, fun x hx => ?_, srt_wi (srt_wo (srt_wo h.srt _) _) (has_wo _ _)⟩
    · have a := len_wo_has h1
      have b := len_wo (wo l o.name) o.dst
      have c := h.few
      rw [len_wi]; omega
    · rcases mem_wi.1 hx with rfl | hx
      · exact h2
      · exact h.names x (mem_wo.1 (mem_wo.1 hx).1).1
  · rw [done, if_neg (by omega), if_neg (by omega)]
    exact ⟨Nat.le_trans (len_wo _ _) h.few, fun x hx => h.names x (mem_wo.1 hx).1, srt_wo h.srt _⟩

theorem all_app : ∀ (a : List O) (l : List E) (b : List O), all l (a ++ b) = if (all l a).2 = 0 then all (all l a).1 b else all l a
  | [], l, b => by simp [all]
  | o :: r, l, b => by
    have e : ∀ r', all l (o :: r') = if err l o = 0 then all (done l o) r' else ([], err l o) := fun _ => rfl
    rw [List.cons_append, e, e]
    by_cases h : err l o = 0
    · rw [if_pos h, if_pos h]; exact all_app r _ b
    · simp [h]
theorem all_ord : ∀ (os : List O) {l : List E}, Ord l → (all l os).2 = 0 → Ord (all l os).1
  | [], _, h, _ => h
  | o :: r, l, h, h0 => by
    unfold all at h0 ⊢
    by_cases he : err l o = 0
    · rw [if_pos he] at h0 ⊢; exact all_ord r (ord_done h he) h0
    · rw [if_neg he] at h0; exact absurd h0 he
/-- Of a list behind k operations. -/
theorem all_next {l cur : List E} {os : List O} {k : Nat} (hk : k < os.length) (h : all l (os.take k) = (cur, 0)) (he : err cur os[k] = 0) : all l (os.take (k + 1)) = (done cur os[k], 0) := by
  rw [List.take_succ_eq_append_getElem hk, all_app, h]
  simp [all, he]
theorem all_stop {l cur : List E} {os : List O} {k : Nat} (hk : k < os.length) (h : all l (os.take k) = (cur, 0)) (he : err cur os[k] ≠ 0) : all l os = ([], err cur os[k]) := by
  have e : os = os.take k ++ os[k] :: os.drop (k + 1) := by rw [← List.drop_eq_getElem_cons hk, List.take_append_drop]
  have h2 : all l (os.take k ++ os[k] :: os.drop (k + 1)) = ([], err cur os[k]) := by
    rw [all_app, h]
    simp [all, he]
  rw [← e] at h2
  exact h2

/-! ### Lists of entries that are valid -/
def gd (l : List E) (k : Nat) : Bool := match l[k]? with
  | none => true
  | some x => nameOk x.name && (match k with | 0 => true | j + 1 => (match l[j]? with | none => true | some y => lt y.name x.name))
def ordK (l : List E) (k : Nat) : Bool := (List.range k).all (gd l)
def ordL (l : List E) : Bool := decide (l.length ≤ 100) && ordK l l.length
theorem ordK_zero (l : List E) : ordK l 0 = true := rfl
theorem ordK_next {l : List E} {k : Nat} (h : ordK l k = true) : ordK l (k + 1) = gd l k := by
  unfold ordK at *
  rw [List.range_succ, List.all_append, h]; simp
theorem ordK_bad {l : List E} {k : Nat} (hk : k < l.length) (h : gd l k = false) : ordK l l.length = false := by
  unfold ordK
  rw [List.all_eq_false]
  exact ⟨k, by simpa using hk, by simp [h]⟩
theorem gd_zero {l : List E} (hk : 0 < l.length) : gd l 0 = nameOk l[0].name := by simp [gd, hk]
theorem gd_succ {l : List E} {j : Nat} (hk : j + 1 < l.length) : gd l (j + 1) = (nameOk l[j + 1].name && lt (l[j]'(by omega)).name l[j + 1].name) := by
  have : j < l.length := by omega
  simp [gd, hk, this]
theorem ordL_iff {l : List E} : ordL l = true ↔ Ord l := by
  constructor
  · intro h
    unfold ordL at h
    obtain ⟨h1, h2⟩ := Bool.and_eq_true_iff.1 h
    have h1 : l.length ≤ 100 := by simpa using h1
    have hg : ∀ k, k < l.length → gd l k = true := by
      intro k hk
      unfold ordK at h2
      rw [List.all_eq_true] at h2
      exact h2 k (by simpa using hk)
    refine ⟨h1, fun x hx => ?_, ?_⟩
    · obtain ⟨k, hk, rfl⟩ := List.mem_iff_getElem.1 hx
      have := hg k hk
      cases k with
      | zero => rwa [gd_zero hk] at this
      | succ j => rw [gd_succ hk] at this; exact (Bool.and_eq_true_iff.1 this).1
    · unfold Srt
      rw [List.pairwise_iff_getElem]
      have hs : ∀ j (hj : j + 1 < l.length), lt (l[j]'(by omega)).name l[j + 1].name = true := fun j hj => by
        have := hg (j + 1) hj
        rw [gd_succ hj] at this; exact (Bool.and_eq_true_iff.1 this).2
      have hd : ∀ d i (hi : i + d + 1 < l.length), lt (l[i]'(by omega)).name (l[i + d + 1]'hi).name = true := by
        intro d
        induction d with
        | zero => intro i hi; exact hs i hi
        | succ d ih => intro i hi; exact lt_trans (ih i (by omega)) (hs (i + d + 1) hi)
      intro i j hi hj hij
      obtain ⟨d, rfl⟩ : ∃ d, j = i + d + 1 := ⟨j - i - 1, by omega⟩
      exact hd d i hj
  · intro h
    unfold ordL
    rw [Bool.and_eq_true_iff]
    refine ⟨by simpa using h.few, ?_⟩
    unfold ordK
    rw [List.all_eq_true]
    intro k hk
    have hk : k < l.length := by simpa using hk
    cases k with
    | zero => rw [gd_zero hk]; exact h.names _ (List.getElem_mem hk)
    | succ j =>
      rw [gd_succ hk, Bool.and_eq_true_iff]
      exact ⟨h.names _ (List.getElem_mem hk), List.pairwise_iff_getElem.1 h.srt j (j + 1) (by omega) hk (by omega)⟩

/-! ### The place of a name -/
def Pl (l : List E) (n : ByteArray) (k : Nat) (b : Bool) : Prop :=
  k ≤ l.length ∧ (∀ x ∈ l.take k, lt x.name n = true) ∧ (∀ x ∈ l.drop k, lt x.name n = false) ∧ (b = true ↔ ∃ h : k < l.length, l[k].name = n)
theorem Pl.cut {l : List E} {k : Nat} (hk : k < l.length) : l = l.take k ++ l[k] :: l.drop (k + 1) := by rw [← List.drop_eq_getElem_cons hk, List.take_append_drop]
theorem Pl.upper {l : List E} {n : ByteArray} {k : Nat} {b : Bool} (hs : Srt l) (h : Pl l n k b) : ∀ x ∈ l.drop (k + 1), lt n x.name = true := by
  obtain ⟨h0, h1, h2, h3⟩ := h
  intro x hx
  have hk : k < l.length := by
    rcases Nat.lt_or_ge k l.length with h | h
    · exact h
    · rw [List.drop_eq_nil_of_le (by omega)] at hx; cases hx
  have hd : l.drop k = l[k] :: l.drop (k + 1) := List.drop_eq_getElem_cons hk
  have hkn : lt l[k].name n = false := h2 _ (by rw [hd]; exact List.mem_cons_self)
  have hp : Srt (l.drop k) := List.Pairwise.drop hs
  rw [hd] at hp
  have hlx : lt l[k].name x.name = true := List.rel_of_pairwise_cons hp hx
  by_cases e : l[k].name = n
  · rw [← e]; exact hlx
  · exact lt_trans (lt_total e hkn) hlx
theorem Pl.over {l : List E} {n : ByteArray} {k : Nat} (hs : Srt l) (h : Pl l n k false) : ∀ x ∈ l.drop k, lt n x.name = true := by
  intro x hx
  rcases Nat.lt_or_ge k l.length with hk | hk
  · have hd : l.drop k = l[k] :: l.drop (k + 1) := List.drop_eq_getElem_cons hk
    have hkn : lt l[k].name n = false := h.2.2.1 _ (by rw [hd]; exact List.mem_cons_self)
    have hne : l[k].name ≠ n := fun e => by have := h.2.2.2.2 ⟨hk, e⟩; cases this
    rw [hd] at hx
    rcases List.mem_cons.1 hx with rfl | hx
    · exact lt_total hne hkn
    · exact h.upper hs x hx
  · rw [List.drop_eq_nil_of_le hk] at hx; cases hx
theorem Pl.has_eq {l : List E} {n : ByteArray} {k : Nat} {b : Bool} (hs : Srt l) (h : Pl l n k b) : b = has l n := by
  cases b with
  | true =>
    obtain ⟨hk, e⟩ := h.2.2.2.1 rfl
    exact (has_iff.2 ⟨_, List.getElem_mem hk, e⟩).symm
  | false =>
    refine (has_false.2 fun x hx => ?_).symm
    rw [← List.take_append_drop k l] at hx
    rcases List.mem_append.1 hx with hx | hx
    · exact lt_ne (h.2.1 x hx)
    · exact (lt_ne (h.over hs x hx)).symm
theorem Pl.node {l : List E} {n : ByteArray} {k : Nat} (h : Pl l n k true) : ∃ hk : k < l.length, l[k].name = n ∧ fv l n = l[k].node := by
  obtain ⟨hk, e⟩ := h.2.2.2.1 rfl
  refine ⟨hk, e, ?_⟩
  have := fnd_at l n k hk (fun j hj => lt_ne (h.2.1 _ (by
    rw [List.mem_take_iff_getElem]
    exact ⟨j, by omega, rfl⟩))) e
  simp [fv, this]
theorem Pl.without {l : List E} {n : ByteArray} {k : Nat} (hs : Srt l) (h : Pl l n k true) : wo l n = l.take k ++ l.drop (k + 1) := by
  obtain ⟨hk, e⟩ := h.2.2.2.1 rfl
  have h1 : wo (l.take k) n = l.take k := wo_none (has_false.2 fun x hx => lt_ne (h.2.1 x hx))
  have h2 : wo (l.drop (k + 1)) n = l.drop (k + 1) := wo_none (has_false.2 fun x hx => (lt_ne (h.upper hs x hx)).symm)
  have hc := Pl.cut hk
  have h3 : wo (l.take k ++ l[k] :: l.drop (k + 1)) n = l.take k ++ l.drop (k + 1) := by
    unfold wo at h1 h2 ⊢
    rw [List.filter_append, List.filter_cons, h1, h2]
    simp [e]
  rw [← hc] at h3
  exact h3
theorem wi_at {n : ByteArray} {m : Int} : ∀ (A B : List E), (∀ x ∈ A, lt n x.name = false) → (∀ x ∈ B, lt n x.name = true) → wi ⟨n, m⟩ (A ++ B) = A ++ ⟨n, m⟩ :: B
  | [], [], _, _ => rfl
  | [], y :: r, _, h => by simp [wi, h y (by simp)]
  | x :: A, B, h1, h2 => by
    rw [List.cons_append, wi, if_neg (by simp [h1 x (by simp)]), wi_at A B (fun y hy => h1 y (by simp [hy])) h2]
    rfl
theorem Pl.with_new {l : List E} {n : ByteArray} {k : Nat} (hs : Srt l) (h : Pl l n k false) (m : Int) : wi ⟨n, m⟩ (wo l n) = l.take k ++ ⟨n, m⟩ :: l.drop k := by
  rw [wo_none (h.has_eq hs).symm]
  have := wi_at (m := m) (l.take k) (l.drop k) (fun x hx => lt_asymm (h.2.1 x hx)) (h.over hs)
  rwa [List.take_append_drop] at this
theorem Pl.with_old {l : List E} {n : ByteArray} {k : Nat} (hs : Srt l) (h : Pl l n k true) (m : Int) : wi ⟨n, m⟩ (wo l n) = l.take k ++ ⟨n, m⟩ :: l.drop (k + 1) := by
  rw [h.without hs]
  exact wi_at (l.take k) (l.drop (k + 1)) (fun x hx => lt_asymm (h.2.1 x hx)) (h.upper hs)

/-! ### Directories -/
def valid (d : D) : Bool := ordL d.sure && (decide ((all d.sure d.pend).2 = 0) && decide ((all d.sure d.pend).1 = d.now))
def doE (d : D) (o : O) : Int := if valid d = true then err d.now o else 10
def doD (d : D) (o : O) : D := if valid d = true then (if err d.now o = 0 then ⟨done d.now o, d.sure, d.pend ++ [o]⟩ else zd) else zd
def syn (d : D) : D := if valid d = true then ⟨d.now, d.now, []⟩ else zd
def cnt (n : Int) (m : Nat) : Nat := (min (max n 0) (m : Int)).toNat
def crL (d : D) (n : Int) : List E := (all d.sure (d.pend.take (cnt n d.pend.length))).1
def cr (d : D) (n : Int) : D := if valid d = true then ⟨crL d n, crL d n, []⟩ else zd
theorem cnt_le (n : Int) (m : Nat) : cnt n m ≤ m := by unfold cnt; omega
theorem cnt_int (n : Int) (m : Nat) : ((cnt n m : Nat) : Int) = min (max n 0) (m : Int) := by unfold cnt; omega

theorem valid_iff {d : D} : valid d = true ↔ Ord d.sure ∧ (all d.sure d.pend).2 = 0 ∧ (all d.sure d.pend).1 = d.now := by
  unfold valid
  rw [Bool.and_eq_true_iff, Bool.and_eq_true_iff, ordL_iff, decide_eq_true_iff, decide_eq_true_iff]
theorem valid_now {d : D} (h : valid d = true) : Ord d.now := by
  obtain ⟨h1, h2, h3⟩ := valid_iff.1 h
  rw [← h3]; exact all_ord _ h1 h2
theorem valid_pre {d : D} (h : valid d = true) (j : Nat) : (all d.sure (d.pend.take j)).2 = 0 ∧ Ord (all d.sure (d.pend.take j)).1 := by
  obtain ⟨h1, h2, _⟩ := valid_iff.1 h
  rw [← List.take_append_drop j d.pend, all_app] at h2
  have h0 : (all d.sure (d.pend.take j)).2 = 0 := by
    by_cases h0 : (all d.sure (d.pend.take j)).2 = 0
    · exact h0
    · rw [if_neg h0] at h2; exact h2
  exact ⟨h0, all_ord _ h1 h0⟩
theorem ord_nil : Ord [] := ⟨by simp, by simp, List.Pairwise.nil⟩
theorem valid_zd : valid zd = true := valid_iff.2 ⟨ord_nil, rfl, rfl⟩
theorem valid_same {l : List E} (h : Ord l) : valid ⟨l, l, []⟩ = true := valid_iff.2 ⟨h, rfl, rfl⟩
theorem valid_syn {d : D} : valid (syn d) = true := by
  unfold syn
  split
  · next h => exact valid_same (valid_now h)
  · exact valid_zd
theorem valid_cr {d : D} {n : Int} : valid (cr d n) = true := by
  unfold cr
  split
  · next h => exact valid_same (valid_pre h _).2
  · exact valid_zd
theorem valid_do {d : D} {o : O} : valid (doD d o) = true := by
  unfold doD
  split
  · next h =>
    split
    · next he =>
      obtain ⟨h1, h2, h3⟩ := valid_iff.1 h
      refine valid_iff.2 ⟨h1, ?_, ?_⟩ <;> simp [all_app, h2, h3, all, he]
    · exact valid_zd
  · exact valid_zd
theorem do_ok {d : D} {o : O} (h : doE d o = 0) : valid d = true ∧ err d.now o = 0 ∧ doD d o = ⟨done d.now o, d.sure, d.pend ++ [o]⟩ := by
  unfold doE at h
  split at h
  · next hv => exact ⟨hv, h, by rw [doD, if_pos hv, if_pos h]⟩
  · cases h

/-! ### The list of things done -/
def mid (sure : List Bool) (d : D) (k : Nat) : D := if sure.getD k false = true then syn d else d
def step (sure : List Bool) (d : D) (k : Nat) (o : O) : D := if doE (mid sure d k) o = 0 then doD (mid sure d k) o else mid sure d k
theorem valid_mid {sure : List Bool} {d : D} {k : Nat} (h : valid d = true) : valid (mid sure d k) = true := by
  unfold mid
  split
  · exact valid_syn
  · exact h
def madeTo (ops : List O) (sure : List Bool) : Nat → D
  | 0 => zd
  | k + 1 => step sure (madeTo ops sure k) k (ops.getD k default)
theorem valid_made (ops : List O) (sure : List Bool) : ∀ k, valid (madeTo ops sure k) = true
  | 0 => valid_zd
  | k + 1 => by
    unfold madeTo step
    split
    · exact valid_do
    · exact valid_mid (valid_made ops sure k)
theorem pend_syn (d : D) : (syn d).pend = [] := by unfold syn; split <;> rfl
theorem pend_do (d : D) (o : O) : (doD d o).pend.length ≤ d.pend.length + 1 := by
  unfold doD
  split
  · split
    · simp
    · simp [zd]
  · simp [zd]
theorem pend_mid {sure : List Bool} {d : D} {k : Nat} : (mid sure d k).pend.length ≤ d.pend.length := by
  unfold mid
  split
  · rw [pend_syn]; exact Nat.zero_le _
  · exact Nat.le_refl _
theorem pend_made (ops : List O) (sure : List Bool) : ∀ k, (madeTo ops sure k).pend.length ≤ k
  | 0 => by simp [madeTo, zd]
  | k + 1 => by
    have h1 : (mid sure (madeTo ops sure k) k).pend.length ≤ k := Nat.le_trans pend_mid (pend_made ops sure k)
    unfold madeTo step
    split
    · exact Nat.le_trans (pend_do _ _) (Nat.succ_le_succ h1)
    · exact Nat.le_trans h1 (Nat.le_succ k)

/-! ### Crashes (Di4) -/
theorem crL_all {d : D} (h : valid d = true) : crL d (d.pend.length : Int) = d.now := by
  unfold crL
  rw [show cnt (d.pend.length : Int) d.pend.length = d.pend.length by unfold cnt; omega, List.take_length]
  exact (valid_iff.1 h).2.2
theorem crL_zero (d : D) : crL d 0 = d.sure := by
  unfold crL
  rw [show cnt 0 d.pend.length = 0 by unfold cnt; omega]
  rfl
theorem crL_same (l : List E) (n : Int) : crL ⟨l, l, []⟩ n = l := by
  unfold crL
  simp [all]
def zz : ByteArray := ⟨#[122, 122]⟩
def mv (x : E) : O := ⟨2, x.name, zz, 0⟩
theorem zz_ok : nameOk zz = true := by decide +kernel
theorem mv_err {x : E} {r : List E} : err (x :: r) (mv x) = if x.name = zz then 1 else 0 := by
  have hh : has (x :: r) x.name = true := has_iff.2 ⟨x, by simp, rfl⟩
  by_cases e : x.name = zz
  · rw [e] at hh
    simp [err, mv, hh, e]
  · simp [err, mv, hh, e, zz_ok, Ne.symm e]
theorem mv_cr {x : E} {r : List E} (he : err (x :: r) (mv x) = 0) (n : Int) : crL ⟨done (x :: r) (mv x), x :: r, [mv x]⟩ n = if n ≤ 0 then x :: r else done (x :: r) (mv x) := by
  unfold crL
  by_cases h : n ≤ 0
  · rw [if_pos h, show cnt n [mv x].length = 0 by unfold cnt; omega]; rfl
  · rw [if_neg h, show cnt n [mv x].length = 1 by unfold cnt; simp; omega]
    simp [all, he]
theorem mv_done {x : E} {r : List E} (he : x.name ≠ zz) : has (done (x :: r) (mv x)) x.name = false ∧ has (done (x :: r) (mv x)) zz = true ∧ fv (done (x :: r) (mv x)) zz = x.node := by
  have hd : done (x :: r) (mv x) = wi ⟨zz, x.node⟩ (wo (wo (x :: r) x.name) zz) := by
    have : fv (x :: r) x.name = x.node := by simp [fv, fnd]
    simp [done, mv, this]
  rw [hd]
  refine ⟨has_false.2 fun y hy => ?_, has_iff.2 ⟨_, mem_wi.2 (.inl rfl), rfl⟩, ?_⟩
  · rcases mem_wi.1 hy with rfl | hy
    · exact Ne.symm he
    · exact (mem_wo.1 (mem_wo.1 hy).1).2
  · have hh : has (wi ⟨zz, x.node⟩ (wo (wo (x :: r) x.name) zz)) zz = true := has_iff.2 ⟨_, mem_wi.2 (.inl rfl), rfl⟩
    obtain ⟨k, hk, _, hn, hz⟩ := av_has hh
    rw [← hn]
    rcases mem_wi.1 (List.getElem_mem hk) with h | h
    · rw [h]
    · exact absurd hz (mem_wo.1 h).2
theorem mv_now {x : E} {r : List E} : has (x :: r) x.name = true ∧ fv (x :: r) x.name = x.node := by simp [has, fv, fnd]
end DirM

/-
  Rows whose elements have several cells; lists of entries and of operations in memory.
-/
namespace Go.Proofs.YtaklilhnikmmfaaGreat
open Go.RowKit StrM DirM

/-- A slice of n elements, read cell by cell. -/
def SeesN (w : World) (v : Value) (n : Nat) (xs : List Value) : Prop :=
  ∃ a cap, v = .slice a n cap ∧ n ≤ cap ∧ (xs = [] ∨ ∃ g off, a = some ⟨g, off, none⟩ ∧ g < w.heap.size ∧ ∀ k c, xs[k]? = some c → w.cell? ⟨g, off + k, none⟩ = some c)
theorem SeesN.later {w w' : World} {v : Value} {n : Nat} {xs : List Value} (h : SeesN w v n xs) (hb : Below w.heap.size w w') : SeesN w' v n xs := by
  obtain ⟨a, cap, rfl, hn, h0 | ⟨g, off, rfl, hg, hc⟩⟩ := h
  · exact ⟨a, cap, rfl, hn, .inl h0⟩
  · exact ⟨_, cap, rfl, hn, .inr ⟨g, off, rfl, Nat.lt_of_lt_of_le hg hb.size, fun k c hk => (hb.cell (p := ⟨g, off + k, none⟩) hg).trans (hc k c hk)⟩⟩
theorem SeesN.of_own {w : World} {base n sz : Nat} {e : TypeId} {v : Value} {xs : List Value} (h : w.ownsRow base e sz v n xs) : SeesN w v n xs := by
  rcases h.2 with ⟨h', h0⟩ | ⟨g, cap, cur, h', hb, hg, hc, _⟩
  · subst h0
    exact ⟨none, 0, h', Nat.le_refl _, .inl (List.length_eq_zero_iff.1 (by simpa using h.1))⟩
  · subst h'
    refine ⟨_, cap, rfl, hc, .inr ⟨g, 0, rfl, (Array.getElem?_eq_some_iff.1 hg).1, fun k c hk => ?_⟩⟩
    have hk' : k < n * sz := by rw [← h.1]; exact (List.getElem?_eq_some_iff.1 hk).1
    rw [Nat.zero_add, h.cellAt k hk', hk]
theorem SeesN.nil (w : World) : SeesN w (.slice none 0 0) 0 [] := ⟨none, 0, rfl, Nat.le_refl _, .inl rfl⟩
theorem SeesN.form {w : World} {v : Value} {n : Nat} {xs : List Value} (h : SeesN w v n xs) : ∃ a cap, v = .slice a n cap ∧ n ≤ cap := by
  obtain ⟨a, cap, rfl, hn, _⟩ := h
  exact ⟨a, cap, rfl, hn⟩
theorem SeesN.src {w : World} {ad : Addr} {n m cap : Nat} {xs : List Value} (h : SeesN w (.slice (some ad) m cap) n xs) : ∀ j c, xs[j]? = some c → w.cell? (ad.add j) = some c := by
  obtain ⟨a, cap', e, hn, h⟩ := h
  injection e with e1 e2 e3
  intro j c hj
  rcases h with rfl | ⟨g, off, rfl, hg, hc⟩
  · simp at hj
  · have := Option.some.inj e1
    subst this
    rw [Addr.add_lit]; exact hc j c hj

/-- What is told of the type of a row's elements. -/
structure NCell (P : Program) (t e : TypeId) (z : Value) (sz bytes : Nat) : Prop where
  under : P.underlying t = some (.slice e)
  info : (P.info? e).map (fun i => (i.zero, i.size, i.bytes)) = some (some z, sz, bytes)
  cells : z.cells.size = sz
  pos : 0 < sz

theorem run_append_nilN {P : Program} {t e : TypeId} {z : Value} {sz bytes : Nat} (H : NCell P t e z sz bytes) (w : World) (ty : TypeId) {base n : Nat} {v : Value} {xs : List Value} (hown : w.ownsRow base e sz v n xs) (c : Nat) :
    (Builtin.append_ #[t, t] ty #[v, .slice none 0 c]).run P w = .ok v w := by
  obtain ⟨i0, hi, _⟩ := info_parts H.info
  rcases hown.2 with ⟨rfl, rfl⟩ | ⟨g, cap, cur, rfl, _, _, hnc, _⟩
  · simp [Builtin.append_, run_underlying H.under, sizeOf, typeInfo, hi, Builtin.lenOf, Builtin.firstCells]
  · simp [Builtin.append_, run_underlying H.under, sizeOf, typeInfo, hi, Builtin.lenOf, Builtin.firstCells, hnc, storeCells]

/-- append of all elements of a slice to a row of the call's own. -/
theorem append_runN {P : Program} {t e : TypeId} {z : Value} {sz bytes : Nat} (H : NCell P t e z sz bytes) {w : World} (ty : TypeId) {base n m : Nat} {v u : Value} {xs news : List Value} (hown : w.ownsRow base e sz v n xs)
    (hu : SeesN w u m news) (hl : news.length = m * sz) (h1 : ∀ c ∈ news, c.oneCell' = true) (hb : (n + m) * bytes ≤ 140737488355328) (hn : n + m ≤ maxLen) (hbase : base ≤ w.heap.size) :
    ∃ v' w', (Builtin.append_ #[t, t] ty #[v, u]).run P w = .ok v' w' ∧ w'.ownsRow base e sz v' (n + m) (xs ++ news) ∧ Below base w w' ∧ Stays w w' v := by
  obtain ⟨A, c, rfl, _⟩ := hu.form
  rcases A with _ | ad
  · have hm : m = 0 := by
      obtain ⟨a, cap, e, _, h0 | ⟨g, off, h0, _⟩⟩ := hu
      · subst h0
        have hp := H.pos
        rcases Nat.eq_zero_or_pos m with h | h
        · exact h
        · have : 0 < m * sz := Nat.mul_pos h hp
          simp at hl; omega
      · subst h0; injection e with e; cases e
    subst hm
    have hnil : news = [] := List.length_eq_zero_iff.1 (by simpa using hl)
    subst hnil
    exact ⟨v, w, run_append_nilN H w ty hown c, by simpa using hown, Below.refl _ _, fun _ _ hq _ => hq⟩
  · obtain ⟨i0, hi, hz0, hz1, hz2⟩ := info_parts H.info
    obtain ⟨v', w', hr, h2, h3, _⟩ := run_append_own (P := P) w base t ty e i0 z sz bytes H.under hi hz0 hz1 hz2 H.cells H.pos v n xs hown ad m c news hl hu.src h1 hn hb hbase
    refine ⟨v', w', hr, h2, (Below.refl _ _).grown h3 hbase fun k hk => (hown.lt k hk).1, fun q o hq hne => ?_⟩
    rw [h3.block q (Array.getElem?_eq_some_iff.1 hq).1 hne]
    exact hq

theorem append_n {P : Program} {t e : TypeId} {z : Value} {sz bytes : Nat} (H : NCell P t e z sz bytes) {w : World} {ops : Array Oper} {rest : List Oper} {o : Oper} {a : Act} {Q : Exit → Act → World → Prop} (hgd : o.guard = none) (s x : Operand)
    (ho : o.op = .call { callee := .builtin .append, args := #[s, x], argTypes := #[t, t] })
    (base : Nat) (v : Value) (n : Nat) (xs : List Value) (hs : a.eval s = v) (hown : w.ownsRow base e sz v n xs)
    (u : Value) (m : Nat) (news : List Value) (hx : a.eval x = u) (hu : SeesN w u m news) (hl : news.length = m * sz) (h1 : ∀ c ∈ news, c.oneCell' = true)
    (hb : (n + m) * bytes ≤ 140737488355328) (hn : n + m ≤ maxLen) (hbase : base ≤ w.heap.size)
    (h : ∀ v' w', w'.ownsRow base e sz v' (n + m) (xs ++ news) → Below base w w' → Stays w w' v → wpList P ops Q rest (a.put o.dst v') w') : wpList P ops Q (o :: rest) a w := by
  obtain ⟨v', w', hr, h2, h3, h4⟩ := append_runN H o.type hown hu hl h1 hb hn hbase
  exact Lib.wpList_append_run w hgd s x t t ho v u hs hx v' w' hr (h v' w' h2 h3 h4)
theorem step_append_n {P : Program} {t e : TypeId} {z : Value} {sz bytes : Nat} (H : NCell P t e z sz bytes) {w : World} {ops : Array Oper} {o : Oper} {a : Act} {K : Act → World → Prop} {Q : Exit → Act → World → Prop} {E : Prop} (hgd : o.guard = none) (s x : Operand)
    (ho : o.op = .call { callee := .builtin .append, args := #[s, x], argTypes := #[t, t] })
    (base : Nat) (v : Value) (n : Nat) (xs : List Value) (hs : a.eval s = v) (hown : w.ownsRow base e sz v n xs)
    (u : Value) (m : Nat) (news : List Value) (hx : a.eval x = u) (hu : SeesN w u m news) (hl : news.length = m * sz) (h1 : ∀ c ∈ news, c.oneCell' = true)
    (hb : (n + m) * bytes ≤ 140737488355328) (hn : n + m ≤ maxLen) (hbase : base ≤ w.heap.size)
    (h : ∀ v' w', w'.ownsRow base e sz v' (n + m) (xs ++ news) → Below base w w' → Stays w w' v → K (a.put o.dst v') w') :
    if Region.wanted o (yielded ops a.tmps) = true then Oper.wp P o a w K Q else E := by
  have hw : Region.wanted o (yielded ops a.tmps) = true := by simp [Region.wanted, hgd]
  rw [if_pos hw]
  obtain ⟨v', w', hr, h2, h3, h4⟩ := append_runN H o.type hown hu hl h1 hb hn hbase
  exact Lib.wp_append_run w s x t t ho v u hs hx v' w' hr (h v' w' h2 h3 h4)
/-- A slice of one element, laid in a block of its own. -/
theorem SeesN.one (w : World) (e : TypeId) (us : List Value) : SeesN (w.alloc (.cells us.toArray e)) (.slice (some ⟨w.heap.size, 0, none⟩) 1 1) 1 us := by
  refine ⟨_, 1, rfl, Nat.le_refl _, .inr ⟨w.heap.size, 0, rfl, by simp, fun k c hk => ?_⟩⟩
  rw [cell_of_row _ w.heap.size _ _ _ (0, 0) (heap_alloc_new w _)]
  simpa using hk
/-- append of one element, which the walk lays in a block of its own, to a row of the call's own. -/
theorem append_n1 {P : Program} {t e : TypeId} {z : Value} {sz bytes : Nat} (H : NCell P t e z sz bytes) {w : World} {ops : Array Oper} {rest : List Oper} {o : Oper} {a : Act} {Q : Exit → Act → World → Prop} (hgd : o.guard = none) (s x : Operand)
    (ho : o.op = .call { callee := .builtin .append, args := #[s, x], argTypes := #[t, t] })
    (base : Nat) (v : Value) (n : Nat) (xs : List Value) (hs : a.eval s = v) (hown : w.ownsRow base e sz v n xs)
    (us : List Value) (ua : Array Value) (hua : ua = us.toArray) (hx : a.eval x = .slice (some ⟨w.heap.size, 0, none⟩) 1 1) (hl : us.length = sz) (h1 : ∀ c ∈ us, c.oneCell' = true)
    (hb : (n + 1) * bytes ≤ 140737488355328) (hn : n + 1 ≤ maxLen) (hbase : base ≤ w.heap.size)
    (h : ∀ v' w', w'.ownsRow base e sz v' (n + 1) (xs ++ us) → Below base w w' → Stays w w' v → wpList P ops Q rest (a.put o.dst v') w') : wpList P ops Q (o :: rest) a (w.alloc (.cells ua e)) := by
  subst hua
  refine append_n H hgd s x ho base v n xs hs (hown.alloc _) _ 1 us hx (SeesN.one w e us) (by rw [hl, Nat.one_mul]) h1 hb hn (by simp; omega) fun v' w' h2 h3 h4 => ?_
  refine h v' w' h2 (((Below.refl _ _).alloc hbase _).trans h3) fun q o hq hne => h4 q o ?_ hne
  rw [Below.heap_alloc w _ q (Array.getElem?_eq_some_iff.1 hq).1]
  exact hq
theorem step_append_n1 {P : Program} {t e : TypeId} {z : Value} {sz bytes : Nat} (H : NCell P t e z sz bytes) {w : World} {ops : Array Oper} {o : Oper} {a : Act} {K : Act → World → Prop} {Q : Exit → Act → World → Prop} {E : Prop} (hgd : o.guard = none) (s x : Operand)
    (ho : o.op = .call { callee := .builtin .append, args := #[s, x], argTypes := #[t, t] })
    (base : Nat) (v : Value) (n : Nat) (xs : List Value) (hs : a.eval s = v) (hown : w.ownsRow base e sz v n xs)
    (us : List Value) (q : Nat) (hx : a.eval x = .slice (some ⟨q, 0, none⟩) 1 1) (hq : SeesN w (.slice (some ⟨q, 0, none⟩) 1 1) 1 us) (hl : us.length = sz) (h1 : ∀ c ∈ us, c.oneCell' = true)
    (hb : (n + 1) * bytes ≤ 140737488355328) (hn : n + 1 ≤ maxLen) (hbase : base ≤ w.heap.size)
    (h : ∀ v' w', w'.ownsRow base e sz v' (n + 1) (xs ++ us) → Below base w w' → Stays w w' v → K (a.put o.dst v') w') :
    if Region.wanted o (yielded ops a.tmps) = true then Oper.wp P o a w K Q else E :=
  step_append_n H hgd s x ho base v n xs hs hown _ 1 us hx hq (by rw [hl, Nat.one_mul]) h1 hb hn hbase h

/-! ### Entries -/
def ec (x : E) : List Value := [.string x.name, .int .i64 x.node]
def ecs (l : List E) : List Value := l.flatMap ec
theorem ecs_cons (x : E) (l : List E) : ecs (x :: l) = .string x.name :: .int .i64 x.node :: ecs l := rfl
theorem ecs_len (l : List E) : (ecs l).length = l.length * 2 := by
  induction l with
  | nil => rfl
  | cons x r ih => rw [ecs_cons, List.length_cons, List.length_cons, List.length_cons, ih]; omega
theorem ecs_add (a b : List E) : ecs (a ++ b) = ecs a ++ ecs b := by simp [ecs]
theorem ecs_one (x : E) : ecs [x] = ec x := rfl
theorem ecs_at (l : List E) : ∀ {k : Nat} (hk : k < l.length), (ecs l)[k * 2]? = some (.string l[k].name) ∧ (ecs l)[k * 2 + 1]? = some (.int .i64 l[k].node) := by
  induction l with
  | nil => intro k hk; simp at hk
  | cons x r ih =>
    intro k hk
    rw [ecs_cons]
    cases k with
    | zero => simp
    | succ k =>
      have := ih (k := k) (by simpa using hk)
      rw [show (k + 1) * 2 = k * 2 + 1 + 1 by omega]
      simpa using this
theorem ecs_take (l : List E) (k : Nat) (hk : k ≤ l.length) : (ecs l).take (k * 2) = ecs (l.take k) := by
  have h : ecs l = ecs (l.take k) ++ ecs (l.drop k) := by rw [← ecs_add, List.take_append_drop]
  have hl : (ecs (l.take k)).length = k * 2 := by rw [ecs_len, List.length_take]; omega
  rw [h, ← hl, List.take_left]
theorem ecs_drop (l : List E) (k : Nat) (hk : k ≤ l.length) : (ecs l).drop (k * 2) = ecs (l.drop k) := by
  have h : ecs l = ecs (l.take k) ++ ecs (l.drop k) := by rw [← ecs_add, List.take_append_drop]
  have hl : (ecs (l.take k)).length = k * 2 := by rw [ecs_len, List.length_take]; omega
  rw [h, ← hl, List.drop_left]
theorem ecs_ones (l : List E) : ∀ c ∈ ecs l, c.oneCell' = true := by
  intro c hc
  simp only [ecs, List.mem_flatMap, ec] at hc
  obtain ⟨x, _, hc⟩ := hc
  rcases List.mem_cons.1 hc with rfl | hc
  · rfl
  · rcases List.mem_cons.1 hc with rfl | hc
    · rfl
    · cases hc
theorem ec_ones (x : E) : ∀ c ∈ ec x, c.oneCell' = true := by rw [← ecs_one]; exact ecs_ones _

theorem nEntry : NCell Tryz.prog 29 67 (.agg #[.string ⟨#[]⟩, .int .i64 0]) 2 24 := ⟨Tryz.underlying29, by kernel_rfl, rfl, by decide⟩

def SeesE (w : World) (v : Value) (l : List E) : Prop := SeesN w v l.length (ecs l)
theorem SeesE.later {w w' : World} {v : Value} {l : List E} (h : SeesE w v l) (hb : Below w.heap.size w w') : SeesE w' v l := SeesN.later h hb
theorem SeesE.cells {w : World} {a : Option Addr} {n cap : Nat} {l : List E} (h : SeesE w (.slice a n cap) l) {k : Nat} (hk : k < l.length) :
    ∃ g off, a = some ⟨g, off, none⟩ ∧ g < w.heap.size ∧ w.cell? ⟨g, off + k * 2, none⟩ = some (.string l[k].name) ∧ w.cell? ⟨g, off + k * 2 + 1, none⟩ = some (.int .i64 l[k].node) := by
  obtain ⟨a', cap', e, _, h⟩ := h
  injection e with e1 e2 e3
  subst e1
  obtain ⟨h1, h2⟩ := ecs_at l hk
  rcases h with h0 | ⟨g, off, rfl, hg, hc⟩
  · rw [h0] at h1; simp at h1
  · exact ⟨g, off, rfl, hg, hc _ _ h1, by rw [Nat.add_assoc]; exact hc _ _ h2⟩
/-- A row of entries of the call's own. -/
abbrev OwnE (w : World) (base : Nat) (v : Value) (l : List E) : Prop := w.ownsRow base 67 2 v l.length (ecs l)
theorem SeesE.of_own {w : World} {base : Nat} {v : Value} {l : List E} (h : OwnE w base v l) : SeesE w v l := SeesN.of_own h

/-! ### Operations -/
def oc (x : O) : List Value := [.int .i64 x.kind, .string x.name, .string x.dst, .int .i64 x.node]
def ocs (l : List O) : List Value := l.flatMap oc
theorem ocs_cons (x : O) (l : List O) : ocs (x :: l) = .int .i64 x.kind :: .string x.name :: .string x.dst :: .int .i64 x.node :: ocs l := rfl
theorem ocs_len (l : List O) : (ocs l).length = l.length * 4 := by
  induction l with
  | nil => rfl
  | cons x r ih => rw [ocs_cons, List.length_cons, List.length_cons, List.length_cons, List.length_cons, List.length_cons, ih]; omega
theorem ocs_add (a b : List O) : ocs (a ++ b) = ocs a ++ ocs b := by simp [ocs]
theorem ocs_one (x : O) : ocs [x] = oc x := rfl
theorem ocs_at (l : List O) : ∀ {k : Nat} (hk : k < l.length), (ocs l)[k * 4]? = some (.int .i64 l[k].kind) ∧ (ocs l)[k * 4 + 1]? = some (.string l[k].name) ∧ (ocs l)[k * 4 + 2]? = some (.string l[k].dst) ∧ (ocs l)[k * 4 + 3]? = some (.int .i64 l[k].node) := by
  induction l with
  | nil => intro k hk; simp at hk
  | cons x r ih =>
    intro k hk
    rw [ocs_cons]
    cases k with
    | zero => simp
    | succ k =>
      have := ih (k := k) (by simpa using hk)
      rw [show (k + 1) * 4 = k * 4 + 1 + 1 + 1 + 1 by omega]
      simpa using this
theorem ocs_take (l : List O) (k : Nat) (hk : k ≤ l.length) : (ocs l).take (k * 4) = ocs (l.take k) := by
  have h : ocs l = ocs (l.take k) ++ ocs (l.drop k) := by rw [← ocs_add, List.take_append_drop]
  have hl : (ocs (l.take k)).length = k * 4 := by rw [ocs_len, List.length_take]; omega
  rw [h, ← hl, List.take_left]
theorem ocs_ones (l : List O) : ∀ c ∈ ocs l, c.oneCell' = true := by
  intro c hc
  simp only [ocs, List.mem_flatMap, oc] at hc
  obtain ⟨x, _, hc⟩ := hc
  simp at hc
  rcases hc with rfl | rfl | rfl | rfl <;> rfl
theorem oc_ones (x : O) : ∀ c ∈ oc x, c.oneCell' = true := by rw [← ocs_one]; exact ocs_ones _
theorem nOp : NCell Tryz.prog 30 65 (.agg #[.int .i64 0, .string ⟨#[]⟩, .string ⟨#[]⟩, .int .i64 0]) 4 48 := ⟨Tryz.underlying30, by kernel_rfl, rfl, by decide⟩
def SeesO (w : World) (v : Value) (l : List O) : Prop := SeesN w v l.length (ocs l)
theorem SeesO.later {w w' : World} {v : Value} {l : List O} (h : SeesO w v l) (hb : Below w.heap.size w w') : SeesO w' v l := SeesN.later h hb
theorem SeesO.cells {w : World} {a : Option Addr} {n cap : Nat} {l : List O} (h : SeesO w (.slice a n cap) l) {k : Nat} (hk : k < l.length) :
    ∃ g off, a = some ⟨g, off, none⟩ ∧ g < w.heap.size ∧ w.cell? ⟨g, off + k * 4, none⟩ = some (.int .i64 l[k].kind) ∧ w.cell? ⟨g, off + k * 4 + 1, none⟩ = some (.string l[k].name) ∧ w.cell? ⟨g, off + k * 4 + 2, none⟩ = some (.string l[k].dst) ∧ w.cell? ⟨g, off + k * 4 + 3, none⟩ = some (.int .i64 l[k].node) := by
  obtain ⟨a', cap', e, _, h⟩ := h
  injection e with e1 e2 e3
  subst e1
  obtain ⟨h1, h2, h3, h4⟩ := ocs_at l hk
  rcases h with h0 | ⟨g, off, rfl, hg, hc⟩
  · rw [h0] at h1; simp at h1
  · exact ⟨g, off, rfl, hg, hc _ _ h1, by rw [Nat.add_assoc]; exact hc _ _ h2, by rw [Nat.add_assoc]; exact hc _ _ h3, by rw [Nat.add_assoc]; exact hc _ _ h4⟩
abbrev OwnO (w : World) (base : Nat) (v : Value) (l : List O) : Prop := w.ownsRow base 65 4 v l.length (ocs l)
theorem SeesO.of_own {w : World} {base : Nat} {v : Value} {l : List O} (h : OwnO w base v l) : SeesO w v l := SeesN.of_own h
end Go.Proofs.YtaklilhnikmmfaaGreat

/-
  The leaves of dir: names, strings.Compare, the function literal that compares an entry with a name; the reference's Name.
-/
namespace Go.Proofs.YtaklilhnikmmfaaGreat
open Go.RowKit StrM DirM

theorem okB_cases (c : UInt8) : ∃ z : Int, z = (c.toNat : Int) ∧
    ((okB c = true ∧ 97 ≤ z ∧ z ≤ 122) ∨ (okB c = false ∧ 97 ≤ z ∧ 122 < z) ∨ (okB c = true ∧ z < 97 ∧ 48 ≤ z ∧ z ≤ 57) ∨ (okB c = false ∧ z < 97 ∧ 48 ≤ z ∧ 57 < z) ∨ (okB c = true ∧ z < 48 ∧ z = 46) ∨ (okB c = false ∧ z < 48 ∧ z ≠ 46)) := by
  refine ⟨_, rfl, ?_⟩
  unfold okB
  simp
  omega

set_option maxHeartbeats 1000000 in
theorem allowed_any (c : UInt8) (w : World) : Calls Tryz.prog 126 #[.int .u8 (c.toNat : Int)] w fun e w' => e = .returned (.bool (okB c)) ∧ w = w' := by
  obtain ⟨z, hz, h⟩ := okB_cases c
  rw [← hz]
  clear hz
  rcases h with ⟨ho, h1, h2⟩ | ⟨ho, h1, h2⟩ | ⟨ho, h1, h2, h3⟩ | ⟨ho, h1, h2, h3⟩ | ⟨ho, h1, h2⟩ | ⟨ho, h1, h2⟩ <;> rw [ho] <;> clear ho
  · go_enter Tryz.func126, Tryz.ntmps126
    go_wp2_with fail
    go_ret
    exact ⟨rfl, rfl⟩
  · have d1 : decide (z ≤ 122) = false := decide_eq_false (by omega)
    have d2 : decide (z ≤ 57) = false := decide_eq_false (by omega)
    have h3 : (48 : Int) ≤ z := by omega
    have h4 : (z == 46) = false := by simp; omega
    go_enter Tryz.func126, Tryz.ntmps126
    go_wp2_with fail
    go_ret
    exact ⟨rfl, rfl⟩
  · have d1 : decide ((97 : Int) ≤ z) = false := decide_eq_false (by omega)
    go_enter Tryz.func126, Tryz.ntmps126
    go_wp2_with fail
    go_ret
    exact ⟨rfl, rfl⟩
  · have d1 : decide ((97 : Int) ≤ z) = false := decide_eq_false (by omega)
    have d2 : decide (z ≤ 57) = false := decide_eq_false (by omega)
    have h4 : (z == 46) = false := by simp; omega
    go_enter Tryz.func126, Tryz.ntmps126
    go_wp2_with fail
    go_ret
    exact ⟨rfl, rfl⟩
  · subst h2
    go_enter Tryz.func126, Tryz.ntmps126
    go_wp2_with fail
    go_ret
    exact ⟨rfl, rfl⟩
  · have d1 : decide ((97 : Int) ≤ z) = false := decide_eq_false (by omega)
    have d2 : decide ((48 : Int) ≤ z) = false := decide_eq_false (by omega)
    have h4 : (z == 46) = false := by simp; omega
    go_enter Tryz.func126, Tryz.ntmps126
    go_wp2_with fail
    go_ret
    exact ⟨rfl, rfl⟩

set_option maxHeartbeats 1000000 in
theorem dname_any (s : ByteArray) (w : World) : Calls Tryz.prog 106 #[.string s] w fun e w' => e = .returned (.bool (nameOk s)) ∧ w = w' := by
  by_cases h1 : s.size < 1
  · rw [name_short h1]
    go_enter Tryz.func106, Tryz.ntmps106
    go_wp2_with fail
    go_ret
    exact ⟨rfl, rfl⟩
  · by_cases h2 : 24 < s.size
    · rw [name_long h2]
      have d1 : decide ((s.size : Int) < 1) = false := decide_eq_false (by omega)
      have d2 : decide (s.size < 1) = false := decide_eq_false (by omega)
      have d3 : (24 : Int) < (s.size : Int) := by omega
      go_enter Tryz.func106, Tryz.ntmps106
      go_wp2_with fail
      go_ret
      exact ⟨rfl, rfl⟩
    · have d1 : decide ((s.size : Int) < 1) = false := decide_eq_false (by omega)
      have d2 : decide (s.size < 1) = false := decide_eq_false (by omega)
      have d3 : decide ((24 : Int) < (s.size : Int)) = false := decide_eq_false (by omega)
      have d4 : decide (24 < s.size) = false := decide_eq_false (by omega)
      obtain ⟨r, hr⟩ : ∃ r, r = nameOk s := ⟨_, rfl⟩
      rw [← hr]
      have HR := Lib.hid hr
      have HN := Lib.hid (show (decide (1 ≤ s.size) && decide (s.size ≤ 24)) = true by simp; omega)
      clear hr
      go_enter Tryz.func106, Tryz.ntmps106
      go_wp2_with fail
      go_loop [14] (fun i => ∃ k : Nat, k ≤ s.size ∧ i = .int .i64 k ∧ allOk s k = true) (fun i => s.size - (intOf i).toNat)
      case atStart => exact ⟨0, Nat.zero_le _, rfl, allOk_zero s⟩
      case round =>
        obtain ⟨k, hk, rfl, hd⟩ := hrel
        have HD := Lib.hid hd
        clear hd
        by_cases hlt : k < s.size
        · have AL := Lib.hid (fun w => allowed_any s[k] w)
          cases hb : okB s[k] with
          | false =>
            rw [hb] at AL
            have HX := Lib.hid (show r = false by rw [HR.out, name_bad hlt hb])
            clear hb
            go_wp2_with fail
            refine (AL.out _).mono ?_
            rintro e w' ⟨rfl, rfl⟩
            go_wp2_with fail
            go_ret
            exact ⟨ret_bool HX.out.symm, rfl⟩
          | true =>
            rw [hb] at AL
            have HX := Lib.hid (show allOk s (k + 1) = true by rw [allOk_next hlt HD.out, hb])
            clear hb
            go_wp2_with fail
            refine (AL.out _).mono ?_
            rintro e w' ⟨rfl, rfl⟩
            go_wp2_with fail
            go_round
            case rel => exact ⟨k + 1, by omega, by go_num, HX.out⟩
            case measure => simp [intOf]; omega
        · have HX := Lib.hid (show r = true by
            rw [HR.out, name_good (by rw [← show k = s.size by omega]; exact HD.out), HN.out])
          go_wp2_with fail
          go_ret
          exact ⟨ret_bool HX.out.symm, rfl⟩

set_option maxHeartbeats 2000000 in
theorem rname_any (s : ByteArray) (w : World) (hs : s.size ≤ maxLen) : Calls Tryz.prog 101 #[.string s] w fun e w' => e = .returned (.bool (nameOk s)) ∧ w = w' := by
  unfold maxLen at hs
  obtain ⟨r, hr⟩ : ∃ r, r = nameOk s := ⟨_, rfl⟩
  rw [← hr]
  have HR := Lib.hid hr
  clear hr
  go_enter Tryz.func101, Tryz.ntmps101
  go_wp2_with fail
  go_loop [3] (fun i => ∃ k : Nat, k ≤ s.size ∧ i = .int .i64 k ∧ allOk s k = true) (fun i => s.size - (intOf i).toNat)
  case atStart => exact ⟨0, Nat.zero_le _, rfl, allOk_zero s⟩
  case round =>
    obtain ⟨k, hk, rfl, hd⟩ := hrel
    have HD := Lib.hid hd
    clear hd
    by_cases hlt : k < s.size
    · obtain ⟨z, hz, h⟩ := okB_cases s[k]
      have hcell : ((s[k].toNat : Nat) : Int) = z := hz.symm
      have HB := Lib.hid (show okB s[k] = false → r = false from fun hb => by rw [HR.out, name_bad hlt hb])
      have HG := Lib.hid (show okB s[k] = true → allOk s (k + 1) = true from fun hb => by rw [allOk_next hlt HD.out, hb])
      clear hz
      rcases h with ⟨ho, h1, h2⟩ | ⟨ho, h1, h2⟩ | ⟨ho, h1, h2, h3⟩ | ⟨ho, h1, h2, h3⟩ | ⟨ho, h1, h2⟩ | ⟨ho, h1, h2⟩
      · have HX := Lib.hid (HG.out ho)
        clear ho HB HG
        go_wp2_with fail
        go_round
        case rel => exact ⟨k + 1, by omega, by go_num, HX.out⟩
        case measure => simp [intOf]; omega
      · have HX := Lib.hid (HB.out ho)
        have d1 : decide (z ≤ 122) = false := decide_eq_false (by omega)
        have d2 : decide (z ≤ 57) = false := decide_eq_false (by omega)
        have h3 : (48 : Int) ≤ z := by omega
        have h4 : (z == 46) = false := by simp; omega
        clear ho HB HG
        go_wp2_with fail
        go_ret
        exact ⟨ret_bool HX.out.symm, rfl⟩
      · have HX := Lib.hid (HG.out ho)
        have d1 : decide ((97 : Int) ≤ z) = false := decide_eq_false (by omega)
        clear ho HB HG
        go_wp2_with fail
        go_round
        case rel => exact ⟨k + 1, by omega, by go_num, HX.out⟩
        case measure => simp [intOf]; omega
      · have HX := Lib.hid (HB.out ho)
        have d1 : decide ((97 : Int) ≤ z) = false := decide_eq_false (by omega)
        have d2 : decide (z ≤ 57) = false := decide_eq_false (by omega)
        have h4 : (z == 46) = false := by simp; omega
        clear ho HB HG
        go_wp2_with fail
        go_ret
        exact ⟨ret_bool HX.out.symm, rfl⟩
      · have HX := Lib.hid (HG.out ho)
        subst h2
        clear ho HB HG
        go_wp2_with fail
        go_round
        case rel => exact ⟨k + 1, by omega, by go_num, HX.out⟩
        case measure => simp [intOf]; omega
      · have HX := Lib.hid (HB.out ho)
        have d1 : decide ((97 : Int) ≤ z) = false := decide_eq_false (by omega)
        have d2 : decide ((48 : Int) ≤ z) = false := decide_eq_false (by omega)
        have h4 : (z == 46) = false := by simp; omega
        clear ho HB HG
        go_wp2_with fail
        go_ret
        exact ⟨ret_bool HX.out.symm, rfl⟩
    · have HX := Lib.hid (show r = (decide (1 ≤ s.size) && decide (s.size ≤ 24)) by
        rw [HR.out, name_good (by rw [← show k = s.size by omega]; exact HD.out)])
      by_cases h1 : 1 ≤ s.size
      · have d1 : (1 : Int) ≤ (s.size : Int) := by omega
        by_cases h2 : s.size ≤ 24
        · have d2 : (s.size : Int) ≤ 24 := by omega
          go_wp2_with fail
          go_ret
          exact ⟨ret_bool (by rw [HX.out]; simp [h1, h2]), rfl⟩
        · have d2 : decide ((s.size : Int) ≤ 24) = false := decide_eq_false (by omega)
          have d3 : decide (s.size ≤ 24) = false := decide_eq_false (by omega)
          go_wp2_with fail
          go_ret
          exact ⟨ret_bool (by rw [HX.out]; simp [h2]), rfl⟩
      · have d1 : decide ((1 : Int) ≤ (s.size : Int)) = false := decide_eq_false (by omega)
        have d2 : decide (1 ≤ s.size) = false := decide_eq_false (by omega)
        go_wp2_with fail
        go_ret
        exact ⟨ret_bool (by rw [HX.out]; simp [h1]), rfl⟩

theorem cmp_run (a b : ByteArray) (w : World) : (callFunc 143 #[.string a, .string b]).run Tryz.prog w = .ok (.value (.int .i64 (cmp a b))) w := by
  rw [run_callFunc_extern Tryz.func143 (by kernel_rfl) (by kernel_rfl) (by kernel_rfl) (e := Extern.BytealgCompare.compare) (by kernel_rfl), Lib.run_compareString]
  rfl
theorem compareS_any (a b : ByteArray) (w : World) : Calls Tryz.prog 140 #[.string a, .string b] w fun e w' => e = .returned (.int .i64 (cmp a b)) ∧ w = w' := by
  have hr := cmp_run a b
  go_enter Tryz.func140, Tryz.ntmps140
  go_wp2_with fail
  go_ret
  exact ⟨rfl, rfl⟩
theorem compare_any (a b : ByteArray) (w : World) : Calls Tryz.prog 130 #[.string a, .string b] w fun e w' => e = .returned (.int .i64 (cmp a b)) ∧ w = w' := by
  go_enter Tryz.func130, Tryz.ntmps130
  go_wp2_with fail
  refine (compareS_any _ _ _).mono ?_
  rintro e w' ⟨rfl, rfl⟩
  go_wp2_with fail
  go_ret
  exact ⟨rfl, rfl⟩
theorem dlit_any (x : E) (n : ByteArray) (w : World) : Calls Tryz.prog 129 #[.agg #[.string x.name, .int .i64 x.node], .string n] w fun e w' => e = .returned (.int .i64 (cmp x.name n)) ∧ Below w.heap.size w w' := by
  obtain ⟨s, m⟩ := x
  have HB := Lib.hid (below_made w (.cells #[.string s, .int .i64 m] 67))
  go_enter Tryz.func129, Tryz.ntmps129
  go_wp2_with fail
  refine (compare_any _ _ _).mono ?_
  rintro e w' ⟨rfl, rfl⟩
  go_wp2_with fail
  go_ret
  exact ⟨rfl, HB.out⟩
end Go.Proofs.YtaklilhnikmmfaaGreat

/-
  A row of the call's own, known whole: what append, copy and clear make of it; slices.Delete of one entry.
-/
namespace Go.Proofs.YtaklilhnikmmfaaGreat
open Go.RowKit StrM DirM

/-! ### One row turns -/
def Turn (g : Nat) (w w' : World) : Prop := ∃ cs, w' = w.setRow g cs
theorem Turn.below {g B : Nat} {w0 w w' : World} (h : Turn g w w') (hb : Below B w0 w) (hB : B ≤ g) : Below B w0 w' := by
  obtain ⟨cs, rfl⟩ := h
  exact below_setRow hb hB cs
theorem Turn.other {g q : Nat} {w w' : World} (h : Turn g w w') (hq : q ≠ g) : w'.heap[q]? = w.heap[q]? := by
  obtain ⟨cs, rfl⟩ := h
  exact setRow_other w g q cs hq
theorem Turn.size {g : Nat} {w w' : World} (h : Turn g w w') : w'.heap.size = w.heap.size := by
  obtain ⟨cs, rfl⟩ := h
  simp [World.setRow]

theorem splice_take {α : Type} {L : List α} {off : Nat} (cs : List α) (h : off ≤ L.length) : (splice L off cs).take (off + cs.length) = L.take off ++ cs := by
  unfold splice
  rw [← List.append_assoc, List.take_append_of_le_length (by rw [List.length_append, List.length_take]; omega)]
  exact List.take_of_length_le (by rw [List.length_append, List.length_take]; omega)
theorem splice_low {α : Type} {L : List α} {off k : Nat} (cs : List α) (h : off ≤ L.length) (hk : k ≤ off) : (splice L off cs).take k = L.take k := by
  unfold splice
  rw [List.take_append_of_le_length (by rw [List.length_take]; omega), List.take_take, Nat.min_eq_left hk]
theorem splice_drop {α : Type} {L : List α} {off : Nat} (cs : List α) (h : off ≤ L.length) : (splice L off cs).drop off = cs ++ L.drop (off + cs.length) := by
  unfold splice
  rw [List.drop_append_of_le_length (by rw [List.length_take]; omega), List.drop_of_length_le (by rw [List.length_take]; omega), List.nil_append]

theorem run_copyN {P : Program} {t e : TypeId} {z : Value} {sz bytes : Nat} (H : NCell P t e z sz bytes) (w : World) (ty : TypeId) (g o dLen dCap : Nat) (ad : Addr) (sLen sCap : Nat) (cur : List Value) (hg : w.heap[g]? = some (.cells cur.toArray e (0, 0)))
    (cs : List Value) (m : Nat) (hm : m = Nat.min sLen dLen) (hn : cs.length = m * sz) (hsrc : ∀ j v, cs[j]? = some v → w.cell? (ad.add j) = some v) (hfit : o + cs.length ≤ cur.length) (h1 : ∀ v ∈ cs, v.oneCell' = true) :
    ∃ w', (Builtin.copy_ #[t, t] ty #[.slice (some ⟨g, o, none⟩) dLen dCap, .slice (some ad) sLen sCap]).run P w = .ok (goInt m) w' ∧ Turn g w w' ∧ w'.heap[g]? = some (.cells (splice cur o cs).toArray e (0, 0)) := by
  obtain ⟨i0, hi, hz0, hz1, hz2⟩ := info_parts H.info
  have hl := run_loadCells_list (P := P) w ad cs hsrc
  rw [hn, hm] at hl
  have hst := run_storeCells_at P g o e cs 0 cur.toArray w hg (by simpa using hfit) h1
  refine ⟨w.setRow g (splice cur o cs).toArray, ?_, ⟨_, rfl⟩, setRow_heap w g _ _ e _ hg⟩
  simp [Builtin.copy_, run_underlying H.under, Builtin.lenOf, Builtin.firstCells, sizeOf, typeInfo, hi, hz1, hl, hst, splice, hm]

theorem wpList_copyN {P : Program} {t e : TypeId} {z : Value} {sz bytes : Nat} (H : NCell P t e z sz bytes) {w : World} {ops : Array Oper} {rest : List Oper} {o : Oper} {a : Act} {Q : Exit → Act → World → Prop} (hgd : o.guard = none) (d s : Operand)
    (ho : o.op = .call { callee := .builtin .copy, args := #[d, s], argTypes := #[t, t] }) (g p dLen dCap : Nat) (ad : Addr) (sLen sCap : Nat) (hd : a.eval d = .slice (some ⟨g, p, none⟩) dLen dCap) (hs : a.eval s = .slice (some ad) sLen sCap)
    (cur : List Value) (hg : w.heap[g]? = some (.cells cur.toArray e (0, 0)))
    (cs : List Value) (m : Nat) (hm : m = Nat.min sLen dLen) (hn : cs.length = m * sz) (hsrc : ∀ j v, cs[j]? = some v → w.cell? (ad.add j) = some v) (hfit : p + cs.length ≤ cur.length) (h1 : ∀ v ∈ cs, v.oneCell' = true)
    (h : ∀ w', Turn g w w' → w'.heap[g]? = some (.cells (splice cur p cs).toArray e (0, 0)) → wpList P ops Q rest (a.put o.dst (goInt m)) w') : wpList P ops Q (o :: rest) a w := by
  obtain ⟨w', hr, h2, h3⟩ := run_copyN H w o.type g p dLen dCap ad sLen sCap cur hg cs m hm hn hsrc hfit h1
  refine wpList_plain hgd fun K hK => ?_
  have hfin := hK _ _ (h w' h2 h3)
  unfold Oper.wp execOp
  simp only [ho, resolve, invoke, builtin, Sem.run_bind, Sem.run_pure, Result.andThen_ok, List.map_toArray, List.map_cons, List.map_nil, hd, hs, hr]
  exact hfin
theorem step_copyN {P : Program} {t e : TypeId} {z : Value} {sz bytes : Nat} (H : NCell P t e z sz bytes) {w : World} {ops : Array Oper} {o : Oper} {a : Act} {K : Act → World → Prop} {Q : Exit → Act → World → Prop} {E : Prop} (hgd : o.guard = none) (d s : Operand)
    (ho : o.op = .call { callee := .builtin .copy, args := #[d, s], argTypes := #[t, t] }) (g p dLen dCap : Nat) (ad : Addr) (sLen sCap : Nat) (hd : a.eval d = .slice (some ⟨g, p, none⟩) dLen dCap) (hs : a.eval s = .slice (some ad) sLen sCap)
    (cur : List Value) (hg : w.heap[g]? = some (.cells cur.toArray e (0, 0)))
    (cs : List Value) (m : Nat) (hm : m = Nat.min sLen dLen) (hn : cs.length = m * sz) (hsrc : ∀ j v, cs[j]? = some v → w.cell? (ad.add j) = some v) (hfit : p + cs.length ≤ cur.length) (h1 : ∀ v ∈ cs, v.oneCell' = true)
    (h : ∀ w', Turn g w w' → w'.heap[g]? = some (.cells (splice cur p cs).toArray e (0, 0)) → K (a.put o.dst (goInt m)) w') :
    if Region.wanted o (yielded ops a.tmps) = true then Oper.wp P o a w K Q else E := by
  have hw : Region.wanted o (yielded ops a.tmps) = true := by simp [Region.wanted, hgd]
  rw [if_pos hw]
  obtain ⟨w', hr, h2, h3⟩ := run_copyN H w o.type g p dLen dCap ad sLen sCap cur hg cs m hm hn hsrc hfit h1
  have hfin := h w' h2 h3
  unfold Oper.wp execOp
  simp only [ho, resolve, invoke, builtin, Sem.run_bind, Sem.run_pure, Result.andThen_ok, List.map_toArray, List.map_cons, List.map_nil, hd, hs, hr]
  exact hfin

/-- append within the capacity, as one step of a region that draws its order. -/
theorem step_appendRow {P : Program} {t e : TypeId} {z : Value} {sz bytes : Nat} (H : NCell P t e z sz bytes) {w : World} {ops : Array Oper} {o : Oper} {a : Act} {K : Act → World → Prop} {Q : Exit → Act → World → Prop} {E : Prop} (hgd : o.guard = none) (s x : Operand)
    (ho : o.op = .call { callee := .builtin .append, args := #[s, x], argTypes := #[t, t] }) (g i cap : Nat) (ad : Addr) (m c : Nat) (hs : a.eval s = .slice (some ⟨g, 0, none⟩) i cap) (hx : a.eval x = .slice (some ad) m c)
    (cur : List Value) (hg : w.heap[g]? = some (.cells cur.toArray e (0, 0))) (news : List Value) (hl : news.length = m * sz) (hnews : ∀ j u, news[j]? = some u → w.cell? (ad.add j) = some u) (h1 : ∀ u ∈ news, u.oneCell' = true)
    (hroom : i + m ≤ cap) (hfit : i * sz + news.length ≤ cur.length)
    (h : ∀ w', Turn g w w' → w'.heap[g]? = some (.cells (splice cur (i * sz) news).toArray e (0, 0)) → K (a.put o.dst (.slice (some ⟨g, 0, none⟩) (i + m) cap)) w') :
    if Region.wanted o (yielded ops a.tmps) = true then Oper.wp P o a w K Q else E := by
  have hw : Region.wanted o (yielded ops a.tmps) = true := by simp [Region.wanted, hgd]
  rw [if_pos hw]
  obtain ⟨i0, hi, hz0, hz1, hz2⟩ := info_parts H.info
  subst hz1
  have hr := run_append_room (P := P) w t o.type e i0 H.under hi g i cap cur.toArray hg ad m c news hl hnews h1 hroom (by simpa using hfit)
  refine Lib.wp_append_run w s x t t ho _ _ hs hx _ _ hr (h _ ⟨_, rfl⟩ ?_)
  have := setRow_heap w g cur.toArray (splice cur (i * i0.size) news).toArray e (0, 0) hg
  simpa [splice] using this

theorem wpList_clear1 {P : Program} {t e : TypeId} {z : Value} {sz bytes : Nat} (H : NCell P t e z sz bytes) {w : World} {ops : Array Oper} {rest : List Oper} {o : Oper} {a : Act} {Q : Exit → Act → World → Prop} (hgd : o.guard = none) (x : Operand)
    (ho : o.op = .call { callee := .builtin .clear, args := #[x], argTypes := #[t] }) (g p c : Nat) (hx : a.eval x = .slice (some ⟨g, p, none⟩) 1 c)
    (cur : List Value) (hg : w.heap[g]? = some (.cells cur.toArray e (0, 0))) (zs : List Value) (hzs : (Builtin.zeroCells z.cells 1).toList = zs) (h1 : ∀ u ∈ zs, u.oneCell' = true) (hfit : p + zs.length ≤ cur.length)
    (h : ∀ w', Turn g w w' → w'.heap[g]? = some (.cells (splice cur p zs).toArray e (0, 0)) → wpList P ops Q rest (a.put o.dst (.tuple #[])) w') : wpList P ops Q (o :: rest) a w := by
  obtain ⟨i0, hi, hz0, hz1, hz2⟩ := info_parts H.info
  have hst := run_storeCells_at P g p e zs 0 cur.toArray w hg (by simpa using hfit) h1
  have hr : (Builtin.clear_ #[t] o.type #[.slice (some ⟨g, p, none⟩) 1 c]).run P w = .ok (.tuple #[]) (w.setRow g (splice cur p zs).toArray) := by
    simp [Builtin.clear_, run_underlying H.under, zeroValue, typeInfo, hi, hz0, hzs, hst, splice]
  refine wpList_plain hgd fun K hK => ?_
  have hfin := hK _ _ (h _ ⟨_, rfl⟩ (setRow_heap w g _ _ e _ hg))
  unfold Oper.wp execOp
  simp only [ho, resolve, invoke, builtin, Sem.run_bind, Sem.run_pure, Result.andThen_ok, List.map_toArray, List.map_cons, List.map_nil, hx, hr]
  exact hfin

/-! ### Entries in a row of the call's own -/
theorem OwnE.row {w : World} {base g n cap : Nat} {l : List E} (h : OwnE w base (.slice (some ⟨g, 0, none⟩) n cap) l) :
    ∃ cl : List Value, w.heap[g]? = some (.cells cl.toArray 67 (0, 0)) ∧ cl.length = cap * 2 ∧ cl.take (n * 2) = ecs l ∧ n = l.length ∧ n ≤ cap ∧ cap ≤ maxLen ∧ base ≤ g ∧ g < w.heap.size := by
  rcases h.2 with ⟨h', _⟩ | ⟨g', cap', cur, h', hb, hg, hc, hm, hs, ht⟩
  · cases h'
  · injection h' with h1 h2 h3
    injection h1 with h1
    injection h1 with h1 _ _
    subst h1 h2 h3
    exact ⟨cur.toList, by simpa using hg, by simpa using hs, ht, rfl, hc, hm, hb, (Array.getElem?_eq_some_iff.1 hg).1⟩
theorem OwnE.of_row {w : World} {base g n cap : Nat} {l : List E} {cl : List Value} (hg : w.heap[g]? = some (.cells cl.toArray 67 (0, 0))) (hs : cl.length = cap * 2) (ht : cl.take (n * 2) = ecs l) (hn : n = l.length) (hc : n ≤ cap) (hm : cap ≤ maxLen) (hb : base ≤ g) :
    OwnE w base (.slice (some ⟨g, 0, none⟩) n cap) l := by
  subst hn
  exact ⟨ecs_len l, .inr ⟨g, cap, cl.toArray, rfl, hb, hg, hc, hm, by simpa using hs, by simpa using ht⟩⟩
theorem row_cell {w : World} {g : Nat} {cl : List Value} {e : TypeId} (hg : w.heap[g]? = some (.cells cl.toArray e (0, 0))) (j : Nat) : w.cell? ⟨g, j, none⟩ = cl[j]? := by
  rw [cell_of_row w g _ _ _ (0, 0) hg]; simp

theorem zero_entry : (Builtin.zeroCells (Value.agg #[.string ⟨#[]⟩, .int .i64 0]).cells 1).toList = [.string ⟨#[]⟩, .int .i64 0] := by kernel_rfl

/-- What slices.Delete returns. -/
def DelPost (base g n cap i : Nat) (l : List E) (w : World) (e : Ending) (w' : World) : Prop :=
  e = .returned (.slice (some ⟨g, 0, none⟩) (n - 1) cap) ∧ OwnE w' base (.slice (some ⟨g, 0, none⟩) (n - 1) cap) (l.take i ++ l.drop (i + 1)) ∧ Below base w w' ∧ Stays w w' (.slice (some ⟨g, 0, none⟩) n cap)

set_option maxHeartbeats 2000000 in
set_option maxRecDepth 100000 in
theorem delete_any (base g n cap i : Nat) (l : List E) (w : World) (hown : OwnE w base (.slice (some ⟨g, 0, none⟩) n cap) l) (hi : i < n) (hL : n ≤ 1000) :
    Calls Tryz.prog 112 #[.slice (some ⟨g, 0, none⟩) n cap, .int .i64 (i : Int), .int .i64 ((i + 1 : Nat) : Int)] w (DelPost base g n cap i l w) := by
  obtain ⟨cl, hg, hlen, htake, hn, hc, hm, hb, hlt⟩ := hown.row
  obtain ⟨j, hj⟩ : ∃ j, j = i + 1 := ⟨_, rfl⟩
  rw [← hj]
  obtain ⟨news, hnews⟩ : ∃ news, news = ecs (l.drop j) := ⟨_, rfl⟩
  have hnl : news.length = (n - j) * 2 := by rw [hnews, ecs_len, List.length_drop, hn]
  have hcell : ∀ t u, news[t]? = some u → cl[j * 2 + t]? = some u := by
    intro t u hu
    have ht : t < (n - j) * 2 := by rw [← hnl]; exact (List.getElem?_eq_some_iff.1 hu).1
    rw [hnews, ← ecs_drop l j (by omega), List.getElem?_drop, ← htake, List.getElem?_take, if_pos (by omega)] at hu
    exact hu
  have hdrew : w.drew.heap[g]? = some (.cells cl.toArray 67 (0, 0)) := hg
  obtain ⟨A, hA, hsrc⟩ : ∃ A : Addr, (if cap = j then some (⟨g, 0, none⟩ : Addr) else some ⟨g, j * 2, none⟩) = some A ∧ Hid (∀ t u, news[t]? = some u → w.drew.cell? (A.add t) = some u) := by
    by_cases h : cap = j
    · refine ⟨⟨g, 0, none⟩, by simp [h], fun t u hu => ?_⟩
      have h0 : news.length = 0 := by rw [hnl]; omega
      rw [List.length_eq_zero_iff.1 h0] at hu
      simp at hu
    · refine ⟨⟨g, j * 2, none⟩, by simp [h], fun t u hu => ?_⟩
      rw [Addr.add_lit, row_cell hdrew]
      exact hcell t u hu
  have S1 := Lib.hid hnl
  have S2 := Lib.hid (show ∀ u ∈ news, u.oneCell' = true by rw [hnews]; exact ecs_ones _)
  have S3 := Lib.hid (show i * 2 + news.length ≤ cl.length by rw [hnl, hlen]; omega)
  have HD := Lib.hid hdrew
  have T1 := Lib.hid (show (splice cl (i * 2) news).take ((n - 1) * 2) = ecs (l.take i ++ l.drop j) by
    have e : (n - 1) * 2 = i * 2 + news.length := by rw [hnl]; omega
    rw [e, splice_take news (by rw [hlen]; omega), ecs_add, ← ecs_take l i (by omega), ← htake, List.take_take, Nat.min_eq_left (by omega), hnews])
  have L1 := Lib.hid (show (splice cl (i * 2) news).length = cap * 2 by rw [length_splice _ _ _ S3.out, hlen])
  have HJ := Lib.hid hj
  have HL := Lib.hid (show n - 1 = (l.take i ++ l.drop j).length by rw [List.length_append, List.length_take, List.length_drop, ← hn]; omega)
  have HM := Lib.hid hm
  have HB := Lib.hid hb
  have hne : ((i : Int) == (j : Int)) = false := by simp; omega
  have hij : i < j := by omega
  have hjn : j ≤ n := by omega
  have hic : i ≤ cap := by omega
  have hjc : j ≤ cap := by omega
  have hin : i ≤ n := by omega
  obtain ⟨m, hm'⟩ : ∃ m, m = i + (n - j) := ⟨_, rfl⟩
  have hmn : m = n - 1 := by omega
  have hmc : ¬ (cap = m) := by omega
  have hm1 : n - m = 1 := by omega
  have hmle : m ≤ n := by omega
  have hmn' : m < n := by omega
  have HMN := Lib.hid hmn
  have HME := Lib.hid hm'
  have HR := Lib.hid (show m ≤ cap by omega)
  rw [hj] at HJ
  unfold DelPost
  rw [← show j = i + 1 from hj, ← hmn]
  clear hown hg hlen htake hn hm hb hnews hnl hcell hdrew hj hmn hm'
  go_enter Tryz.func112, Tryz.ntmps112
  go_wp2_with fail
  go_region_law (refine step_appendRow nEntry rfl (.tmp 22) (.tmp 25) rfl g i cap A (n - j) (cap - j) (by simp [Act.eval, Act.put]) (by simp [Act.eval, Act.put]) cl HD.out news S1.out hsrc.out S2.out (by rw [← HME.out]; exact HR.out) S3.out ?_; intro w1 ht1 hg1; rw [← HME.out])
  all_goals
    have G1 := Lib.hid hg1
    have TT := Lib.hid ht1
    clear hg1 ht1
    go_wp2_with (refine wpList_clear1 nEntry rfl (.tmp 31) rfl g (m * 2) (cap - m) ?hx _ G1.out _ zero_entry ?h1 ?hf ?_)
    case hx => simp [Act.eval]
    case h1 => simp [Value.oneCell']
    case hf => rw [L1.out, HMN.out]; simp; omega
    intro w2 ht2 hg2
    have G2 := Lib.hid hg2
    have T2 := Lib.hid ht2
    clear hg2 ht2
    go_wp2_with fail
    go_ret
    refine ⟨rfl, OwnE.of_row G2.out ?_ ?_ (by rw [HMN.out]; exact HL.out) HR.out HM.out HB.out, T2.out.below (TT.out.below (Below.refl _ _).drew HB.out) HB.out, ?_⟩
    · rw [length_splice _ _ _ (by rw [L1.out, HMN.out]; simp; omega), L1.out]
    · rw [splice_low _ (by rw [L1.out]; omega) (Nat.le_refl _), HMN.out]; exact T1.out
    · intro q o hq hne
      have hqg : q ≠ g := fun e => hne (by rw [e]; rfl)
      rw [T2.out.other hqg, TT.out.other hqg]; exact hq
end Go.Proofs.YtaklilhnikmmfaaGreat

/-
  slices.Insert of one entry.
-/
namespace Go.Proofs.YtaklilhnikmmfaaGreat
open Go.RowKit StrM DirM

/-- A block with one entry. -/
def EBox (w : World) (q : Nat) (s : ByteArray) (n : Int) : Prop := w.heap[q]? = some (.cells #[.string s, .int .i64 n] 67 (0, 0))
theorem EBox.made (w : World) (s : ByteArray) (n : Int) : EBox (w.alloc (.cells #[.string s, .int .i64 n] 67)) w.heap.size s n := heap_alloc_new w _
theorem EBox.lt {w : World} {q : Nat} {s : ByteArray} {n : Int} (h : EBox w q s n) : q < w.heap.size := (Array.getElem?_eq_some_iff.1 h).1
theorem EBox.cell {w : World} {q : Nat} {x : E} (h : EBox w q x.name x.node) : ∀ j c, (ec x)[j]? = some c → w.cell? ((⟨q, 0, none⟩ : Addr).add j) = some c := by
  intro j c hj
  rw [Addr.add_lit, cell_of_row w q _ _ _ (0, 0) h, Nat.zero_add]
  simpa [ec] using hj
theorem EBox.sees {w : World} {q : Nat} {x : E} (h : EBox w q x.name x.node) : SeesN w (.slice (some ⟨q, 0, none⟩) 1 1) 1 (ec x) :=
  ⟨_, 1, rfl, Nat.le_refl _, .inr ⟨q, 0, rfl, h.lt, fun k c hk => by have := h.cell k c hk; rwa [Addr.add_lit] at this⟩⟩

/-- What slices.Insert returns. -/
def InsPost (base : Nat) (l : List E) (w : World) (e : Ending) (w' : World) : Prop := ∃ v, e = .returned v ∧ OwnE w' base v l ∧ Below base w w'

theorem ins_len (l : List E) (x : E) (i : Nat) (hi : i ≤ l.length) : (l.take i ++ x :: l.drop i).length = l.length + 1 := by
  rw [List.length_append, List.length_cons, List.length_take, List.length_drop]; omega
theorem ins_cells (l : List E) (x : E) (i : Nat) : ecs (l.take i ++ x :: l.drop i) = ecs (l.take i) ++ (ec x ++ ecs (l.drop i)) := by
  rw [ecs_add]; rfl

set_option maxHeartbeats 2000000 in
set_option maxRecDepth 100000 in
theorem insert_end (base vb : Nat) (A : Option Addr) (n cap : Nat) (l : List E) (x : E) (w : World) (hown : OwnE w base (.slice A n cap) l) (hn : n = l.length) (hv : EBox w vb x.name x.node) (hL : n ≤ 1000) (hbase : base ≤ w.heap.size) :
    Calls Tryz.prog 127 #[.slice A n cap, .int .i64 (n : Int), .slice (some ⟨vb, 0, none⟩) 1 1] w (InsPost base (l ++ [x]) w) := by
  have HO := Lib.hid (show w.ownsRow base 67 2 (.slice A n cap) n (ecs l) by have h := hown; unfold OwnE at h; rw [← hn] at h; exact h)
  have HV := Lib.hid hv.sees
  have HN := Lib.hid hn
  have HB := Lib.hid hbase
  have hc : n ≤ cap := by
    obtain ⟨A', cap', e, h⟩ := (SeesN.of_own hown).form
    injection e with e1 e2 e3
    subst e1 e2 e3; exact h
  have b1 : (n + 1) * 24 ≤ 140737488355328 := by omega
  have b2 : n + 1 ≤ maxLen := by unfold maxLen; omega
  have B1 := Lib.hid b1
  have B2 := Lib.hid b2
  clear hown hv hn hbase b1 b2
  unfold InsPost
  go_enter Tryz.func127, Tryz.ntmps127
  go_wp2_with (at_builtin; refine append_n nEntry rfl (.tmp 23) (.tmp 24) rfl base _ n (ecs l) rfl HO.out _ 1 (ec x) rfl HV.out rfl (ec_ones x) B1.out B2.out HB.out ?_)
  all_goals
    intro v' w' ho hb hst
    have HO2 := Lib.hid (show OwnE w' base v' (l ++ [x]) by
      show w'.ownsRow _ _ _ _ _ _
      rw [List.length_append, ← HN.out, ecs_add]; exact ho)
    have HB2 := Lib.hid hb
    clear ho hb hst
    go_wp2_with fail
    go_ret
    exact ⟨_, rfl, HO2.out, HB2.out⟩

set_option maxHeartbeats 2000000 in
set_option maxRecDepth 100000 in
theorem insert_room (base vb g n cap i : Nat) (l : List E) (x : E) (w : World) (hown : OwnE w base (.slice (some ⟨g, 0, none⟩) n cap) l) (hv : EBox w vb x.name x.node) (hne : vb ≠ g) (hi : i < n) (hroom : n + 1 ≤ cap) (hL : n ≤ 1000) :
    Calls Tryz.prog 127 #[.slice (some ⟨g, 0, none⟩) n cap, .int .i64 (i : Int), .slice (some ⟨vb, 0, none⟩) 1 1] w (InsPost base (l.take i ++ x :: l.drop i) w) := by
  obtain ⟨cl, hg, hlen, htake, hn, hc, hm, hb, hlt⟩ := hown.row
  obtain ⟨N1, hN1⟩ : ∃ N1, N1 = n + 1 := ⟨_, rfl⟩
  obtain ⟨J, hJ⟩ : ∃ J, J = i + 1 := ⟨_, rfl⟩
  have iN : (n : Int) + 1 = (N1 : Int) := by omega
  have iJ : (i : Int) + 1 = (J : Int) := by omega
  have wJ : IntKind.i64.wrap (J : Int) = (J : Int) := by rw [IntKind.wrap_i64]; omega
  have pJ : (J : Int) ≤ (N1 : Int) := by omega
  have hov : ∀ W : World, W.heap = w.heap → ∀ lb cb, (callFunc 138 #[.slice (some ⟨vb, 0, none⟩) 1 1, .slice (some ⟨g, J * 2, none⟩) lb cb]).run Tryz.prog W = .ok (.value (.bool false)) W := fun W hW lb cb => by
    have h1 : W.heap[vb]? = some (.cells #[.string x.name, .int .i64 x.node] 67 (0, 0)) := by rw [hW]; exact hv
    have h2 : W.heap[g]? = some (.cells cl.toArray 67 (0, 0)) := by rw [hW]; exact hg
    rw [run_callFunc_extern Tryz.func138 (by kernel_rfl) (by kernel_rfl) (by kernel_rfl) (e := Extern.SlicesOverlaps.overlaps #[29, 29] #[4]) (by kernel_rfl),
      Lib.run_overlaps_apart W 29 4 67 Tryz.underlying29 2 (fun w => by kernel_rfl) ⟨vb, 0, none⟩ ⟨g, J * 2, none⟩ 1 1 lb cb hne 67 67 2 (cap * 2) (by simp [World.shape?, h1]) (by simp [World.shape?, h2, hlen]) (by omega) (by simp [World.frozen?, h1]) (by simp [World.frozen?, h1])]
    rfl
  have hov0 := hov w rfl
  have hdl : (ecs (l.drop i)).length = (n - i) * 2 := by rw [ecs_len, List.length_drop, hn]
  have hdrew : w.drew.heap[g]? = some (.cells cl.toArray 67 (0, 0)) := hg
  have HD := Lib.hid hdrew
  have C1 := Lib.hid (show ∀ j v, (ecs (l.drop i))[j]? = some v → w.drew.cell? ((⟨g, i * 2, none⟩ : Addr).add j) = some v from fun j v hj => by
    have ht : j < (n - i) * 2 := by rw [← hdl]; exact (List.getElem?_eq_some_iff.1 hj).1
    rw [Addr.add_lit, row_cell hdrew]
    rw [← ecs_drop l i (by omega), List.getElem?_drop, ← htake, List.getElem?_take, if_pos (by omega)] at hj
    exact hj)
  have C2 := Lib.hid (show n - i = Nat.min (N1 - i) (N1 - J) by simp only [Nat.min_def]; split <;> omega)
  have C3 := Lib.hid hdl
  have C4 := Lib.hid (show J * 2 + (ecs (l.drop i)).length ≤ cl.length by rw [hdl, hlen]; omega)
  have L1 := Lib.hid (show (splice cl (J * 2) (ecs (l.drop i))).length = cap * 2 by rw [length_splice _ _ _ C4.out, hlen])
  have F1 := Lib.hid (show i * 2 + (ec x).length ≤ (splice cl (J * 2) (ecs (l.drop i))).length by rw [L1.out]; simp [ec]; omega)
  have L2 := Lib.hid (show (splice (splice cl (J * 2) (ecs (l.drop i))) (i * 2) (ec x)).length = cap * 2 by rw [length_splice _ _ _ F1.out, L1.out])
  have T2 := Lib.hid (show (splice (splice cl (J * 2) (ecs (l.drop i))) (i * 2) (ec x)).take (N1 * 2) = ecs (l.take i ++ x :: l.drop i) by
    rw [ins_cells, ← ecs_take l i (by omega), ← htake, List.take_take, Nat.min_eq_left (by omega)]
    have e1 : (splice cl (J * 2) (ecs (l.drop i))).take (i * 2) = cl.take (i * 2) := splice_low _ (by rw [hlen]; omega) (by omega)
    have e2 : (splice cl (J * 2) (ecs (l.drop i))).drop (i * 2 + (ec x).length) = ecs (l.drop i) ++ cl.drop (J * 2 + (ecs (l.drop i)).length) := by
      rw [show i * 2 + (ec x).length = J * 2 by simp [ec]; omega]
      exact splice_drop _ (by rw [hlen]; omega)
    rw [splice, e1, e2, ← List.append_assoc, ← List.append_assoc, List.take_append_of_le_length (by simp only [List.length_append, List.length_take, hlen, hdl, ec, List.length_cons, List.length_nil]; omega)]
    rw [List.take_of_length_le (by simp only [List.length_append, List.length_take, hlen, hdl, ec, List.length_cons, List.length_nil]; omega), List.append_assoc])
  have HV := Lib.hid hv
  have HM := Lib.hid hm
  have HB := Lib.hid hb
  have HE := Lib.hid hne
  have HLN := Lib.hid (show N1 = (l.take i ++ x :: l.drop i).length by rw [ins_len l x i (by omega), ← hn, hN1])
  have hin : ((i : Int) == (n : Int)) = false := by simp; omega
  have q1 : decide ((cap : Int) < (N1 : Int)) = false := decide_eq_false (by omega)
  have q1' : decide (cap < N1) = false := decide_eq_false (by omega)
  have q2 : N1 ≤ cap := by omega
  have q3 : J ≤ N1 := by omega
  have q4 : ¬ (cap = J) := by omega
  have q5 : ¬ (cap = i) := by omega
  have q6 : i ≤ N1 := by omega
  have q7 : i ≤ n := by omega
  have C5 := Lib.hid (show 1 = Nat.min 1 (N1 - i) by simp only [Nat.min_def]; split <;> omega)
  clear hown hg hlen htake hn hm hb hdl hdrew hv hN1 hJ hov
  unfold InsPost
  go_enter Tryz.func127, Tryz.ntmps127
  go_wp2_with fail
  go_region_law (refine step_copyN nEntry rfl (.tmp 73) (.tmp 76) rfl g (J * 2) (N1 - J) (cap - J) ⟨g, i * 2, none⟩ (N1 - i) (cap - i) (by simp [Act.eval, Act.put]) (by simp [Act.eval, Act.put]) cl HD.out (ecs (l.drop i)) (n - i) C2.out C3.out C1.out C4.out (ecs_ones _) ?_; intro w1 ht1 hg1)
  all_goals
    have G1 := Lib.hid hg1
    have TT := Lib.hid ht1
    have V1 := Lib.hid (show EBox w1 vb x.name x.node by unfold EBox; rw [ht1.other HE.out]; exact HV.out)
    clear hg1 ht1
    go_wp2_with (refine wpList_copyN nEntry rfl (.tmp 80) (.tmp 81) rfl g (i * 2) (N1 - i) (cap - i) ⟨vb, 0, none⟩ 1 1 rfl rfl _ G1.out (ec x) 1 C5.out rfl V1.out.cell F1.out (ec_ones x) ?_)
    intro w2 ht2 hg2
    have G2 := Lib.hid hg2
    have TU := Lib.hid ht2
    clear hg2 ht2
    go_wp2_with fail
    go_ret
    exact ⟨_, rfl, OwnE.of_row G2.out L2.out T2.out HLN.out q2 HM.out HB.out, TU.out.below (TT.out.below (Below.refl _ _).drew HB.out) HB.out⟩

set_option maxHeartbeats 2000000 in
set_option maxRecDepth 100000 in
theorem insert_grow (base vb g n cap i : Nat) (l : List E) (x : E) (w : World) (hown : OwnE w base (.slice (some ⟨g, 0, none⟩) n cap) l) (hv : EBox w vb x.name x.node) (hi : i < n) (hroom : cap < n + 1) (hL : n ≤ 1000) (hbase : base ≤ w.heap.size) :
    Calls Tryz.prog 127 #[.slice (some ⟨g, 0, none⟩) n cap, .int .i64 (i : Int), .slice (some ⟨vb, 0, none⟩) 1 1] w (InsPost base (l.take i ++ x :: l.drop i) w) := by
  obtain ⟨cl, hg, hlen, htake, hn, hc, hm, hb, hlt⟩ := hown.row
  obtain ⟨N1, hN1⟩ : ∃ N1, N1 = n + 1 := ⟨_, rfl⟩
  obtain ⟨J, hJ⟩ : ∃ J, J = i + 1 := ⟨_, rfl⟩
  obtain ⟨R, hR⟩ : ∃ R, R = N1 - i := ⟨_, rfl⟩
  obtain ⟨N, hN⟩ : ∃ N, N = w.heap.size := ⟨_, rfl⟩
  have iN : (n : Int) + 1 = (N1 : Int) := by omega
  have iJ : (i : Int) + 1 = (J : Int) := by omega
  have iR : (N1 : Int) - (i : Int) = (R : Int) := by omega
  have wJ : IntKind.i64.wrap (J : Int) = (J : Int) := by rw [IntKind.wrap_i64]; omega
  have wR : IntKind.i64.wrap (R : Int) = (R : Int) := by rw [IntKind.wrap_i64]; omega
  have wN : IntKind.i64.wrap (N1 : Int) = (N1 : Int) := by rw [IntKind.wrap_i64]; omega
  have pJ : (J : Int) ≤ (N1 : Int) := by omega
  obtain ⟨i0, hi0, hz0, hz1, hz2⟩ := info_parts nEntry.info
  have hti : (cl.take (i * 2)) = ecs (l.take i) := by rw [← ecs_take l i (by omega), ← htake, List.take_take, Nat.min_eq_left (by omega)]
  have hil : (ecs (l.take i)).length = i * 2 := by rw [ecs_len, List.length_take]; omega
  have hold : (Builtin.firstCells i0.size i (.slice (some ⟨g, 0, none⟩) i cap)).run Tryz.prog w.drew = .ok (ecs (l.take i)).toArray w.drew := by
    rw [hz1]
    exact run_firstCells_some w.drew 2 i ⟨g, 0, none⟩ i cap _ hil (fun j v hj => by
      have hdrew : w.drew.heap[g]? = some (.cells cl.toArray 67 (0, 0)) := hg
      rw [Addr.add_lit, Nat.zero_add, row_cell hdrew]
      rw [← hti, List.getElem?_take] at hj
      split at hj
      · exact hj
      · cases hj)
  have hrz := fun ty => Lib.run_append_grow_zeros (P := Tryz.prog) w 29 3 ty 67 i0 _ .i64 .i64 nEntry.under Tryz.underlying3 hi0 hz0 (some ⟨g, 0, none⟩) i cap (ecs (l.take i)) hold R (by omega) (by omega) (by omega) (by omega) (by rw [hz2]; omega) (by rw [hz2]; exact growslice_fits (by omega) (by omega))
  rw [show i + R = N1 by omega] at hrz
  obtain ⟨G, hG⟩ : ∃ G, G = grownCap w N1 cap 67 := ⟨_, rfl⟩
  rw [← hG] at hrz
  have hGn : N1 ≤ G := by rw [hG]; exact grownCap_ge w _ _ _
  have hGm : G ≤ maxLen := by rw [hG]; exact grownCap_le_maxLen w _ _ _ (by unfold maxLen; omega)
  have hG63 : G ≤ 9223372036854775807 := by unfold maxLen at hGm; omega
  obtain ⟨Z, hZ⟩ : ∃ Z : List Value, Z = ((ecs (l.take i)).toArray ++ Builtin.zeroCells (Value.agg #[.string ⟨#[]⟩, .int .i64 0]).cells R ++ Builtin.zeroCells (Value.agg #[.string ⟨#[]⟩, .int .i64 0]).cells (G - N1)).toList := ⟨_, rfl⟩
  have hZa : (ecs (l.take i)).toArray ++ Builtin.zeroCells (Value.agg #[.string ⟨#[]⟩, .int .i64 0]).cells R ++ Builtin.zeroCells (Value.agg #[.string ⟨#[]⟩, .int .i64 0]).cells (G - N1) = Z.toArray := by rw [hZ]
  rw [hZa] at hrz
  have hZl : Z.length = G * 2 := by
    rw [hZ]
    simp only [Array.length_toList, Array.size_append, List.size_toArray, size_zeroCells, nEntry.cells, hil]
    omega
  have hZt : Z.take (i * 2) = ecs (l.take i) := by
    rw [hZ, Array.toList_append, Array.toList_append, List.append_assoc, ← hil]
    exact List.take_left
  obtain ⟨W1, hW1⟩ : ∃ W1, W1 = w.drew.alloc (.cells Z.toArray 67) := ⟨_, rfl⟩
  rw [← hW1, ← hN] at hrz
  have hg1 : W1.heap[N]? = some (.cells Z.toArray 67 (0, 0)) := by rw [hW1, hN]; exact heap_alloc_new w.drew _
  have hB1 : Below base w W1 := by rw [hW1]; exact (Below.refl _ _).drew.alloc hbase _
  have hO1 : ∀ q, q < N → W1.heap[q]? = w.heap[q]? := fun q hq => by rw [hW1]; exact Below.heap_alloc w.drew _ q (by rw [hN] at hq; exact hq)
  have hv1 : EBox W1 vb x.name x.node := by unfold EBox; rw [hO1 vb (by rw [hN]; exact hv.lt)]; exact hv
  have hgr : W1.heap[g]? = some (.cells cl.toArray 67 (0, 0)) := by rw [hO1 g (by rw [hN]; exact hlt)]; exact hg
  have hNg : g ≠ N := by omega
  have hNb : base ≤ N := by omega
  have hdl : (ecs (l.drop i)).length = (n - i) * 2 := by rw [ecs_len, List.length_drop, hn]
  have G1 := Lib.hid hg1
  have V1 := Lib.hid hv1
  have GR := Lib.hid hgr
  have RZ := Lib.hid hrz
  have HNG := Lib.hid hNg
  have HNB := Lib.hid hNb
  have HB1 := Lib.hid hB1
  have C1 := Lib.hid (show ∀ W : World, W.heap[g]? = some (.cells cl.toArray 67 (0, 0)) → ∀ j v, (ecs (l.drop i))[j]? = some v → W.cell? ((⟨g, i * 2, none⟩ : Addr).add j) = some v from fun W hW j v hj => by
    have ht : j < (n - i) * 2 := by rw [← hdl]; exact (List.getElem?_eq_some_iff.1 hj).1
    rw [Addr.add_lit, row_cell hW]
    rw [← ecs_drop l i (by omega), List.getElem?_drop, ← htake, List.getElem?_take, if_pos (by omega)] at hj
    exact hj)
  have C2 := Lib.hid (show n - i = Nat.min (n - i) (N1 - J) by simp only [Nat.min_def]; split <;> omega)
  have C3 := Lib.hid hdl
  have F1 := Lib.hid (show i * 2 + (ec x).length ≤ Z.length by rw [hZl]; simp [ec]; omega)
  have L1 := Lib.hid (show (splice Z (i * 2) (ec x)).length = G * 2 by rw [length_splice _ _ _ F1.out, hZl])
  have F2 := Lib.hid (show J * 2 + (ecs (l.drop i)).length ≤ (splice Z (i * 2) (ec x)).length by rw [hdl, L1.out]; omega)
  have L2 := Lib.hid (show (splice (splice Z (i * 2) (ec x)) (J * 2) (ecs (l.drop i))).length = G * 2 by rw [length_splice _ _ _ F2.out, L1.out])
  have T2 := Lib.hid (show (splice (splice Z (i * 2) (ec x)) (J * 2) (ecs (l.drop i))).take (N1 * 2) = ecs (l.take i ++ x :: l.drop i) by
    have e1 : N1 * 2 = J * 2 + (ecs (l.drop i)).length := by rw [hdl]; omega
    have e2 : J * 2 = i * 2 + (ec x).length := by simp [ec]; omega
    rw [e1, splice_take _ (by rw [L1.out]; omega)]
    rw [show (splice Z (i * 2) (ec x)).take (J * 2) = Z.take (i * 2) ++ ec x by rw [e2]; exact splice_take _ (by rw [hZl]; omega)]
    rw [hZt, ins_cells, List.append_assoc])
  have C5 := Lib.hid (show 1 = Nat.min 1 (N1 - i) by simp only [Nat.min_def]; split <;> omega)
  have HM := Lib.hid hGm
  have HLN := Lib.hid (show N1 = (l.take i ++ x :: l.drop i).length by rw [ins_len l x i (by omega), ← hn, hN1])
  have hin : ((i : Int) == (n : Int)) = false := by simp; omega
  have q1 : (cap : Int) < (N1 : Int) := by omega
  have q2 : i ≤ cap := by omega
  have q3 : J ≤ N1 := by omega
  have q4 : ¬ (G = J) := by omega
  have q5 : ¬ (G = i) := by omega
  have q6 : i ≤ N1 := by omega
  have q7 : i ≤ n := by omega
  have q8 : ¬ (cap = i) := by omega
  clear hown hg hlen htake hn hm hb hdl hv hN1 hJ hR hN hi0 hz0 hz1 hz2 hti hil hold hrz hG hGm hZ hZa hZl hZt hW1 hg1 hB1 hO1 hv1 hgr hNg hNb
  unfold InsPost
  go_enter Tryz.func127, Tryz.ntmps127
  go_wp2_with (first
    | (at_builtin; refine Lib.wpList_append_run _ rfl (.tmp 34) (.tmp 39) 29 3 rfl _ _ rfl rfl _ _ (RZ.out _) ?_)
    | refine wpList_copyN nEntry rfl (.tmp 43) (.tmp 44) rfl N (i * 2) (N1 - i) (G - i) ⟨vb, 0, none⟩ 1 1 rfl rfl _ G1.out (ec x) 1 C5.out rfl V1.out.cell F1.out (ec_ones x) ?_)
  intro w2 ht2 hg2
  have hgd : w2.drew.heap[N]? = some (.cells (splice Z (i * 2) (ec x)).toArray 67 (0, 0)) := hg2
  have GD := Lib.hid hgd
  have TT := Lib.hid ht2
  have CC := Lib.hid (C1.out w2.drew (show w2.heap[g]? = _ by rw [ht2.other HNG.out]; exact GR.out))
  clear hg2 ht2 hgd
  go_wp2_with fail
  go_region_law (refine step_copyN nEntry rfl (.tmp 50) (.tmp 53) rfl N (J * 2) (N1 - J) (G - J) ⟨g, i * 2, none⟩ (n - i) (cap - i) (by simp [Act.eval, Act.put]) (by simp [Act.eval, Act.put]) _ GD.out (ecs (l.drop i)) (n - i) C2.out C3.out CC.out F2.out (ecs_ones _) ?_; intro w3 ht3 hg3)
  all_goals
    have G3 := Lib.hid hg3
    have TU := Lib.hid ht3
    clear hg3 ht3
    go_wp2_with fail
    go_ret
    exact ⟨_, rfl, OwnE.of_row G3.out L2.out T2.out HLN.out hGn HM.out HNB.out, TU.out.below (TT.out.below HB1.out HNB.out).drew HNB.out⟩

theorem insert_any (base vb : Nat) (v : Value) (i : Nat) (l : List E) (x : E) (w : World) (hown : OwnE w base v l) (hv : EBox w vb x.name x.node) (hne : v.ownBlock ≠ some vb) (hi : i ≤ l.length) (hL : l.length ≤ 1000) (hbase : base ≤ w.heap.size) :
    Calls Tryz.prog 127 #[v, .int .i64 (i : Int), .slice (some ⟨vb, 0, none⟩) 1 1] w (InsPost base (l.take i ++ x :: l.drop i) w) := by
  by_cases hin : i = l.length
  · obtain ⟨A, cap, e, -⟩ := (SeesN.of_own hown).form
    subst e
    have h := insert_end base vb A l.length cap l x w hown rfl hv hL hbase
    rw [hin, List.take_length, List.drop_length]
    exact h
  · rcases hown.2 with ⟨h', h0⟩ | ⟨g, cap, cur, h', _⟩
    · omega
    · subst h'
      have hg : vb ≠ g := fun e => hne (by rw [e]; rfl)
      by_cases hr : l.length + 1 ≤ cap
      · exact insert_room base vb g l.length cap i l x w hown hv hg (by omega) hr hL
      · exact insert_grow base vb g l.length cap i l x w hown hv (by omega) (by omega) hL hbase
end Go.Proofs.YtaklilhnikmmfaaGreat
