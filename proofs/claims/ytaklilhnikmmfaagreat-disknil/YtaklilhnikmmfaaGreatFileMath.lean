/-
  Layer 9's mathematics: files with what was synced and what was written since; syncs, writes and crashes.
-/
import Derived.Test.YtaklilhnikmmfaaGreatBlockMath
namespace FileM
open BlockM

structure Fl where
  now : List UInt8
  sure : List UInt8
  pend : List P
def zf : Fl := ⟨[], [], []⟩
def valid (f : Fl) : Bool := decide (f.sure.length ≤ 65536) && (f.pend.all ok && decide (f.now = lay f.sure f.pend))

theorem valid_iff (f : Fl) : valid f = true ↔ f.sure.length ≤ 65536 ∧ f.pend.all ok = true ∧ f.now = lay f.sure f.pend := by
  simp [valid]
theorem valid_long {f : Fl} (h : ¬ f.sure.length ≤ 65536) : valid f = false := by simp [valid, h]
theorem valid_bad {f : Fl} (h : f.pend.all ok = false) : valid f = false := by simp only [valid, h, Bool.false_and, Bool.and_false]
theorem valid_eq {f : Fl} (h : f.sure.length ≤ 65536) (h2 : f.pend.all ok = true) : decide (f.now = lay f.sure f.pend) = valid f := by
  simp only [valid, h2, h, decide_true, Bool.true_and]
theorem valid_zf : valid zf = true := by decide

theorem valid_now {f : Fl} (h : valid f = true) : f.now.length ≤ 65536 := by
  obtain ⟨h1, _, h3⟩ := (valid_iff f).1 h
  rw [h3]
  have := lay_len_lim f.sure f.pend
  omega
theorem valid_sure {f : Fl} (h : valid f = true) : f.sure.length ≤ 65536 := ((valid_iff f).1 h).1
theorem valid_pend {f : Fl} (h : valid f = true) : ∀ x ∈ f.pend, x.p ≤ 65536 ∧ x.b.length ≤ 16 := by
  intro x hx
  have := List.all_eq_true.1 ((valid_iff f).1 h).2.1 x hx
  obtain ⟨n, h1, _, _, h4, _, h6⟩ := ok_facts this
  exact ⟨by omega, h4⟩

/-! ### The pieces whose bit is true -/
def bit (bs : List Bool) (k : Nat) : Bool := bs.getD k false
theorem bit_at {bs : List Bool} {k : Nat} (h : k < bs.length) : bit bs k = bs[k] := by simp [bit, List.getD, h]
theorem bit_out {bs : List Bool} {k : Nat} (h : ¬ k < bs.length) : bit bs k = false := by simp [bit, List.getD, List.getElem?_eq_none (Nat.le_of_not_lt h)]
def keepTo (l : List P) (bs : List Bool) : Nat → List P
  | 0 => []
  | k + 1 => if bit bs k then keepTo l bs k ++ l[k]?.toList else keepTo l bs k
def keep (l : List P) (bs : List Bool) : List P := keepTo l bs l.length
theorem keepTo_zero (l : List P) (bs : List Bool) : keepTo l bs 0 = [] := rfl
theorem keepTo_yes {l : List P} {bs : List Bool} {k : Nat} (hk : k < l.length) (h : bit bs k = true) : keepTo l bs (k + 1) = keepTo l bs k ++ [l[k]] := by
  simp [keepTo, h, List.getElem?_eq_getElem hk]
theorem keepTo_no {l : List P} {bs : List Bool} {k : Nat} (h : bit bs k = false) : keepTo l bs (k + 1) = keepTo l bs k := by
  simp [keepTo, h]
theorem keepTo_len (l : List P) (bs : List Bool) (k : Nat) : (keepTo l bs k).length ≤ k := by
  induction k with
  | zero => exact Nat.le_refl _
  | succ k ih =>
    unfold keepTo
    split
    · rw [List.length_append]
      have : l[k]?.toList.length ≤ 1 := by cases l[k]? <;> simp
      omega
    · omega
theorem keepTo_mem (l : List P) (bs : List Bool) (k : Nat) : ∀ x ∈ keepTo l bs k, x ∈ l := by
  induction k with
  | zero => intro x hx; cases hx
  | succ k ih =>
    intro x hx
    unfold keepTo at hx
    split at hx
    · rcases List.mem_append.1 hx with hx | hx
      · exact ih x hx
      · rw [Option.mem_toList] at hx
        exact List.mem_of_getElem? hx
    · exact ih x hx
theorem keep_len (l : List P) (bs : List Bool) : (keep l bs).length ≤ l.length := keepTo_len _ _ _
theorem keep_mem (l : List P) (bs : List Bool) : ∀ x ∈ keep l bs, x ∈ l := keepTo_mem _ _ _
theorem keep_all {l : List P} {bs : List Bool} (h : ∀ k, k < l.length → bit bs k = true) : keep l bs = l := by
  have : ∀ k, k ≤ l.length → keepTo l bs k = l.take k := by
    intro k
    induction k with
    | zero => intro _; rfl
    | succ k ih =>
      intro hk
      rw [keepTo_yes (by omega) (h k (by omega)), ih (by omega), ← List.take_succ_eq_append_getElem (by omega)]
  rw [keep, this _ (Nat.le_refl _), List.take_length]
theorem keep_nil (l : List P) : keep l [] = [] := by
  have : ∀ k, keepTo l [] k = [] := by
    intro k
    induction k with
    | zero => rfl
    | succ k ih => rw [keepTo_no (by rfl), ih]
  exact this _
theorem keep_one {l : List P} (bs : List Bool) (h : l.length ≤ 1) : keep l bs = [] ∨ keep l bs = l := by
  match l, h with
  | [], _ => exact .inl rfl
  | [x], _ =>
    cases hb : bit bs 0 with
    | false => left; rw [keep, List.length_singleton, keepTo_no hb]; rfl
    | true => right; rw [keep, List.length_singleton, keepTo_yes (by simp) hb]; rfl

/-! ### Write, Sync, Crash -/
def wrote (f : Fl) (l : List P) : Fl := ⟨lay f.now l, f.sure, f.pend ++ l⟩
def syn (f : Fl) : Fl := if valid f then ⟨f.now, f.now, []⟩ else zf
def crC (f : Fl) (bs : List Bool) : List UInt8 := lay f.sure (keep f.pend bs)
def crF (f : Fl) (bs : List Bool) : Fl := if valid f then ⟨crC f bs, crC f bs, []⟩ else zf
def crN (f : Fl) : Nat := if valid f then f.pend.length else 0
theorem wrote_ref {f : Fl} (h : valid f = true) (l : List P) : lay f.sure (f.pend ++ l) = (wrote f l).now := by
  rw [lay_add, ← ((valid_iff f).1 h).2.2]; rfl
theorem valid_wrote {f : Fl} (h : valid f = true) {l : List P} (hl : ∀ x ∈ l, ok x = true) : valid (wrote f l) = true := by
  obtain ⟨h1, h2, h3⟩ := (valid_iff f).1 h
  refine (valid_iff _).2 ⟨h1, ?_, (wrote_ref h l).symm⟩
  show (f.pend ++ l).all ok = true
  rw [List.all_append, h2, List.all_eq_true.2 hl]; rfl
theorem syn_ok {f : Fl} (h : valid f = true) : syn f = ⟨f.now, f.now, []⟩ := by rw [syn, if_pos h]
theorem syn_no {f : Fl} (h : valid f = false) : syn f = zf := by simp [syn, h]
theorem valid_syn (f : Fl) : valid (syn f) = true := by
  cases h : valid f with
  | false => rw [syn_no h]; exact valid_zf
  | true => rw [syn_ok h]; exact (valid_iff _).2 ⟨valid_now h, rfl, rfl⟩
theorem crF_ok {f : Fl} (h : valid f = true) (bs : List Bool) : crF f bs = ⟨crC f bs, crC f bs, []⟩ := by rw [crF, if_pos h]
theorem crF_no {f : Fl} (h : valid f = false) (bs : List Bool) : crF f bs = zf := by simp [crF, h]
theorem crN_ok {f : Fl} (h : valid f = true) : crN f = f.pend.length := by rw [crN, if_pos h]
theorem crN_no {f : Fl} (h : valid f = false) : crN f = 0 := by simp [crN, h]
theorem crC_len {f : Fl} (h : valid f = true) (bs : List Bool) : (crC f bs).length ≤ 65536 := by
  have := lay_len_lim f.sure (keep f.pend bs)
  have := valid_sure h
  unfold crC
  omega
/-- Fi3: synced contents survive; with all bits the contents stay; with none the synced ones are left; one piece is kept or lost. -/
theorem crC_syn {f : Fl} (h : valid f = true) (bs : List Bool) : crC (syn f) bs = f.now := by rw [syn_ok h]; rfl
theorem crC_all {f : Fl} (h : valid f = true) {bs : List Bool} (hb : ∀ k, k < f.pend.length → bit bs k = true) : crC f bs = f.now := by
  rw [crC, keep_all hb]; exact ((valid_iff f).1 h).2.2.symm
theorem crC_none (f : Fl) : crC f [] = f.sure := by rw [crC, keep_nil]; rfl
theorem crC_one {f : Fl} (h : valid f = true) (bs : List Bool) (h1 : f.pend.length ≤ 1) : crC f bs = f.sure ∨ crC f bs = f.now := by
  rcases keep_one bs h1 with e | e
  · left; rw [crC, e]; rfl
  · right; rw [crC, e]; exact ((valid_iff f).1 h).2.2.symm
end FileM
