/-
  Joined: FileMath FileLeaf FileRow FileKept BlockRefLay.
-/
import Derived.Test.YtaklilhnikmmfaaGreatJBlock
import Derived.Deep.Slices
import Derived.Deep.RegionHeld3
import Derived.StillTailTactics
/-
  Layer 9's mathematics: files with what was synced and what was written since; syncs, writes and crashes.
-/
namespace FileM
open BlockM

structure Fl where
  now : List UInt8
  sure : List UInt8
  pend : List P
def zf : Fl := ⟨[], [], []⟩
def valid (f : Fl) : Bool := decide (f.sure.length ≤ 65536) && (f.pend.all ok && decide (f.now = lay f.sure f.pend))

theorem valid_iff (f : Fl) : valid f = true ↔ f.sure.length ≤ 65536 ∧ f.pend.all ok = true ∧ f.now = lay f.sure f.pend := by
  simp [valid]
theorem valid_long {f : Fl} (h : ¬ f.sure.length ≤ 65536) : valid f = false := by simp [valid, h]
theorem valid_bad {f : Fl} (h : f.pend.all ok = false) : valid f = false := by simp only [valid, h, Bool.false_and, Bool.and_false]
theorem valid_eq {f : Fl} (h : f.sure.length ≤ 65536) (h2 : f.pend.all ok = true) : decide (f.now = lay f.sure f.pend) = valid f := by
  simp only [valid, h2, h, decide_true, Bool.true_and]
theorem valid_zf : valid zf = true := by decide

theorem valid_now {f : Fl} (h : valid f = true) : f.now.length ≤ 65536 := by
  obtain ⟨h1, _, h3⟩ := (valid_iff f).1 h
  rw [h3]
  have := lay_len_lim f.sure f.pend
  omega
theorem valid_sure {f : Fl} (h : valid f = true) : f.sure.length ≤ 65536 := ((valid_iff f).1 h).1
theorem valid_pend {f : Fl} (h : valid f = true) : ∀ x ∈ f.pend, x.p ≤ 65536 ∧ x.b.length ≤ 16 := by
  intro x hx
  have := List.all_eq_true.1 ((valid_iff f).1 h).2.1 x hx
  obtain ⟨n, h1, _, _, h4, _, h6⟩ := ok_facts this
  exact ⟨by omega, h4⟩

/-! ### The pieces whose bit is true -/
def bit (bs : List Bool) (k : Nat) : Bool := bs.getD k false
theorem bit_at {bs : List Bool} {k : Nat} (h : k < bs.length) : bit bs k = bs[k] := by simp [bit, List.getD, h]
theorem bit_out {bs : List Bool} {k : Nat} (h : ¬ k < bs.length) : bit bs k = false := by simp [bit, List.getD, List.getElem?_eq_none (Nat.le_of_not_lt h)]
def keepTo (l : List P) (bs : List Bool) : Nat → List P
  | 0 => []
  | k + 1 => if bit bs k then keepTo l bs k ++ l[k]?.toList else keepTo l bs k
def keep (l : List P) (bs : List Bool) : List P := keepTo l bs l.length
theorem keepTo_zero (l : List P) (bs : List Bool) : keepTo l bs 0 = [] := rfl
theorem keepTo_yes {l : List P} {bs : List Bool} {k : Nat} (hk : k < l.length) (h : bit bs k = true) : keepTo l bs (k + 1) = keepTo l bs k ++ [l[k]] := by
  simp [keepTo, h, List.getElem?_eq_getElem hk]
theorem keepTo_no {l : List P} {bs : List Bool} {k : Nat} (h : bit bs k = false) : keepTo l bs (k + 1) = keepTo l bs k := by
  simp [keepTo, h]
theorem keepTo_len (l : List P) (bs : List Bool) (k : Nat) : (keepTo l bs k).length ≤ k := by
  induction k with
  | zero => exact Nat.le_refl _
  | succ k ih =>
    unfold keepTo
    split
    · rw [List.length_append]
      have : l[k]?.toList.length ≤ 1 := by cases l[k]? <;> simp
      omega
    · omega
theorem keepTo_mem (l : List P) (bs : List Bool) (k : Nat) : ∀ x ∈ keepTo l bs k, x ∈ l := by
  induction k with
  | zero => intro x hx; cases hx
  | succ k ih =>
    intro x hx
    unfold keepTo at hx
    split at hx
    · rcases List.mem_append.1 hx with hx | hx
      · exact ih x hx
      · rw [Option.mem_toList] at hx
        exact List.mem_of_getElem? hx
    · exact ih x hx
theorem keep_len (l : List P) (bs : List Bool) : (keep l bs).length ≤ l.length := keepTo_len _ _ _
theorem keep_mem (l : List P) (bs : List Bool) : ∀ x ∈ keep l bs, x ∈ l := keepTo_mem _ _ _
theorem keep_all {l : List P} {bs : List Bool} (h : ∀ k, k < l.length → bit bs k = true) : keep l bs = l := by
  have : ∀ k, k ≤ l.length → keepTo l bs k = l.take k := by
    intro k
    induction k with
    | zero => intro _; rfl
    | succ k ih =>
      intro hk
      rw [keepTo_yes (by omega) (h k (by omega)), ih (by omega), ← List.take_succ_eq_append_getElem (by omega)]
  rw [keep, this _ (Nat.le_refl _), List.take_length]
theorem keep_nil (l : List P) : keep l [] = [] := by
  have : ∀ k, keepTo l [] k = [] := by
    intro k
    induction k with
    | zero => rfl
    | succ k ih => rw [keepTo_no (by rfl), ih]
  exact this _
theorem keep_one {l : List P} (bs : List Bool) (h : l.length ≤ 1) : keep l bs = [] ∨ keep l bs = l := by
  match l, h with
  | [], _ => exact .inl rfl
  | [x], _ =>
    cases hb : bit bs 0 with
    | false => left; rw [keep, List.length_singleton, keepTo_no hb]; rfl
    | true => right; rw [keep, List.length_singleton, keepTo_yes (by simp) hb]; rfl

/-! ### Write, Sync, Crash -/
def wrote (f : Fl) (l : List P) : Fl := ⟨lay f.now l, f.sure, f.pend ++ l⟩
def syn (f : Fl) : Fl := if valid f then ⟨f.now, f.now, []⟩ else zf
def crC (f : Fl) (bs : List Bool) : List UInt8 := lay f.sure (keep f.pend bs)
def crF (f : Fl) (bs : List Bool) : Fl := if valid f then ⟨crC f bs, crC f bs, []⟩ else zf
def crN (f : Fl) : Nat := if valid f then f.pend.length else 0
theorem wrote_ref {f : Fl} (h : valid f = true) (l : List P) : lay f.sure (f.pend ++ l) = (wrote f l).now := by
  rw [lay_add, ← ((valid_iff f).1 h).2.2]; rfl
theorem valid_wrote {f : Fl} (h : valid f = true) {l : List P} (hl : ∀ x ∈ l, ok x = true) : valid (wrote f l) = true := by
  obtain ⟨h1, h2, h3⟩ := (valid_iff f).1 h
  refine (valid_iff _).2 ⟨h1, ?_, (wrote_ref h l).symm⟩
  show (f.pend ++ l).all ok = true
  rw [List.all_append, h2, List.all_eq_true.2 hl]; rfl
theorem syn_ok {f : Fl} (h : valid f = true) : syn f = ⟨f.now, f.now, []⟩ := by rw [syn, if_pos h]
theorem syn_no {f : Fl} (h : valid f = false) : syn f = zf := by simp [syn, h]
theorem valid_syn (f : Fl) : valid (syn f) = true := by
  cases h : valid f with
  | false => rw [syn_no h]; exact valid_zf
  | true => rw [syn_ok h]; exact (valid_iff _).2 ⟨valid_now h, rfl, rfl⟩
theorem crF_ok {f : Fl} (h : valid f = true) (bs : List Bool) : crF f bs = ⟨crC f bs, crC f bs, []⟩ := by rw [crF, if_pos h]
theorem crF_no {f : Fl} (h : valid f = false) (bs : List Bool) : crF f bs = zf := by simp [crF, h]
theorem crN_ok {f : Fl} (h : valid f = true) : crN f = f.pend.length := by rw [crN, if_pos h]
theorem crN_no {f : Fl} (h : valid f = false) : crN f = 0 := by simp [crN, h]
theorem crC_len {f : Fl} (h : valid f = true) (bs : List Bool) : (crC f bs).length ≤ 65536 := by
  have := lay_len_lim f.sure (keep f.pend bs)
  have := valid_sure h
  unfold crC
  omega
/-- Fi3: synced contents survive; with all bits the contents stay; with none the synced ones are left; one piece is kept or lost. -/
theorem crC_syn {f : Fl} (h : valid f = true) (bs : List Bool) : crC (syn f) bs = f.now := by rw [syn_ok h]; rfl
theorem crC_all {f : Fl} (h : valid f = true) {bs : List Bool} (hb : ∀ k, k < f.pend.length → bit bs k = true) : crC f bs = f.now := by
  rw [crC, keep_all hb]; exact ((valid_iff f).1 h).2.2.symm
theorem crC_none (f : Fl) : crC f [] = f.sure := by rw [crC, keep_nil]; rfl
theorem crC_one {f : Fl} (h : valid f = true) (bs : List Bool) (h1 : f.pend.length ≤ 1) : crC f bs = f.sure ∨ crC f bs = f.now := by
  rcases keep_one bs h1 with e | e
  · left; rw [crC, e]; rfl
  · right; rw [crC, e]; exact ((valid_iff f).1 h).2.2.symm
end FileM

/-
  The leaves of file: bytes.Equal, the reference's Bytes, the function literal that tells an invalid piece, slices.IndexFunc and slices.ContainsFunc with it, spoiled.
-/
namespace Go.Proofs.YtaklilhnikmmfaaGreat
open Go.RowKit StrM BlockM FileM

theorem bytes_ne {a b : List UInt8} (h : ¬ a = b) : ¬ (⟨a.toArray⟩ : ByteArray).toList = (⟨b.toArray⟩ : ByteArray).toList := by
  rw [Lib.toList_data, Lib.toList_data]
  exact h

/-- bytes.Equal. -/
theorem equal_any (v1 v2 : Value) (a b : List UInt8) (w : World) (h1 : SeesV w v1 (bys a)) (h2 : SeesV w v2 (bys b)) :
    Calls Tryz.prog 98 #[v1, v2] w fun e w' => e = .returned (.bool (decide (a = b))) ∧ w = w' := by
  have r1 := run_text_sees h1
  have r2 := run_text_sees h2
  by_cases h : a = b
  · subst h
    rw [decide_eq_true rfl]
    clear h1 h2
    generalize (⟨a.toArray⟩ : ByteArray) = S at *
    go_enter Tryz.func98, Tryz.ntmps98
    go_wp2_with fail
    go_ret
    exact ⟨rfl, rfl⟩
  · have hne := bytes_ne h
    rw [decide_eq_false h]
    clear h1 h2 h
    generalize (⟨a.toArray⟩ : ByteArray) = S at *
    generalize (⟨b.toArray⟩ : ByteArray) = T at *
    go_enter Tryz.func98, Tryz.ntmps98
    go_wp2_with fail
    go_ret
    exact ⟨ret_bool (by simpa using hne), rfl⟩

theorem bytes_any (v1 v2 : Value) (a b : List UInt8) (w : World) (h1 : SeesV w v1 (bys a)) (h2 : SeesV w v2 (bys b)) :
    Calls Tryz.prog 20 #[v1, v2] w fun e w' => e = .returned (.bool (decide (a = b))) ∧ w = w' := by
  have r1 := run_text_sees h1
  have r2 := run_text_sees h2
  by_cases h : a = b
  · subst h
    rw [decide_eq_true rfl]
    clear h1 h2
    generalize (⟨a.toArray⟩ : ByteArray) = S at *
    go_enter Tryz.func20, Tryz.ntmps20
    go_wp2_with fail
    go_ret
    exact ⟨rfl, rfl⟩
  · have hne := bytes_ne h
    rw [decide_eq_false h]
    clear h1 h2 h
    generalize (⟨a.toArray⟩ : ByteArray) = S at *
    generalize (⟨b.toArray⟩ : ByteArray) = T at *
    go_enter Tryz.func20, Tryz.ntmps20
    go_wp2_with fail
    go_ret
    exact ⟨ret_bool (by simpa using hne), rfl⟩

/-- The function literal: is a piece invalid? -/
theorem lit_any (p : Int) (A : Option Addr) (n c : Nat) (w : World) (hp : p ≤ 9223372036854775807) : Calls Tryz.prog 125 #[.agg #[.int .i64 p, .slice A n c]] w fun e w' => e = .returned (.bool (!okN p n)) ∧ Below w.heap.size w w' := by
  have RI := Lib.hid (fun w => bright_any p A n c w hp)
  generalize okN p n = o at *
  clear hp
  go_enter Tryz.func125, Tryz.ntmps125
  go_wp2_with fail
  refine (RI.out _).mono ?_
  rintro e w' ⟨rfl, hb⟩
  have B1 := Lib.hid ((below_made w (.cells #[.int .i64 p, .slice A n c] 113)).trans (hb.mono (below_made w _).size))
  clear hb
  cases o with
  | false =>
    go_wp2_with fail
    go_ret
    exact ⟨rfl, B1.out⟩
  | true =>
    go_wp2_with fail
    go_ret
    exact ⟨rfl, B1.out⟩

/-- The place of the first invalid piece, -1 if there is none. -/
def firstBad (l : List P) (i : Int) : Prop := (i = -1 ∧ l.all ok = true) ∨ (0 ≤ i ∧ l.all ok = false)

set_option maxHeartbeats 1000000 in
set_option maxRecDepth 100000 in
theorem index_any (v : Value) (l : List P) (w : World) (hs : SeesP w v l) (hp : ∀ x ∈ l, x.p ≤ 9223372036854775807) (hL : l.length ≤ 1000000) :
    Calls Tryz.prog 137 #[v, .func (.func 125) #[] #[]] w fun e w' => (∃ i : Int, e = .returned (.int .i64 i) ∧ firstBad l i) ∧ Below w.heap.size w w' := by
  obtain ⟨len, hn⟩ : ∃ len, len = l.length := ⟨_, rfl⟩
  obtain ⟨a, cap, rfl, -⟩ := id hs
  have HS := Lib.hid hs
  rw [← hn] at HS hL ⊢
  have HN := Lib.hid hn
  have HPP := Lib.hid hp
  clear hs hn hp
  go_enter Tryz.func137, Tryz.ntmps137
  go_wp2_with fail
  go_loopw [8] (fun i wr => ∃ k : Nat, k ≤ len ∧ i = .int .i64 (k : Int) ∧ (l.take k).all ok = true ∧ Below w.heap.size w wr) (fun i _ => len - (intOf i).toNat)
  case atStart => exact ⟨0, Nat.zero_le _, rfl, rfl, Below.refl _ _⟩
  case round =>
    obtain ⟨k, hk, rfl, hall, hB⟩ := hrel
    have HA := Lib.hid hall
    have HB := Lib.hid hB
    clear hall hB
    by_cases hlt : k < len
    · have hkl : k < l.length := by rw [← HN.out]; exact hlt
      obtain ⟨g, off, A1, bc, rfl, hg, hc1, hc2, -⟩ := (HS.out.later HB.out).cells hkl
      have hpk := HPP.out _ (List.getElem_mem hkl)
      have hoe := ok_eq l[k]
      have hnext : ok l[k] = true → (l.take (k + 1)).all ok = true := by
        intro h
        rw [List.take_succ_eq_append_getElem hkl, List.all_append, HA.out]; simp [h]
      have hbad : ok l[k] = false → l.all ok = false := by
        intro h
        rw [List.all_eq_false]
        exact ⟨_, List.getElem_mem hkl, by simp [h]⟩
      generalize l[k] = u at *
      obtain ⟨p, b⟩ := u
      simp only at hc1 hc2 hpk hoe
      obtain ⟨bl, hbl⟩ : ∃ bl, bl = b.length := ⟨_, rfl⟩
      rw [← hbl] at hc2 hoe
      have LI := Lib.hid (fun w => lit_any p A1 bl bc w hpk)
      rw [← hoe] at LI
      cases ho : ok ⟨p, b⟩ with
      | false =>
        rw [ho] at LI
        have HX := Lib.hid (hbad ho)
        clear hnext hbad hoe hbl ho hpk
        go_wp2_with fail
        refine (LI.out _).mono ?_
        rintro e w2 ⟨rfl, hb⟩
        have B2 := Lib.hid (HB.out.trans (hb.mono HB.out.size))
        clear hb
        go_wp2_with fail
        go_ret
        exact ⟨⟨_, rfl, .inr ⟨by omega, HX.out⟩⟩, B2.out⟩
      | true =>
        rw [ho] at LI
        have HX := Lib.hid (hnext ho)
        clear hnext hbad hoe hbl ho hpk
        go_wp2_with fail
        refine (LI.out _).mono ?_
        rintro e w2 ⟨rfl, hb⟩
        have B2 := Lib.hid (HB.out.trans (hb.mono HB.out.size))
        clear hb
        go_wp2_with fail
        go_roundw
        case rel => exact ⟨k + 1, by omega, by go_num, HX.out, B2.out⟩
        case measure => simp [intOf]; omega
    · have HX := Lib.hid (show l.all ok = true by
        have h := HA.out
        rw [List.take_of_length_le (by rw [← HN.out]; omega)] at h
        exact h)
      go_wp2_with fail
      go_ret
      exact ⟨⟨_, rfl, .inl ⟨rfl, HX.out⟩⟩, HB.out⟩

theorem contains_any (v : Value) (l : List P) (w : World) (hs : SeesP w v l) (hp : ∀ x ∈ l, x.p ≤ 9223372036854775807) (hL : l.length ≤ 1000000) :
    Calls Tryz.prog 124 #[v, .func (.func 125) #[] #[]] w fun e w' => e = .returned (.bool (!l.all ok)) ∧ Below w.heap.size w w' := by
  have IX := Lib.hid (index_any v l w hs hp hL)
  clear hs hp hL
  go_enter Tryz.func124, Tryz.ntmps124
  go_wp2_with fail
  refine (IX.out).mono ?_
  rintro e w' ⟨⟨i, rfl, hi⟩, hb⟩
  have HB := Lib.hid hb
  clear hb
  rcases hi with ⟨rfl, ha⟩ | ⟨hi, ha⟩
  · have HA := Lib.hid ha
    clear ha
    go_wp2_with fail
    go_ret
    exact ⟨ret_bool (by rw [HA.out]; rfl), HB.out⟩
  · have HA := Lib.hid ha
    clear ha
    go_wp2_with fail
    go_ret
    exact ⟨ret_bool (by rw [HA.out]; rfl), HB.out⟩

theorem spoiled_any (v : Value) (l : List P) (w : World) (hs : SeesP w v l) (hp : ∀ x ∈ l, x.p ≤ 9223372036854775807) (hL : l.length ≤ 1000000) :
    Calls Tryz.prog 97 #[v] w fun e w' => e = .returned (.bool (!l.all ok)) ∧ Below w.heap.size w w' := by
  have IX := Lib.hid (contains_any v l w hs hp hL)
  clear hs hp hL
  generalize l.all ok = t at *
  go_enter Tryz.func97, Tryz.ntmps97
  go_wp2_with fail
  refine (IX.out).mono ?_
  rintro e w' ⟨rfl, hb⟩
  have HB := Lib.hid hb
  clear hb
  go_wp2_with fail
  go_ret
  exact ⟨rfl, HB.out⟩
end Go.Proofs.YtaklilhnikmmfaaGreat

/-
  Files in memory; pieces appended to a row of pieces; kept, copies and settled.
-/
namespace Go.Proofs.YtaklilhnikmmfaaGreat
open Go.RowKit StrM BlockM FileM

def bools (bs : List Bool) : List Value := bs.map .bool
theorem bools_len (bs : List Bool) : (bools bs).length = bs.length := by simp [bools]
theorem SeesV.bool {w : World} {a : Option Addr} {n cap : Nat} {l : List Bool} (h : SeesV w (.slice a n cap) (bools l)) {k : Nat} (hk : k < l.length) :
    ∃ g off, a = some ⟨g, off, none⟩ ∧ g < w.heap.size ∧ w.cell? ⟨g, off + k, none⟩ = some (.bool l[k]) := by
  obtain ⟨a', cap', e, h⟩ := h
  injection e with e1 e2 e3
  subst e1
  rcases h with h0 | ⟨g, off, rfl, hg, hc⟩
  · have := congrArg List.length h0
    rw [bools_len, List.length_nil] at this; omega
  · refine ⟨g, off, rfl, hg, ?_⟩
    rw [hc k (by rw [bools_len]; exact hk)]; simp [bools]

/-- A file, as a value that is read. -/
def SeesF (w : World) (v : Value) (f : Fl) : Prop := ∃ N S V, v = .agg #[N, S, V] ∧ SeesV w N (bys f.now) ∧ SeesV w S (bys f.sure) ∧ SeesP w V f.pend
theorem SeesF.later {w w' : World} {v : Value} {f : Fl} (h : SeesF w v f) (hb : Below w.heap.size w w') : SeesF w' v f := by
  obtain ⟨N, S, V, e, h1, h2, h3⟩ := h
  exact ⟨N, S, V, e, h1.later hb, h2.later hb, h3.later hb⟩
theorem SeesF.slices {w : World} {v : Value} {f : Fl} (h : SeesF w v f) : ∃ A0 c0 A1 c1 A2 c2, v = .agg #[.slice A0 f.now.length c0, .slice A1 f.sure.length c1, .slice A2 f.pend.length c2] ∧
    SeesV w (.slice A0 f.now.length c0) (bys f.now) ∧ SeesV w (.slice A1 f.sure.length c1) (bys f.sure) ∧ SeesP w (.slice A2 f.pend.length c2) f.pend := by
  obtain ⟨N, S, V, e, h1, h2, h3⟩ := h
  obtain ⟨A0, c0, rfl, -⟩ := id h1
  obtain ⟨A1, c1, rfl, -⟩ := id h2
  obtain ⟨A2, c2, rfl, -⟩ := id h3
  rw [bys_len] at e h1 h2
  rw [bys_len] at e
  exact ⟨A0, c0, A1, c1, A2, c2, e, h1, h2, h3⟩
theorem SeesF.zero (w : World) : SeesF w (.agg #[.slice none 0 0, .slice none 0 0, .slice none 0 0]) zf :=
  ⟨_, _, _, rfl, ⟨none, 0, rfl, .inl rfl⟩, ⟨none, 0, rfl, .inl rfl⟩, ⟨none, 0, rfl, .inl rfl⟩⟩

/-- The block of a file, known whole. -/
def FBox (w : World) (q : Nat) (N S V : Value) : Prop := w.heap[q]? = some (.cells #[N, S, V] 70 (0, 0))
theorem FBox.made (w : World) (N S V : Value) : FBox (w.alloc (.cells #[N, S, V] 70)) w.heap.size N S V := heap_alloc_new w _
theorem FBox.lt {w : World} {q : Nat} {N S V : Value} (h : FBox w q N S V) : q < w.heap.size := (Array.getElem?_eq_some_iff.1 h).1
theorem FBox.later {w w' : World} {q : Nat} {N S V : Value} (h : FBox w q N S V) (hb : Below w.heap.size w w') : FBox w' q N S V := by
  have := hb.block q h.lt
  unfold FBox at h ⊢
  rw [this]; exact h
theorem FBox.cells {w : World} {q : Nat} {N S V : Value} (h : FBox w q N S V) : w.cell? ⟨q, 0, none⟩ = some N ∧ w.cell? ⟨q, 1, none⟩ = some S ∧ w.cell? ⟨q, 2, none⟩ = some V := by
  unfold FBox at h
  refine ⟨?_, ?_, ?_⟩ <;> (rw [cell_of_row w q _ _ _ (0, 0) h]; rfl)
theorem FBox.soft {w : World} {q : Nat} {N S V : Value} (h : FBox w q N S V) : w.frozen? ⟨q, 0, none⟩ = false ∧ w.frozen? ⟨q, 1, none⟩ = false ∧ w.frozen? ⟨q, 2, none⟩ = false := by
  unfold FBox at h
  refine ⟨?_, ?_, ?_⟩ <;> simp [World.frozen?, h]
/-- All three cells are stored. -/
def fset (w : World) (q : Nat) (N S V : Value) : World := ((w.setCell ⟨q, 0, none⟩ N).setCell ⟨q, 1, none⟩ S).setCell ⟨q, 2, none⟩ V
theorem FBox.set {w : World} {q : Nat} {N S V : Value} (h : FBox w q N S V) (N' S' V' : Value) : FBox (fset w q N' S' V') q N' S' V' := by
  have h1 := heap_setCell_same w q 0 _ _ N' h
  have h2 := heap_setCell_same _ q 1 _ _ S' h1
  exact heap_setCell_same _ q 2 _ _ V' h2
theorem fset_below {w W : World} {base q : Nat} (hb : Below base w W) (hq : base ≤ q) (N S V : Value) : Below base w (fset W q N S V) := ((hb.setCell hq _).setCell hq _).setCell hq _

theorem fset_other {w : World} {q g : Nat} (hne : g ≠ q) (N S V : Value) : (fset w q N S V).heap[g]? = w.heap[g]? := by
  have h : ∀ (W : World) (i : Nat) (u : Value), (W.setCell ⟨q, i, none⟩ u).heap[g]? = W.heap[g]? := fun W i u => by
    simp [World.setCell, Array.getElem?_modify, Ne.symm hne]
  unfold fset
  rw [h, h, h]
theorem fset_cell {w : World} {q g i : Nat} (hne : g ≠ q) (N S V : Value) : (fset w q N S V).cell? ⟨g, i, none⟩ = w.cell? ⟨g, i, none⟩ := by
  simp only [World.cell?, fset_other hne]
theorem fset_size (w : World) (q : Nat) (N S V : Value) : (fset w q N S V).heap.size = w.heap.size := by simp [fset]
/-- A cell with a number is no cell of a file's block. -/
theorem FBox.apart {w : World} {q : Nat} {A0 A1 A2 : Option Addr} {n0 n1 n2 c0 c1 c2 : Nat} (h : FBox w q (.slice A0 n0 c0) (.slice A1 n1 c1) (.slice A2 n2 c2)) {g i : Nat} {k : IntKind} {n : Int} (hc : w.cell? ⟨g, i, none⟩ = some (.int k n)) : g ≠ q := by
  intro e
  subst e
  unfold FBox at h
  rw [cell_of_row w g _ _ _ (0, 0) h] at hc
  match i, hc with
  | 0, hc => simp at hc
  | 1, hc => simp at hc
  | 2, hc => simp at hc
  | i + 3, hc => simp at hc
theorem SeesV.fset {w : World} {q : Nat} {A0 A1 A2 : Option Addr} {n0 n1 n2 c0 c1 c2 : Nat} {v : Value} {l : List UInt8} (h : SeesV w v (bys l)) (hq : FBox w q (.slice A0 n0 c0) (.slice A1 n1 c1) (.slice A2 n2 c2)) (N S V : Value) : SeesV (fset w q N S V) v (bys l) := by
  obtain ⟨a, cap, rfl, h0 | ⟨g, off, rfl, hg, hc⟩⟩ := h
  · exact ⟨a, cap, rfl, .inl h0⟩
  · by_cases hl : l = []
    · exact ⟨_, cap, rfl, .inl (by subst hl; rfl)⟩
    · have hpos : 0 < (bys l).length := by rw [bys_len]; exact List.length_pos_iff.2 hl
      have h1 := hc 0 hpos
      have hne : g ≠ q := hq.apart (i := off + 0) (k := .u8) (n := (l[0]'(by rw [bys_len] at hpos; exact hpos)).toNat) (by rw [h1]; simp [bys])
      exact ⟨_, cap, rfl, .inr ⟨g, off, rfl, by rw [fset_size]; exact hg, fun k hk => by rw [fset_cell hne]; exact hc k hk⟩⟩
theorem SeesP.fset {w : World} {q : Nat} {A0 A1 A2 : Option Addr} {n0 n1 n2 c0 c1 c2 : Nat} {v : Value} {l : List P} (h : SeesP w v l) (hq : FBox w q (.slice A0 n0 c0) (.slice A1 n1 c1) (.slice A2 n2 c2)) (N S V : Value) : SeesP (fset w q N S V) v l := by
  obtain ⟨a, cap, rfl, h0 | ⟨g, off, rfl, hg, hc⟩⟩ := h
  · exact ⟨a, cap, rfl, .inl h0⟩
  · by_cases hl : l = []
    · exact ⟨_, cap, rfl, .inl hl⟩
    · have hne : g ≠ q := hq.apart (hc 0 (List.length_pos_iff.2 hl)).1
      refine ⟨_, cap, rfl, .inr ⟨g, off, rfl, by rw [fset_size]; exact hg, fun k hk => ?_⟩⟩
      obtain ⟨h1, B, h2, h3⟩ := hc k hk
      exact ⟨by rw [fset_cell hne]; exact h1, B, by rw [fset_cell hne]; exact h2, h3.fset hq N S V⟩
theorem SeesF.fset {w : World} {q : Nat} {A0 A1 A2 : Option Addr} {n0 n1 n2 c0 c1 c2 : Nat} {v : Value} {f : Fl} (h : SeesF w v f) (hq : FBox w q (.slice A0 n0 c0) (.slice A1 n1 c1) (.slice A2 n2 c2)) (N S V : Value) : SeesF (fset w q N S V) v f := by
  obtain ⟨N', S', V', e, h1, h2, h3⟩ := h
  exact ⟨N', S', V', e, h1.fset hq N S V, h2.fset hq N S V, h3.fset hq N S V⟩

/-! ### A slice of pieces, cell by cell -/
def Src (w : World) (u : Value) (lb : List PB) : Prop :=
  (∃ A cap, u = .slice A lb.length cap ∧ (lb = [] ∨ ∃ ad, A = some ad ∧ ∀ j c, (pcs lb)[j]? = some c → w.cell? (ad.add j) = some c)) ∧ ∀ x ∈ lb, SeesV w x.2 (bys x.1.b)
theorem sees_one {w : World} {v : Value} {xs : List Value} (h : SeesV w v xs) : v.oneCell' = true := by
  obtain ⟨a, cap, rfl, -⟩ := h; rfl
theorem pcs_ones {w : World} {l : List PB} (h : ∀ x ∈ l, SeesV w x.2 (bys x.1.b)) : ∀ c ∈ pcs l, c.oneCell' = true := by
  intro c hc
  simp only [pcs, List.mem_flatMap, pc2] at hc
  obtain ⟨x, hx, hc⟩ := hc
  rcases List.mem_cons.1 hc with rfl | hc
  · rfl
  · rcases List.mem_cons.1 hc with rfl | hc
    · exact sees_one (h x hx)
    · cases hc

theorem SeesP.src {w : World} {v : Value} {l : List P} (h : SeesP w v l) : ∃ lb : List PB, lb.map Prod.fst = l ∧ Src w v lb := by
  obtain ⟨a, cap, rfl, rfl | ⟨g, off, rfl, hg, hc⟩⟩ := h
  · exact ⟨[], rfl, ⟨a, cap, rfl, .inl rfl⟩, fun x hx => by cases hx⟩
  · have hB : ∀ k, k < l.length → ∃ B : Value, ∃ hk : k < l.length, w.cell? ⟨g, off + k * 2, none⟩ = some (.int .i64 l[k].p) ∧ w.cell? ⟨g, off + k * 2 + 1, none⟩ = some B ∧ SeesV w B (bys l[k].b) := by
      intro k hk
      obtain ⟨h1, B, h2, h3⟩ := hc k hk
      exact ⟨B, hk, h1, h2, h3⟩
    obtain ⟨f, hf⟩ := Go.Deep.choose_lt hB
    have hlen : (l.zipIdx.map fun x => ((x.1, f x.2) : PB)).length = l.length := by simp
    have hat : ∀ k (hk : k < l.length), (l.zipIdx.map fun x => ((x.1, f x.2) : PB))[k]'(by rw [hlen]; exact hk) = (l[k], f k) := by
      intro k hk; simp
    refine ⟨l.zipIdx.map fun x => (x.1, f x.2), ?_, ⟨some ⟨g, off, none⟩, cap, by rw [hlen], .inr ⟨_, rfl, fun j c hj => ?_⟩⟩, fun x hx => ?_⟩
    · apply List.ext_getElem (by simp)
      intro k h1 h2
      simp
    · have hjl : j < (pcs (l.zipIdx.map fun x => ((x.1, f x.2) : PB))).length := (List.getElem?_eq_some_iff.1 hj).1
      rw [pcs_len, hlen] at hjl
      have hk : j / 2 < l.length := by omega
      have hp := pcs_at (l.zipIdx.map fun x => ((x.1, f x.2) : PB)) (k := j / 2) (by rw [hlen]; exact hk)
      rw [hat _ hk] at hp
      obtain ⟨_, f1, f2, _⟩ := hf _ hk
      rcases Nat.mod_two_eq_zero_or_one j with hj2 | hj2
      · have e : j = j / 2 * 2 := by omega
        rw [e, hp.1] at hj
        rw [← Option.some.inj hj]
        by_cases j0 : j = 0
        · subst j0; simpa [Addr.add] using f1
        · rw [← e] at f1; simpa [Addr.add, j0] using f1
      · have e : j = j / 2 * 2 + 1 := by omega
        rw [e, hp.2] at hj
        rw [← Option.some.inj hj]
        rw [Nat.add_assoc, ← e] at f2
        simpa [Addr.add, show ¬ j = 0 by omega] using f2
    · obtain ⟨k, hk, rfl⟩ := List.mem_iff_getElem.1 hx
      rw [hlen] at hk
      rw [hat _ hk]
      obtain ⟨_, _, _, f3⟩ := hf _ hk
      exact f3

theorem run_append_nil2 (w : World) (ty : TypeId) {base n : Nat} {v : Value} {xs : List Value} (hown : w.ownsRow base 113 2 v n xs) (c : Nat) :
    (Builtin.append_ #[68, 68] ty #[v, .slice none 0 c]).run Tryz.prog w = .ok v w := by
  obtain ⟨i0, hi, _⟩ := info_parts pieceInfo
  rcases hown.2 with ⟨rfl, rfl⟩ | ⟨g, cap, cur, rfl, _, _, hnc, _⟩
  · simp [Builtin.append_, run_underlying Tryz.underlying68, sizeOf, typeInfo, hi, Builtin.lenOf, Builtin.firstCells]
  · simp [Builtin.append_, run_underlying Tryz.underlying68, sizeOf, typeInfo, hi, Builtin.lenOf, Builtin.firstCells, hnc, storeCells]

/-- append of all pieces of a slice to a row of pieces of the call's own. -/
theorem append_pieces {w : World} {ops : Array Oper} {rest : List Oper} {o : Oper} {a : Act} {Q : Exit → Act → World → Prop} (hgd : o.guard = none) (s x : Operand)
    (ho : o.op = .call { callee := .builtin .append, args := #[s, x], argTypes := #[68, 68] })
    (base : Nat) (v : Value) (n : Nat) (la : List PB) (hs : a.eval s = v) (hown : w.ownsRow base 113 2 v n (pcs la))
    (u : Value) (lb : List PB) (hx : a.eval x = u) (hu : Src w u lb) (hn : n + lb.length ≤ 1000000) (hbase : base ≤ w.heap.size)
    (h : ∀ v' w', w'.ownsRow base 113 2 v' (n + lb.length) (pcs (la ++ lb)) → Below base w w' → Stays w w' v → wpList Tryz.prog ops Q rest (a.put o.dst v') w') : wpList Tryz.prog ops Q (o :: rest) a w := by
  obtain ⟨⟨A, c, rfl, hsee⟩, hB⟩ := hu
  rcases A with _ | ad
  · have hnil : lb = [] := by
      rcases hsee with h0 | ⟨ad, h0, _⟩
      · exact h0
      · cases h0
    subst hnil
    refine wpList_plain hgd fun K hK => ?_
    have hr := run_append_nil2 w o.type hown c
    have hfin := hK _ _ (h v w (by simpa using hown) (Below.refl _ _) (fun _ _ hq _ => hq))
    unfold Oper.wp execOp
    simp only [ho, resolve, invoke, builtin, Sem.run_bind, Sem.run_pure, Result.andThen_ok, List.map_toArray, List.map_cons, List.map_nil, hs, hx, List.length_nil, hr]
    exact hfin
  · obtain ⟨i0, hi, hz0, hz1, hz2⟩ := info_parts pieceInfo
    refine wpList_append_own w hgd s x 68 ho base 113 i0 _ 2 32 Tryz.underlying68 hi hz0 hz1 hz2 rfl (by decide) v n (pcs la) hs hown ad lb.length c (pcs lb) hx (pcs_len lb) (fun j u hj => ?_) (pcs_ones hB) (by unfold maxLen; omega) (by omega) hbase ?_
    · rcases hsee with h0 | ⟨ad', h0, hc⟩
      · subst h0; simp [pcs] at hj
      · have e1 := Option.some.inj h0
        subst e1
        exact hc j u hj
    · intro v' w' h2 h3 _
      refine h v' w' (by rw [pcs_add]; exact h2) ((Below.refl _ _).grown h3 hbase fun k hk => (hown.lt k hk).1) fun q o hq hne => ?_
      rw [h3.block q (Array.getElem?_eq_some_iff.1 hq).1 hne]
      exact hq

theorem step_append_pieces {w : World} {ops : Array Oper} {o : Oper} {a : Act} {K : Act → World → Prop} {Q : Exit → Act → World → Prop} {E : Prop} (hgd : o.guard = none) (s x : Operand)
    (ho : o.op = .call { callee := .builtin .append, args := #[s, x], argTypes := #[68, 68] })
    (base : Nat) (v : Value) (n : Nat) (la : List PB) (hs : a.eval s = v) (hown : w.ownsRow base 113 2 v n (pcs la))
    (u : Value) (lb : List PB) (hx : a.eval x = u) (hu : Src w u lb) (hn : n + lb.length ≤ 1000000) (hbase : base ≤ w.heap.size)
    (h : ∀ v' w', w'.ownsRow base 113 2 v' (n + lb.length) (pcs (la ++ lb)) → Below base w w' → Stays w w' v → K (a.put o.dst v') w') :
    if Region.wanted o (yielded ops a.tmps) = true then Oper.wp Tryz.prog o a w K Q else E := by
  have hw : Region.wanted o (yielded ops a.tmps) = true := by simp [Region.wanted, hgd]
  rw [if_pos hw]
  obtain ⟨⟨A, c, rfl, hsee⟩, hB⟩ := hu
  rcases A with _ | ad
  · have hnil : lb = [] := by
      rcases hsee with h0 | ⟨ad, h0, _⟩
      · exact h0
      · cases h0
    subst hnil
    have hr := run_append_nil2 w o.type hown c
    have hfin := h v w (by simpa using hown) (Below.refl _ _) (fun _ _ hq _ => hq)
    unfold Oper.wp execOp
    simp only [ho, resolve, invoke, builtin, Sem.run_bind, Sem.run_pure, Result.andThen_ok, List.map_toArray, List.map_cons, List.map_nil, hs, hx, List.length_nil, hr]
    exact hfin
  · obtain ⟨i0, hi, hz0, hz1, hz2⟩ := info_parts pieceInfo
    refine wp_append_own w s x 68 ho base 113 i0 _ 2 32 Tryz.underlying68 hi hz0 hz1 hz2 rfl (by decide) v n (pcs la) hs hown ad lb.length c (pcs lb) hx (pcs_len lb) (fun j u hj => ?_) (pcs_ones hB) (by unfold maxLen; omega) (by omega) hbase ?_
    · rcases hsee with h0 | ⟨ad', h0, hc⟩
      · subst h0; simp [pcs] at hj
      · have e1 := Option.some.inj h0
        subst e1
        exact hc j u hj
    · intro v' w' h2 h3 _
      refine h v' w' (by rw [pcs_add]; exact h2) ((Below.refl _ _).grown h3 hbase fun k hk => (hown.lt k hk).1) fun q o hq hne => ?_
      rw [h3.block q (Array.getElem?_eq_some_iff.1 hq).1 hne]
      exact hq

/-- What a function that hands back pieces returns. -/
def PPost (l : List P) (w : World) (e : Ending) (w' : World) : Prop := ∃ v, e = .returned v ∧ SeesP w' v l ∧ Below w.heap.size w w'

/-- A row of pieces whose bytes were there before. -/
def KRel (w : World) (v : Value) (l : List PB) (wr : World) : Prop :=
  wr.ownsRow w.heap.size 113 2 v l.length (pcs l) ∧ (∀ x ∈ l, SeesV w x.2 (bys x.1.b)) ∧ Below w.heap.size w wr
theorem KRel.sees {w wr : World} {v : Value} {l : List PB} (h : KRel w v l wr) : SeesP wr v (l.map Prod.fst) :=
  sees_pcs h.1 rfl fun x hx => (h.2.1 x hx).later h.2.2
theorem KRel.nil (w : World) : KRel w (.slice none 0 0) [] w := ⟨World.ownsRow_nil _ _ _ _, (fun _ h => nomatch h), Below.refl _ _⟩
theorem KRel.empty (w : World) : KRel w (.slice (some ⟨w.heap.size, 0, none⟩) 0 0) [] (w.alloc (.cells #[] 113)) :=
  ⟨World.ownsRow_made w #[] 0 (Nat.le_refl _) (by decide) rfl, (fun _ h => nomatch h), below_made w _⟩
end Go.Proofs.YtaklilhnikmmfaaGreat

/-
  The walks of file.kept and file.settled.
-/
namespace Go.Proofs.YtaklilhnikmmfaaGreat
open Go.RowKit StrM BlockM FileM

set_option maxHeartbeats 2000000 in
set_option maxRecDepth 100000 in
theorem kept_any (v bv : Value) (l : List P) (bs : List Bool) (w : World) (hs : SeesP w v l) (hbs : SeesV w bv (bools bs)) (hL : l.length ≤ 900000) :
    Calls Tryz.prog 77 #[v, bv] w (PPost (keep l bs) w) := by
  obtain ⟨len, hn⟩ : ∃ len, len = l.length := ⟨_, rfl⟩
  obtain ⟨a, cap, rfl, -⟩ := id hs
  obtain ⟨nb, hnb⟩ : ∃ nb, nb = bs.length := ⟨_, rfl⟩
  obtain ⟨ab, cb, rfl, -⟩ := id hbs
  rw [bools_len, ← hnb] at hbs ⊢
  have HS := Lib.hid hs
  have HBS := Lib.hid hbs
  rw [← hn] at HS hL ⊢
  have HN := Lib.hid hn
  have HNB := Lib.hid hnb
  clear hs hn hbs hnb
  unfold PPost
  go_enter Tryz.func77, Tryz.ntmps77
  go_wp2_with fail
  go_loopw [5, 10] (fun x i wr => ∃ (k : Nat) (la : List PB), k ≤ len ∧ i = .int .i64 (k : Int) ∧ la.map Prod.fst = keepTo l bs k ∧ KRel w x la wr) (fun _ i _ => len - (intOf i).toNat)
  case atStart => exact ⟨0, [], Nat.zero_le _, rfl, rfl, KRel.nil w⟩
  case round =>
    obtain ⟨k, la, hk, rfl, hla, hK⟩ := hrel
    have HLA := Lib.hid hla
    have HK := Lib.hid hK
    have hlen : la.length ≤ k := by
      have h := congrArg List.length hla
      rw [List.length_map] at h
      rw [h]; exact keepTo_len _ _ _
    clear hla hK
    by_cases hlt : k < len
    · have hkl : k < l.length := by rw [← HN.out]; exact hlt
      obtain ⟨g, off, A1, bc, rfl, hg, cc1, cc2, csv⟩ := HS.out.cells hkl
      have hyes := fun h => keepTo_yes (l := l) (bs := bs) hkl h
      have hc1 : wr.cell? ⟨g, off + k * 2, none⟩ = some (.int .i64 l[k].p) := (HK.out.2.2.cell (p := ⟨g, off + k * 2, none⟩) hg).trans cc1
      have hc2 : wr.cell? ⟨g, off + k * 2 + 1, none⟩ = some (.slice A1 l[k].b.length bc) := (HK.out.2.2.cell (p := ⟨g, off + k * 2 + 1, none⟩) hg).trans cc2
      have hno := fun h => keepTo_no (l := l) (bs := bs) (k := k) h
      clear cc1 cc2
      generalize l[k] = u at *
      obtain ⟨p, b⟩ := u
      simp only at hc1 hc2 csv
      obtain ⟨bl, hbl⟩ : ∃ bl, bl = b.length := ⟨_, rfl⟩
      rw [← hbl] at hc2 csv
      have CSV := Lib.hid csv
      have HBL := Lib.hid hbl
      have B1 := Lib.hid (below_made wr (.cells #[.int .i64 p, .slice A1 bl bc] 113))
      have K1 := Lib.hid (show KRel w u5 la (wr.alloc (.cells #[.int .i64 p, .slice A1 bl bc] 113)) from ⟨HK.out.1.alloc _, HK.out.2.1, HK.out.2.2.alloc HK.out.2.2.size _⟩)
      clear csv hbl
      by_cases hb : k < nb
      · have hbl2 : k < bs.length := by rw [← HNB.out]; exact hb
        obtain ⟨gb, ob, rfl, hgb, cb0⟩ := HBS.out.bool hbl2
        have hb' : (k : Int) < (nb : Int) := by omega
        have hbit := bit_at hbl2
        have hcb : (wr.alloc (.cells #[.int .i64 p, .slice A1 bl bc] 113)).cell? ⟨gb, ob + k, none⟩ = some (.bool bs[k]) := (K1.out.2.2.cell (p := ⟨gb, ob + k, none⟩) hgb).trans cb0
        clear cb0
        generalize bs[k] = t at *
        cases t with
        | false =>
          have HX := Lib.hid (hno hbit)
          clear hyes hno hbit
          go_wp2_with fail
          go_roundw
          case rel => exact ⟨k + 1, la, by omega, by go_num, by rw [HX.out]; exact HLA.out, K1.out⟩
          case measure => simp [intOf]; omega
        | true =>
          have HX := Lib.hid (hyes hbit)
          clear hyes hno hbit
          go_wp2_with (at_builtin; refine append_piece rfl _ _ rfl w.heap.size _ _ _ rfl K1.out.1 (⟨p, b⟩, .slice A1 bl bc) rfl (by simp [Act.eval]) ?a1 ?a2 ?_)
          case a1 => omega
          case a2 => exact K1.out.2.2.size
          intro v2 w2 ho hb2 hst
          have K2 := Lib.hid (show KRel w v2 (la ++ [(⟨p, b⟩, .slice A1 bl bc)]) w2 from ⟨by rw [List.length_append]; exact ho, fun x hx => by
            rcases List.mem_append.1 hx with hx | hx
            · exact K1.out.2.1 x hx
            · have : x = (⟨p, b⟩, .slice A1 bl bc) := by simpa using hx
              subst this
              exact CSV.out, K1.out.2.2.trans hb2⟩)
          clear ho hb2 hst
          go_wp2_with fail
          go_roundw
          case rel => exact ⟨k + 1, _, by omega, by go_num, by rw [HX.out, List.map_append, HLA.out]; rfl, K2.out⟩
          case measure => simp [intOf]; omega
      · have hb' : decide (k < nb) = false := by simpa using hb
        have HX := Lib.hid (hno (bit_out (by rw [← HNB.out]; exact hb)))
        clear hyes hno hb
        go_wp2_with fail
        go_roundw
        case rel => exact ⟨k + 1, la, by omega, by go_num, by rw [HX.out]; exact HLA.out, K1.out⟩
        case measure => simp [intOf]; omega
    · have HX := Lib.hid (show SeesP wr u5 (keep l bs) by
        have h := HK.out.sees
        rw [HLA.out, show k = l.length by rw [← HN.out]; omega] at h
        exact h)
      have HB := Lib.hid HK.out.2.2
      go_wp2_with fail
      go_ret
      exact ⟨_, rfl, HX.out, HB.out⟩

/-- What a function that hands back a file returns. -/
def FPost (f : Fl) (w : World) (e : Ending) (w' : World) : Prop := ∃ v, e = .returned v ∧ SeesF w' v f ∧ Below w.heap.size w w'

theorem settled_any (v : Value) (b : List UInt8) (w : World) (hs : SeesV w v (bys b)) (hl : b.length ≤ 1000000) : Calls Tryz.prog 75 #[v] w (FPost ⟨b, b, []⟩ w) := by
  obtain ⟨A, c, rfl, -⟩ := id hs
  rw [bys_len] at hs ⊢
  have CL := Lib.hid (fun W (hb : Below w.heap.size w W) => clone_any A b.length c b W (hs.later hb) hl)
  have B0 := Lib.hid (below_made w (.cells #[.slice none 0 0, .slice none 0 0, .slice none 0 0] 70))
  have X0 := Lib.hid (FBox.made w (.slice none 0 0) (.slice none 0 0) (.slice none 0 0))
  generalize b.length = n at *
  clear hs hl
  unfold FPost
  go_enter Tryz.func75, Tryz.ntmps75
  go_wp2_with fail
  refine (CL.out _ B0.out).mono ?_
  rintro e w1 ⟨v1, rfl, ho1, hb1⟩
  obtain ⟨A1, c1, rfl, -⟩ := own_slice ho1
  have B1 := Lib.hid (B0.out.trans (hb1.mono B0.out.size))
  have X1 := Lib.hid (X0.out.later hb1)
  have S1 := Lib.hid (SeesV.of_own ho1)
  clear ho1 hb1
  go_wp2_with fail
  refine (CL.out _ B1.out).mono ?_
  rintro e w2 ⟨v2, rfl, ho2, hb2⟩
  obtain ⟨A2, c2, rfl, -⟩ := own_slice ho2
  have B2 := Lib.hid (B1.out.trans (hb2.mono B1.out.size))
  have X2 := Lib.hid (X1.out.later hb2)
  have S2 := Lib.hid (S1.out.later hb2)
  have S3 := Lib.hid (SeesV.of_own ho2)
  clear ho2 hb2
  obtain ⟨x0, x1, x2⟩ := X2.out.cells
  obtain ⟨z0, z1, z2⟩ := X2.out.soft
  have HF := Lib.hid (show SeesF (fset w2 w.heap.size (.slice A1 b.length c1) (.slice A2 b.length c2) (.slice none 0 0)) (.agg #[.slice A1 b.length c1, .slice A2 b.length c2, .slice none 0 0]) ⟨b, b, []⟩ ∧ Below w.heap.size w (fset w2 w.heap.size (.slice A1 b.length c1) (.slice A2 b.length c2) (.slice none 0 0)) from
    ⟨⟨_, _, _, rfl, S2.out.fset X2.out _ _ _, S3.out.fset X2.out _ _ _, seesP_nil _⟩, fset_below B2.out (Nat.le_refl _) _ _ _⟩)
  have XF := Lib.hid (X2.out.set (.slice A1 b.length c1) (.slice A2 b.length c2) (.slice none 0 0))
  go_wp2_with fail
  change bodyPost _ _ _ _ _ (fset w2 w.heap.size (.slice A1 b.length c1) (.slice A2 b.length c2) (.slice none 0 0))
  generalize fset w2 w.heap.size (.slice A1 b.length c1) (.slice A2 b.length c2) (.slice none 0 0) = w3 at *
  obtain ⟨y0, y1, y2⟩ := XF.out.cells
  exact bodyPost_ret (by simp [results, Tryz.results75, go_sem, y0, y1, y2]) rfl ⟨_, rfl, HF.out.1, HF.out.2⟩
end Go.Proofs.YtaklilhnikmmfaaGreat

/-
  The walk of the reference's Lay.
-/
namespace Go.Proofs.YtaklilhnikmmfaaGreat
open Go.RowKit StrM BlockM

theorem ERel.zero {w wr w' : World} {v v' : Value} {acc : List UInt8} (h : ERel w v acc wr) (h1 : w'.ownsRow w.heap.size 5 1 v' (acc.length + 1) (bys acc ++ [.int .u8 0])) (h2 : Below w.heap.size wr w') : ERel w v' (acc ++ [0]) w' := h.step (c := 0) rfl h1 h2

/-- A row that is not empty: where it lies, and what a store does. -/
theorem ERel.store {w wr : World} {v : Value} {acc : List UInt8} (h : ERel w v acc wr) {j : Nat} (hj : j < acc.length) :
    ∃ g cap, v = .slice (some ⟨g, 0, none⟩) acc.length cap ∧ g < wr.heap.size ∧ (∃ c, wr.cell? ⟨g, j, none⟩ = some c) ∧ wr.frozen? ⟨g, j, none⟩ = false ∧ ∀ c : UInt8, ERel w v (acc.set j c) (wr.setCell ⟨g, j, none⟩ (.int .u8 (c.toNat : Int))) := by
  obtain ⟨h1, h2⟩ := h
  rcases id h1.2 with ⟨rfl, h0⟩ | ⟨g, cap, cur, rfl, hb, hg, _⟩
  · omega
  · refine ⟨g, cap, rfl, (Array.getElem?_eq_some_iff.1 hg).1, ⟨.int .u8 (acc[j].toNat : Int), ?_⟩, h1.frozenAt j, fun c => ?_⟩
    · rw [h1.cellAt j (by omega)]
      simp [bys, hj]
    · refine ⟨?_, h2.setCell hb _⟩
      have := (h1.stored j (.int .u8 (c.toNat : Int))).1
      rw [List.length_set]
      rw [show bys (acc.set j c) = (bys acc).set j (.int .u8 (c.toNat : Int)) by simp [bys, List.map_set]]
      exact this

/-- Zero bytes are appended until the place is there. -/
theorem pad_end {m : Nat} {c : List UInt8} {z : Nat} (h1 : z = 0 ∨ c.length + z ≤ m) (h2 : m ≤ c.length + z) : c ++ List.replicate z 0 = pad m c := by
  unfold pad
  congr 2
  omega

set_option maxHeartbeats 4000000 in
set_option maxRecDepth 100000 in
theorem rlay_any (A : Option Addr) (lf cf : Nat) (f : List UInt8) (v : Value) (l : List P) (w : World) (hf : f.length = lf) (hlf : lf ≤ 100000) (hfs : SeesV w (.slice A lf cf) (bys f)) (hs : SeesP w v l) (hp : ∀ x ∈ l, x.p ≤ 9223372036854775807) (hL : l.length ≤ 1000000) :
    Calls Tryz.prog 88 #[.slice A lf cf, v] w (LayPost (lay f l) w) := by
  obtain ⟨len, hn⟩ : ∃ len, len = l.length := ⟨_, rfl⟩
  obtain ⟨a, cap, rfl, -⟩ := id hs
  have HS := Lib.hid hs
  rw [← hn] at HS hL ⊢
  have HN := Lib.hid hn
  have HF := Lib.hid hf
  have HFS := Lib.hid (hfs.later (below_made w (.cells #[] 5)))
  have HO := Lib.hid (own_made w 5)
  have HPP := Lib.hid hp
  have HLIM := Lib.hid (show ∀ k, (lay f (l.take k)).length ≤ 100000 from fun k => by have := lay_len_lim f (l.take k); omega)
  clear hs hn hf hp hfs
  go_enter Tryz.func88, Tryz.ntmps88
  go_wp2_with (at_builtin; refine append_all oneByte rfl _ _ rfl w.heap.size _ 0 [] rfl HO.out _ (bys f) rfl HFS.out (bys_ones _) ?a1 ?a2 ?a3 ?_)
  case a1 => have := HF.out; rw [bys_len]; omega
  case a2 => have := HF.out; rw [bys_len]; unfold maxLen; omega
  case a3 => simp
  intro v1 w1 ho hb
  have E1 := Lib.hid (show ERel w v1 (lay f (l.take 0)) w1 from ⟨by rw [bys_len] at ho; exact ho, (below_made w _).trans hb⟩)
  clear ho hb HO
  go_wp2_with fail
  go_loopw [5, 6, 7] (fun x i _ wr => ∃ k : Nat, k ≤ len ∧ i = .int .i64 (k : Int) ∧ ERel w x (lay f (l.take k)) wr) (fun _ i _ _ => len - (intOf i).toNat)
  case atStart => exact ⟨0, Nat.zero_le _, rfl, E1.out⟩
  case round =>
    clear E1
    obtain ⟨k, hk, rfl, hE⟩ := hrel
    have HE := Lib.hid hE
    clear hE
    by_cases hlt : k < len
    · have hkl : k < l.length := by rw [← HN.out]; exact hlt
      obtain ⟨g, off, A1, bc, rfl, hg, cc1, cc2, csv⟩ := HS.out.cells hkl
      have hpk := HPP.out _ (List.getElem_mem hkl)
      have hok1 := fun n => lay_next_ok (f := f) (n := n) hkl
      have hok2 := lay_next_no (f := f) hkl
      have hok3 := ok_facts (x := l[k])
      have hoe := ok_eq l[k]
      generalize l[k] = u at *
      obtain ⟨p, b⟩ := u
      simp only at cc1 cc2 hpk hok1 hok3 hoe csv
      obtain ⟨bl, hbl⟩ : ∃ bl, bl = b.length := ⟨_, rfl⟩
      rw [← hbl] at cc2 hoe csv
      have RI := Lib.hid (fun w => rbright_any p A1 bl bc w hpk)
      rw [← hoe] at RI
      have hc1 : wr.cell? ⟨g, off + k * 2, none⟩ = some (.int .i64 p) := (HE.out.2.cell (p := ⟨g, off + k * 2, none⟩) hg).trans cc1
      have hc2 : wr.cell? ⟨g, off + k * 2 + 1, none⟩ = some (.slice A1 bl bc) := (HE.out.2.cell (p := ⟨g, off + k * 2 + 1, none⟩) hg).trans cc2
      cases ho : ok ⟨p, b⟩ with
      | false =>
        rw [ho] at RI
        have HX := Lib.hid (show lay f (l.take (k + 1)) = lay f (l.take k) from hok2 ho)
        clear hok1 hok2 hok3 hoe hbl ho hpk csv cc1 cc2
        go_wp2_with fail
        refine (RI.out _).mono ?_
        rintro e w4 ⟨rfl, hb⟩
        have E4 := Lib.hid (show ERel w u5 (lay f (l.take (k + 1))) w4 by rw [HX.out]; exact ⟨own_belowN HE.out.1 hb, HE.out.2.trans (hb.mono HE.out.2.size)⟩)
        clear hb
        go_wp2_with fail
        go_roundw
        case rel => exact ⟨k + 1, by omega, by go_num, E4.out⟩
        case measure => simp [intOf]; omega
      | true =>
        rw [ho] at RI
        obtain ⟨q, hq1, hq2, hq3, hq4, _, hq6⟩ := hok3 ho
        have hq1 : p = q := hq1
        have hq2 : p.toNat = q := hq2
        have hq3 : 0 < b.length := hq3
        have hq4 : b.length ≤ 16 := hq4
        have hq6 : q + b.length ≤ 65536 := hq6
        obtain ⟨c, hc⟩ : ∃ c, c = lay f (l.take k) := ⟨_, rfl⟩
        have HX := Lib.hid (show lay f (l.take (k + 1)) = upTo c q b b.length by rw [upTo_end hq3, hc]; exact hok1 q ho hq2)
        have hcl : c.length ≤ 100000 := by rw [hc]; exact HLIM.out k
        have E0 := Lib.hid (show ERel w u5 (upTo c q b 0) wr by rw [upTo_zero, hc]; exact HE.out)
        rw [← hbl] at hq3 hq4 hq6
        have HBL := Lib.hid hbl
        have SV := Lib.hid csv
        subst hq1
        have C1 := Lib.hid (show ∀ W, Below w.heap.size w W → W.cell? ⟨g, off + k * 2, none⟩ = some (.int .i64 (q : Int)) from fun W hW => (hW.cell (p := ⟨g, off + k * 2, none⟩) hg).trans cc1)
        have C2 := Lib.hid (show ∀ W, Below w.heap.size w W → W.cell? ⟨g, off + k * 2 + 1, none⟩ = some (.slice A1 bl bc) from fun W hW => (hW.cell (p := ⟨g, off + k * 2 + 1, none⟩) hg).trans cc2)
        clear hok1 hok2 hok3 hoe hbl ho hpk hq2 csv hc cc1 cc2 HE
        go_wp2_with fail
        refine (RI.out _).mono ?_
        rintro e w4 ⟨rfl, hb⟩
        have E4 := Lib.hid (show ERel w u5 (upTo c q b 0) w4 from ⟨own_belowN E0.out.1 hb, E0.out.2.trans (hb.mono E0.out.2.size)⟩)
        clear hb E0 hc1 hc2
        go_wp2_with fail
        go_loopw [5, 7] (fun x j wr => ∃ m : Nat, m ≤ bl ∧ j = .int .i64 (m : Int) ∧ ERel w x (upTo c q b m) wr) (fun _ j _ => bl - (intOf j).toNat)
        case atStart => exact ⟨0, Nat.zero_le _, rfl, E4.out⟩
        case round =>
          clear E4
          obtain ⟨m, hm, rfl, hE⟩ := hrel
          have HE := Lib.hid hE
          clear hE
          have hc1 := C1.out _ HE.out.2
          have hc2 := C2.out _ HE.out.2
          by_cases hml : m < bl
          · have hmb : m < b.length := by rw [← HBL.out]; exact hml
            obtain ⟨t, ht⟩ : ∃ t, t = upTo c q b m := ⟨_, rfl⟩
            have htl : t.length ≤ 200000 := by rw [ht]; have := upTo_len c q b (k := m) (by omega); omega
            have HTN := Lib.hid (show (pad (q + m + 1) t).set (q + m) b[m] = upTo c q b (m + 1) by rw [ht]; exact upTo_next c q hmb)
            rw [← ht] at HE
            obtain ⟨gb, ob, hA1, hgb, cb⟩ := SV.out.cell hmb
            subst hA1
            have CB := Lib.hid (show ∀ W, Below w.heap.size w W → W.cell? ⟨gb, ob + m, none⟩ = some (.int .u8 (b[m].toNat : Int)) from fun W hW => (hW.cell (p := ⟨gb, ob + m, none⟩) hgb).trans cb)
            obtain ⟨x, hx⟩ : ∃ x : UInt8, x = b[m] := ⟨_, rfl⟩
            rw [← hx] at HTN CB
            clear ht hx cb
            go_wp2_with fail
            clear hc1 hc2
            go_loopw [5] (fun y wr => ∃ z : Nat, (z = 0 ∨ t.length + z ≤ q + m + 1) ∧ ERel w y (t ++ List.replicate z 0) wr) (fun y _ => q + m + 1 - sliceLen y)
            case atStart => exact ⟨0, .inl rfl, by simpa using HE.out⟩
            case round =>
              clear HE
              obtain ⟨z, hz, hE⟩ := hrel
              have hTL : (t ++ List.replicate z 0).length = t.length + z := by simp
              obtain ⟨T, hT⟩ : ∃ T, T = t ++ List.replicate z (0 : UInt8) := ⟨_, rfl⟩
              rw [← hT] at hE hTL
              obtain ⟨n, hn⟩ : ∃ n, n = T.length := ⟨_, rfl⟩
              obtain ⟨A5, c5, hu, -⟩ := own_slice hE.1
              rw [← hn] at hu hTL
              subst hu
              have HE := Lib.hid hE
              have HT := Lib.hid hT
              have HTL := Lib.hid hn
              have hc1 := C1.out _ hE.2
              have hsz := hE.2.size
              have hn2 : n ≤ 300000 := by rcases hz with h | h <;> omega
              clear hE hT hn
              by_cases hpad : n ≤ q + m
              · have OO := Lib.hid (show wr.ownsRow w.heap.size 5 1 _ n (bys T) by rw [HTL.out]; exact HE.out.1)
                have h1 : (n + 1) * 1 ≤ 140737488355328 := by omega
                have h2 : n + 1 ≤ maxLen := by unfold maxLen; omega
                have hz2 : t.length + (z + 1) ≤ q + m + 1 := by omega
                have hpad' : (n : Int) ≤ (q : Int) + (m : Int) := by omega
                clear hTL hz
                go_wp2_with (at_builtin; refine append_one oneByte rfl _ _ rfl w.heap.size _ _ _ rfl OO.out (.int .u8 0) rfl rfl h1 h2 hsz ?_)
                intro v5 w5 ho hb
                obtain ⟨A6, c6, rfl, -⟩ := own_slice ho
                have E5 := Lib.hid (show ERel w (.slice A6 (n + 1) c6) (t ++ List.replicate (z + 1) 0) w5 by
                  rw [List.replicate_succ', ← List.append_assoc, ← HT.out]
                  exact HE.out.zero (by rw [← HTL.out]; exact ho) hb)
                clear ho hb OO
                go_wp2_with fail
                go_roundw
                case rel => exact ⟨z + 1, .inr hz2, E5.out⟩
                case measure => simp [sliceLen]; omega
              · have hpad' : decide ((n : Int) ≤ (q : Int) + (m : Int)) = false := by simp; omega
                have EP := Lib.hid (show ERel w (.slice A5 n c5) (pad (q + m + 1) t) wr by
                  have h := HE.out
                  rw [HT.out, pad_end (m := q + m + 1) hz (by omega)] at h
                  exact h)
                have hpl : q + m < (pad (q + m + 1) t).length := by rw [pad_len]; omega
                obtain ⟨g5, c5', hu, hg5, ⟨y5, hy5⟩, hf5, hst⟩ := EP.out.store hpl
                injection hu with hu1 hu2 hu3
                subst hu1 hu3
                have HST := Lib.hid (hst x)
                rw [HTN.out] at HST
                have hc2 := C2.out _ HE.out.2
                have hcb := CB.out _ HE.out.2
                have n0 : ((q : Int) + (m : Int)).toNat = q + m := by omega
                have w0 : IntKind.i64.wrap ((q : Int) + (m : Int)) = (q : Int) + (m : Int) := IntWalk.i64_in _ (by omega)
                have p0 : 0 ≤ (q : Int) + (m : Int) := by omega
                have q0 : (q : Int) + (m : Int) < (n : Int) := by omega
                clear hst hu2 hTL hz hpl
                go_wp2_with fail
                go_still_tail 17, (by kernel_rfl)
                change wpList _ _ _ _ _ wr.drew
                go_wp2_with fail
                go_roundw
                case rel => exact ⟨m + 1, by omega, by go_num, HST.out.1.drew, HST.out.2.drew⟩
                case measure => simp [intOf]; omega
          · have HX2 := Lib.hid (show upTo c q b m = lay f (l.take (k + 1)) by rw [HX.out, show m = b.length by rw [← HBL.out]; omega])
            have E6 := Lib.hid (show ERel w u5 (lay f (l.take (k + 1))) wr by rw [← HX2.out]; exact HE.out)
            clear HX2 HE
            go_wp2_with fail
            go_roundw
            case rel => exact ⟨k + 1, by omega, by go_num, E6.out⟩
            case measure => simp [intOf]; omega
    · have HX := Lib.hid (show lay f (l.take k) = lay f l from lay_full (by rw [← HN.out]; exact hlt))
      have HP := Lib.hid (show LayPost (lay f l) w (.returned u5) wr from ⟨_, rfl, by rw [← HX.out]; exact SeesV.of_own HE.out.1, HE.out.2⟩)
      go_wp2_with fail
      go_ret
      exact HP.out
end Go.Proofs.YtaklilhnikmmfaaGreat
