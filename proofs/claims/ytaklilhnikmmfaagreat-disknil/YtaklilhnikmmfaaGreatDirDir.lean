/-
  Directories in memory.
-/
import Derived.Test.YtaklilhnikmmfaaGreatDirFault
namespace Go.Proofs.YtaklilhnikmmfaaGreat
open Go.RowKit StrM DirM

/-- A directory, as a value that is read. -/
def SeesD (w : World) (v : Value) (d : D) : Prop := ∃ N S V, v = .agg #[N, S, V] ∧ SeesE w N d.now ∧ SeesE w S d.sure ∧ SeesO w V d.pend
theorem SeesD.later {w w' : World} {v : Value} {d : D} (h : SeesD w v d) (hb : Below w.heap.size w w') : SeesD w' v d := by
  obtain ⟨N, S, V, e, h1, h2, h3⟩ := h
  exact ⟨N, S, V, e, h1.later hb, h2.later hb, h3.later hb⟩
theorem SeesD.slices {w : World} {v : Value} {d : D} (h : SeesD w v d) : ∃ A0 c0 A1 c1 A2 c2, v = .agg #[.slice A0 d.now.length c0, .slice A1 d.sure.length c1, .slice A2 d.pend.length c2] ∧
    SeesE w (.slice A0 d.now.length c0) d.now ∧ SeesE w (.slice A1 d.sure.length c1) d.sure ∧ SeesO w (.slice A2 d.pend.length c2) d.pend := by
  obtain ⟨N, S, V, e, h1, h2, h3⟩ := h
  obtain ⟨A0, c0, rfl, -⟩ := SeesN.form h1
  obtain ⟨A1, c1, rfl, -⟩ := SeesN.form h2
  obtain ⟨A2, c2, rfl, -⟩ := SeesN.form h3
  exact ⟨A0, c0, A1, c1, A2, c2, e, h1, h2, h3⟩
theorem seesE_nil (w : World) : SeesE w (.slice none 0 0) [] := SeesN.nil w
theorem seesO_nil (w : World) : SeesO w (.slice none 0 0) [] := SeesN.nil w
theorem SeesD.zero (w : World) : SeesD w (.agg #[.slice none 0 0, .slice none 0 0, .slice none 0 0]) zd := ⟨_, _, _, rfl, seesE_nil w, seesE_nil w, seesO_nil w⟩

/-- The block of a directory, known whole. -/
def DBox (w : World) (q : Nat) (N S V : Value) : Prop := w.heap[q]? = some (.cells #[N, S, V] 32 (0, 0))
theorem DBox.made (w : World) (N S V : Value) : DBox (w.alloc (.cells #[N, S, V] 32)) w.heap.size N S V := heap_alloc_new w _
theorem DBox.lt {w : World} {q : Nat} {N S V : Value} (h : DBox w q N S V) : q < w.heap.size := (Array.getElem?_eq_some_iff.1 h).1
theorem DBox.later {w w' : World} {q : Nat} {N S V : Value} (h : DBox w q N S V) (hb : Below w.heap.size w w') : DBox w' q N S V := by
  have := hb.block q h.lt
  unfold DBox at h ⊢
  rw [this]; exact h
theorem DBox.cells {w : World} {q : Nat} {N S V : Value} (h : DBox w q N S V) : w.cell? ⟨q, 0, none⟩ = some N ∧ w.cell? ⟨q, 1, none⟩ = some S ∧ w.cell? ⟨q, 2, none⟩ = some V := by
  unfold DBox at h
  refine ⟨?_, ?_, ?_⟩ <;> (rw [cell_of_row w q _ _ _ (0, 0) h]; rfl)
theorem DBox.soft {w : World} {q : Nat} {N S V : Value} (h : DBox w q N S V) : w.frozen? ⟨q, 0, none⟩ = false ∧ w.frozen? ⟨q, 1, none⟩ = false ∧ w.frozen? ⟨q, 2, none⟩ = false := by
  unfold DBox at h
  refine ⟨?_, ?_, ?_⟩ <;> simp [World.frozen?, h]
/-- All three cells are stored. -/
def dset (w : World) (q : Nat) (N S V : Value) : World := ((w.setCell ⟨q, 0, none⟩ N).setCell ⟨q, 1, none⟩ S).setCell ⟨q, 2, none⟩ V
theorem DBox.set {w : World} {q : Nat} {N S V : Value} (h : DBox w q N S V) (N' S' V' : Value) : DBox (dset w q N' S' V') q N' S' V' := by
  have h1 := heap_setCell_same w q 0 _ _ N' h
  have h2 := heap_setCell_same _ q 1 _ _ S' h1
  exact heap_setCell_same _ q 2 _ _ V' h2
theorem dset_below {w W : World} {base q : Nat} (hb : Below base w W) (hq : base ≤ q) (N S V : Value) : Below base w (dset W q N S V) := ((hb.setCell hq _).setCell hq _).setCell hq _
theorem dset_other {w : World} {q g : Nat} (hne : g ≠ q) (N S V : Value) : (dset w q N S V).heap[g]? = w.heap[g]? := by
  have h : ∀ (W : World) (i : Nat) (u : Value), (W.setCell ⟨q, i, none⟩ u).heap[g]? = W.heap[g]? := fun W i u => by
    simp [World.setCell, Array.getElem?_modify, Ne.symm hne]
  unfold dset
  rw [h, h, h]
theorem dset_cell {w : World} {q g i : Nat} (hne : g ≠ q) (N S V : Value) : (dset w q N S V).cell? ⟨g, i, none⟩ = w.cell? ⟨g, i, none⟩ := by
  simp only [World.cell?, dset_other hne]
theorem dset_size (w : World) (q : Nat) (N S V : Value) : (dset w q N S V).heap.size = w.heap.size := by simp [dset]
/-- A cell that is no slice is no cell of a directory's block. -/
theorem DBox.apart {w : World} {q : Nat} {A0 A1 A2 : Option Addr} {n0 n1 n2 c0 c1 c2 : Nat} (h : DBox w q (.slice A0 n0 c0) (.slice A1 n1 c1) (.slice A2 n2 c2)) {g i : Nat} {c : Value} (hc : w.cell? ⟨g, i, none⟩ = some c) (hx : ∀ a m k, c ≠ .slice a m k) : g ≠ q := by
  intro e
  subst e
  unfold DBox at h
  rw [cell_of_row w g _ _ _ (0, 0) h] at hc
  match i, hc with
  | 0, hc => simp at hc; exact hx _ _ _ hc.symm
  | 1, hc => simp at hc; exact hx _ _ _ hc.symm
  | 2, hc => simp at hc; exact hx _ _ _ hc.symm
  | i + 3, hc => simp at hc
theorem SeesN.dset {w : World} {q : Nat} {A0 A1 A2 : Option Addr} {n0 n1 n2 c0 c1 c2 : Nat} {v : Value} {n : Nat} {xs : List Value} (h : SeesN w v n xs) (hq : DBox w q (.slice A0 n0 c0) (.slice A1 n1 c1) (.slice A2 n2 c2))
    (hx : ∀ c, xs[0]? = some c → ∀ a m k, c ≠ .slice a m k) (N S V : Value) : SeesN (dset w q N S V) v n xs := by
  obtain ⟨a, cap, rfl, hn, h0 | ⟨g, off, rfl, hg, hc⟩⟩ := h
  · exact ⟨a, cap, rfl, hn, .inl h0⟩
  · cases xs with
    | nil => exact ⟨_, cap, rfl, hn, .inl rfl⟩
    | cons x r =>
      have hne : g ≠ q := hq.apart (hc 0 x rfl) (hx x rfl)
      exact ⟨_, cap, rfl, hn, .inr ⟨g, off, rfl, by rw [dset_size]; exact hg, fun k c hk => by rw [dset_cell hne]; exact hc k c hk⟩⟩
theorem ecs_first (l : List E) : ∀ c, (ecs l)[0]? = some c → ∀ a m k, c ≠ .slice a m k := by
  cases l with
  | nil => intro c h; cases h
  | cons x r => intro c h; rw [ecs_cons] at h; cases h; intro a m k e; cases e
theorem ocs_first (l : List O) : ∀ c, (ocs l)[0]? = some c → ∀ a m k, c ≠ .slice a m k := by
  cases l with
  | nil => intro c h; cases h
  | cons x r => intro c h; rw [ocs_cons] at h; cases h; intro a m k e; cases e
theorem SeesE.dset {w : World} {q : Nat} {A0 A1 A2 : Option Addr} {n0 n1 n2 c0 c1 c2 : Nat} {v : Value} {l : List E} (h : SeesE w v l) (hq : DBox w q (.slice A0 n0 c0) (.slice A1 n1 c1) (.slice A2 n2 c2)) (N S V : Value) : SeesE (dset w q N S V) v l := SeesN.dset h hq (ecs_first l) N S V
theorem SeesO.dset {w : World} {q : Nat} {A0 A1 A2 : Option Addr} {n0 n1 n2 c0 c1 c2 : Nat} {v : Value} {l : List O} (h : SeesO w v l) (hq : DBox w q (.slice A0 n0 c0) (.slice A1 n1 c1) (.slice A2 n2 c2)) (N S V : Value) : SeesO (dset w q N S V) v l := SeesN.dset h hq (ocs_first l) N S V
theorem SeesD.dset {w : World} {q : Nat} {A0 A1 A2 : Option Addr} {n0 n1 n2 c0 c1 c2 : Nat} {v : Value} {d : D} (h : SeesD w v d) (hq : DBox w q (.slice A0 n0 c0) (.slice A1 n1 c1) (.slice A2 n2 c2)) (N S V : Value) : SeesD (dset w q N S V) v d := by
  obtain ⟨N', S', V', e, h1, h2, h3⟩ := h
  exact ⟨N', S', V', e, h1.dset hq N S V, h2.dset hq N S V, h3.dset hq N S V⟩

/-- The first operations of a slice of them. -/
theorem SeesO.cut {w : World} {A : Option Addr} {n c : Nat} {l : List O} (h : SeesO w (.slice A n c) l) {k : Nat} (hk : k ≤ l.length) : SeesO w (.slice A k c) (l.take k) := by
  obtain ⟨a, cap, e, hn, h⟩ := h
  injection e with e1 e2 e3
  subst e1 e2 e3
  have hl : (l.take k).length = k := by rw [List.length_take]; omega
  refine ⟨A, c, by rw [hl], by rw [hl]; omega, ?_⟩
  rcases h with h0 | ⟨g, off, rfl, hg, hc⟩
  · left
    have : l = [] := by
      cases l with
      | nil => rfl
      | cons x r => rw [ocs_cons] at h0; cases h0
    subst this
    rw [List.take_nil]; rfl
  · refine .inr ⟨g, off, rfl, hg, fun j u hj => hc j u ?_⟩
    rw [← ocs_take l k hk, List.getElem?_take] at hj
    split at hj
    · exact hj
    · cases hj

/-- What a function that hands back a directory returns; one that hands back an error too. -/
def DPost (d : D) (w : World) (e : Ending) (w' : World) : Prop := ∃ v, e = .returned v ∧ SeesD w' v d ∧ Below w.heap.size w w'
def DEPost (d : D) (k : Int) (w : World) (e : Ending) (w' : World) : Prop := ∃ v, e = .returned (.tuple #[v, .int .i64 k]) ∧ SeesD w' v d ∧ Below w.heap.size w w'
end Go.Proofs.YtaklilhnikmmfaaGreat
