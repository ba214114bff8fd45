/-
  The walk of file.copies.
-/
import Derived.Test.YtaklilhnikmmfaaGreatFileRow
import Derived.Laws.OwnMore
namespace Go.Proofs.YtaklilhnikmmfaaGreat
open Go.RowKit StrM BlockM FileM

/-- The zero piece. -/
def zb : PB := (⟨0, []⟩, .slice none 0 0)
theorem made_zb (n : Nat) : (madeCells #[.int .i64 0, .slice none 0 0] (n * 2)).toList = pcs (List.replicate n zb) := by
  apply List.ext_getElem?
  intro j
  by_cases hj : j < n * 2
  · have hk : j / 2 < (List.replicate n zb).length := by simp; omega
    have hp := pcs_at (List.replicate n zb) hk
    rw [List.getElem_replicate] at hp
    rcases Nat.mod_two_eq_zero_or_one j with h2 | h2
    · have e : j = j / 2 * 2 := by omega
      have h := hp.1
      rw [← e] at h
      rw [h]
      simp [madeCells, hj, h2, zb]
    · have e : j = j / 2 * 2 + 1 := by omega
      have h := hp.2
      rw [← e] at h
      rw [h]
      simp [madeCells, hj, h2, zb]
  · rw [List.getElem?_eq_none (by simp [size_madeCells]; omega), List.getElem?_eq_none (by rw [pcs_len]; simp; omega)]

theorem made_pieces (w : World) (N : Nat) (hN : N ≤ 1000000) :
    ∃ w', (Instr.makeSlice 68 (.int .i64 (N : Int)) (.int .i64 (N : Int))).run Tryz.prog w = .ok (.slice (some ⟨w.heap.size, 0, none⟩) N N) w' ∧ PRel w (.slice (some ⟨w.heap.size, 0, none⟩) N N) (List.replicate N zb) w' := by
  obtain ⟨i0, hi, hz0, hz1, hz2⟩ := info_parts pieceInfo
  obtain ⟨w', h1, h2, h3⟩ := run_make_full (P := Tryz.prog) w w.heap.size 68 113 i0 _ 2 Tryz.underlying68 hi hz0 hz1 .i64 .i64 N (by rw [hz2]; omega) (by unfold maxLen; omega) (Nat.le_refl _)
  refine ⟨w', h1, ?_, fun x hx => ?_, (Below.refl _ _).grown h3 (Nat.le_refl _) (fun k hk => by cases hk)⟩
  · rw [List.length_replicate, ← made_zb]; exact h2
  · rw [List.eq_of_mem_replicate hx]; exact World.ownsRow_nil _ _ _ _

theorem pcs_put (la r : List PB) (x u : PB) : ((pcs (la ++ x :: r)).set (la.length * 2) (.int .i64 u.1.p)).set (la.length * 2 + 1) u.2 = pcs (la ++ u :: r) := by
  rw [pcs_add, pcs_add, List.set_append_right _ _ (by rw [pcs_len]; omega), List.set_append_right _ _ (by rw [pcs_len]; omega), pcs_len, Nat.sub_self, show la.length * 2 + 1 - la.length * 2 = 1 by omega]
  rfl

/-- What stands ahead of the store of one piece whose bytes were made since. -/
structure CMid (w : World) (g n k : Nat) (la r : List PB) (x : PB) (w1 : World) : Prop where
  row : w1.ownsRow w.heap.size 113 2 (.slice (some ⟨g, 0, none⟩) n n) (la ++ x :: r).length (pcs (la ++ x :: r))
  all : ∀ y ∈ la ++ x :: r, w1.ownsRow w.heap.size 5 1 y.2 y.1.b.length (bys y.1.b)
  bel : Below w.heap.size w w1
  len : la.length = k
theorem CMid.of {w wr w1 : World} {g n k : Nat} {la r : List PB} {x : PB} (h : PRel w (.slice (some ⟨g, 0, none⟩) n n) (la ++ x :: r) wr) (hk : la.length = k) (hb : Below wr.heap.size wr w1) : CMid w g n k la r x w1 :=
  ⟨own_belowN h.1 hb, fun y hy => own_belowN (h.2.1 y hy) hb, h.2.2.trans (hb.mono h.2.2.size), hk⟩
theorem CMid.form {w w1 : World} {g n k : Nat} {la r : List PB} {x : PB} (h : CMid w g n k la r x w1) : n = (la ++ x :: r).length ∧ w.heap.size ≤ g ∧ g < w1.heap.size := by
  rcases h.row.2 with ⟨h', _⟩ | ⟨g', cap, cur, h', hb, hg, _⟩
  · cases h'
  · injection h' with h1 h2 h3
    injection h1 with h1
    injection h1 with h1 _ _
    subst h1
    exact ⟨h2, hb, (Array.getElem?_eq_some_iff.1 hg).1⟩
theorem CMid.cells {w w1 : World} {g n k : Nat} {la r : List PB} {x : PB} (h : CMid w g n k la r x w1) : w1.cell? ⟨g, k * 2, none⟩ = some (.int .i64 x.1.p) ∧ w1.cell? ⟨g, k * 2 + 1, none⟩ = some x.2 ∧ w1.frozen? ⟨g, k * 2, none⟩ = false ∧ w1.frozen? ⟨g, k * 2 + 1, none⟩ = false := by
  have hn := h.form.1
  have hrow := h.row
  have hk := h.len
  subst hk
  rw [← hn] at hrow
  have hp := pcs_at (la ++ x :: r) (k := la.length) (by simp)
  have hl : la.length < n := by rw [hn]; simp
  refine ⟨?_, ?_, hrow.frozenAt _, hrow.frozenAt _⟩
  · rw [hrow.cellAt _ (by omega)]; simpa using hp.1
  · rw [hrow.cellAt _ (by omega)]; simpa using hp.2
theorem CMid.done {w w1 : World} {g n k : Nat} {la r : List PB} {x u : PB} (h : CMid w g n k la r x w1) (hu : w1.ownsRow w.heap.size 5 1 u.2 u.1.b.length (bys u.1.b)) :
    PRel w (.slice (some ⟨g, 0, none⟩) n n) (la ++ u :: r) ((w1.setCell ⟨g, k * 2, none⟩ (.int .i64 u.1.p)).setCell ⟨g, k * 2 + 1, none⟩ u.2) := by
  obtain ⟨hn, hg, _⟩ := h.form
  have hrow := h.row
  rw [← hn] at hrow
  have hk := h.len
  obtain ⟨s1, s2⟩ := hrow.stored (k * 2) (.int .i64 u.1.p)
  obtain ⟨t1, t2⟩ := s1.stored (k * 2 + 1) u.2
  have hkeep : ∀ y : PB, w1.ownsRow w.heap.size 5 1 y.2 y.1.b.length (bys y.1.b) → ((w1.setCell ⟨g, k * 2, none⟩ (.int .i64 u.1.p)).setCell ⟨g, k * 2 + 1, none⟩ u.2).ownsRow w.heap.size 5 1 y.2 y.1.b.length (bys y.1.b) := by
    intro y hy
    have y1 := hy.kept s2 (own_diff (by decide) hrow hy)
    exact y1.kept t2 (own_diff (by decide) s1 y1)
  refine ⟨?_, fun y hy => hkeep y ?_, (h.bel.setCell hg _).setCell hg _⟩
  · rw [show (la ++ u :: r).length = n by rw [hn]; simp]
    rw [← pcs_put la r x u, hk]; exact t1
  · rcases List.mem_append.1 hy with hy | hy
    · exact h.all y (List.mem_append_left _ hy)
    · rcases List.mem_cons.1 hy with rfl | hy
      · exact hu
      · exact h.all y (List.mem_append_right _ (List.mem_cons_of_mem _ hy))

theorem set2_cell (w : World) {g q : Nat} (hne : q ≠ g) (j j' i : Nat) (u u' : Value) : ((w.setCell ⟨g, j, none⟩ u).setCell ⟨g, j', none⟩ u').cell? ⟨q, i, none⟩ = w.cell? ⟨q, i, none⟩ := by
  simp [World.cell?, World.setCell, Array.getElem?_modify, Ne.symm hne]

/-- What copies returns: a row of the call's own, with rows of bytes of the call's own. -/
def CopyPost (l : List P) (w : World) (e : Ending) (w' : World) : Prop := ∃ v la, e = .returned v ∧ la.map Prod.fst = l ∧ PRel w v la w'

end Go.Proofs.YtaklilhnikmmfaaGreat
