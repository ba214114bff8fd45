/-
  Rows of values as cells: their places, what a row of the call's own reads as.
-/
import Derived.Test.YtahocamjihhjhaaCodeLeaf
import Derived.Laws.Rows
namespace Go.Proofs.Ytahocamjihhjhaa
open Go.RowKit StrM VaryM CodeM

theorem vals_len (l : List V) : (vals l).length = l.length * 3 := by
  induction l with
  | nil => rfl
  | cons v l ih => simp only [vals, List.flatMap_cons, List.length_append, List.length_cons] at ih ⊢; rw [ih]; simp [cs3]; omega
theorem vals_add (a b : List V) : vals (a ++ b) = vals a ++ vals b := by simp [vals]
theorem vals_at : ∀ (l : List V) (k : Nat) (hk : k < l.length), (vals l)[k * 3]? = some (.int .i64 l[k].k) ∧ (vals l)[k * 3 + 1]? = some (.int .i64 l[k].n) ∧ (vals l)[k * 3 + 2]? = some (.string l[k].t)
  | v :: l, 0, _ => by simp [vals, cs3]
  | v :: l, k + 1, hk => by
    have := vals_at l k (by simpa using hk)
    have e : vals (v :: l) = cs3 v ++ vals l := by simp [vals]
    have el : (cs3 v).length = 3 := rfl
    rw [e]
    refine ⟨?_, ?_, ?_⟩
    · rw [List.getElem?_append_right (by omega), el, show (k + 1) * 3 - 3 = k * 3 by omega]; simpa using this.1
    · rw [List.getElem?_append_right (by omega), el, show (k + 1) * 3 + 1 - 3 = k * 3 + 1 by omega]; simpa using this.2.1
    · rw [List.getElem?_append_right (by omega), el, show (k + 1) * 3 + 2 - 3 = k * 3 + 2 by omega]; simpa using this.2.2

theorem SeesS.of_own {w : World} {base n : Nat} {v : Value} {l : List V} (h : w.ownsRow base 45 3 v n (vals l)) : SeesS w v l := by
  have hl : l.length = n := by have := h.1; rw [vals_len] at this; omega
  rcases h.2 with ⟨rfl, h0⟩ | ⟨g, cap, cur, rfl, hb, hg, _⟩
  · refine ⟨none, 0, by rw [hl, h0], .inl (List.length_eq_zero_iff.1 (by omega))⟩
  · refine ⟨_, cap, by rw [hl], .inr ⟨g, 0, rfl, (Array.getElem?_eq_some_iff.1 hg).1, fun k hk => ?_⟩⟩
    obtain ⟨h1, h2, h3⟩ := vals_at l k hk
    have c1 := h.cells (g := g) rfl _ _ h1
    have c2 := h.cells (g := g) rfl _ _ h2
    have c3 := h.cells (g := g) rfl _ _ h3
    refine ⟨?_, ?_, ?_⟩
    · by_cases k0 : k = 0
      · subst k0; simpa [Addr.add] using c1
      · simpa [Addr.add, show ¬ k * 3 = 0 by omega] using c1
    · simpa [Addr.add] using c2
    · simpa [Addr.add] using c3

/-- A row of values that is built with its elements. -/
theorem own_vals (w : World) (l : List V) (hl : l.length ≤ 1000) : (w.alloc (.cells (vals l).toArray 45)).ownsRow w.heap.size 45 3 (.slice (some ⟨w.heap.size, 0, none⟩) l.length l.length) l.length (vals l) :=
  ⟨vals_len l, .inr ⟨w.heap.size, l.length, (vals l).toArray, rfl, Nat.le_refl _, heap_alloc_new w _, Nat.le_refl _, by unfold maxLen; omega, by simp [vals_len], by rw [List.take_of_length_le (by simp [vals_len])]⟩⟩

end Go.Proofs.Ytahocamjihhjhaa
