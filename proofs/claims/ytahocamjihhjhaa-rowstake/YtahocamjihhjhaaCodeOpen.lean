/-
  A slice of values that came in, read as a list.
-/
import Derived.Test.YtahocamjihhjhaaCodeLeaf
import Derived.Deep.Slices
namespace Go.Proofs.Ytahocamjihhjhaa
open Go.RowKit StrM VaryM CodeM Go.ChangeShapes Go.WideShapes

theorem size_val : Try.prog.cellsOf 45 = 3 := by kernel_rfl
theorem size_int : Try.prog.cellsOf 3 = 1 := by kernel_rfl
theorem size_int64 : Try.prog.cellsOf 2 = 1 := by kernel_rfl
theorem size_string : Try.prog.cellsOf 9 = 1 := by kernel_rfl
instance : Inhabited V := ⟨zero⟩

section
variable {H : Type} {enc : TypeId × Value → H} {w : World} {base : Nat} {spare : Nat → Bool} {held : Bool}

/-- The cells of one value. -/
theorem val_cells {fuel : Nat} {cs : List Value} {y : DataW H × List MemPlace} (h : DataW.trod enc Try.prog w base spare held fuel 45 cs = some y) : ∃ u : V, cs = cs3 u ∧ Fits u := by
  obtain ⟨xs, n, _, _, hlen, hxl, hf⟩ := DataW.trod_struct Try.underlying45 h
  rw [size_val] at hlen
  have hx3 : xs.length = 3 := hxl
  match cs, hlen, xs, hx3 with
  | [c0, c1, c2], _, [x0, x1, x2], _ =>
    have f0 : DataW.trod enc Try.prog w base spare held n 3 (([c0, c1, c2].drop 0).take (Try.prog.cellsOf 3)) = some x0 := hf 0 _ rfl
    have f1 : DataW.trod enc Try.prog w base spare held n 2 (([c0, c1, c2].drop 1).take (Try.prog.cellsOf 2)) = some x1 := hf 1 _ rfl
    have f2 : DataW.trod enc Try.prog w base spare held n 9 (([c0, c1, c2].drop 2).take (Try.prog.cellsOf 9)) = some x2 := hf 2 _ rfl
    rw [size_int] at f0
    rw [size_int64] at f1
    rw [size_string] at f2
    obtain ⟨n0, e0, _, _⟩ := DataW.trod_int Try.underlying3 (x := x0) f0
    obtain ⟨n1, e1, _, wf1⟩ := DataW.trod_int Try.underlying2 (x := x1) f1
    obtain ⟨s2, e2, _, _⟩ := DataW.trod_string Try.underlying9 (x := x2) f2
    simp at e0 e1 e2
    refine ⟨⟨n0, n1, s2⟩, by rw [e0, e1, e2]; rfl, ?_⟩
    simp [Lit.wf, IntKind.min, IntKind.max, IntKind.signed, IntKind.bits] at wf1
    unfold Fits
    simp only
    omega

theorem SeesS.of_arg {fuel : Nat} {a : Option Addr} {len cap : Nat} {x : DataW H × List MemPlace} (h : DataW.trod enc Try.prog w base spare held fuel 29 [.slice a len cap] = some x) :
    ∃ l : List V, l.length = len ∧ SeesS w (.slice a len cap) l ∧ ∀ v ∈ l, Fits v := by
  rcases Go.Deep.open_slice Try.underlying29 h with ⟨hcs, _⟩ | ⟨ad, len', cap', m, n, D, Pl, hcs, _, hl, _, hm, _, hi⟩
  · simp at hcs
    obtain ⟨rfl, rfl, rfl⟩ := hcs
    exact ⟨[], rfl, ⟨none, 0, rfl, .inl rfl⟩, fun v hv => by cases hv⟩
  · simp at hcs
    obtain ⟨rfl, rfl, rfl⟩ := hcs
    have hlm : len ≤ m := by rw [hm]; split <;> omega
    have hall : ∀ i, i < len → ∃ u : V, Fits u ∧ ∀ j, j < 3 → w.cell? ((ad.add (i * 3)).add j) = (cs3 u)[j]? := by
      intro i hil
      obtain ⟨cs, hc, ht⟩ := hi i (by omega)
      obtain ⟨u, rfl, hfu⟩ := val_cells ht
      rw [size_val] at hc
      exact ⟨u, hfu, (World.cells?_some hc).2.2⟩
    obtain ⟨f, hf⟩ := Go.Deep.choose_lt hall
    refine ⟨(List.range len).map f, by simp, ⟨some ad, cap, by simp, ?_⟩, ?_⟩
    · by_cases h0 : len = 0
      · left; simp [h0]
      · right
        obtain ⟨b, off, spot⟩ := ad
        have hc0 := (hf 0 (by omega)).2 0 (by omega)
        have hsome : w.cell? ⟨b, off, spot⟩ = some (.int .i64 (f 0).k) := by simpa [Addr.add, cs3] using hc0
        have hspot : spot = none := World.cell?_spot hsome
        subst hspot
        refine ⟨b, off, rfl, World.block_lt_of_cell? w _ hsome, fun k hk => ?_⟩
        have hk' : k < len := by simpa using hk
        have hh := (hf k hk').2
        have e : ((List.range len).map f)[k] = f k := by simp
        rw [e]
        have c0 := hh 0 (by omega)
        have c1 := hh 1 (by omega)
        have c2 := hh 2 (by omega)
        rw [Go.Deep.add_add] at c0 c1 c2
        refine ⟨?_, ?_, ?_⟩
        · by_cases k0 : k = 0
          · subst k0; simpa [Addr.add, cs3] using c0
          · simpa [Addr.add, cs3, show ¬ k * 3 = 0 by omega] using c0
        · simpa [Addr.add, cs3, Nat.add_assoc] using c1
        · simpa [Addr.add, cs3, Nat.add_assoc] using c2
    · intro v hv
      obtain ⟨i, hi', rfl⟩ := List.mem_map.1 hv
      exact (hf i (by simpa using hi')).1
end
end Go.Proofs.Ytahocamjihhjhaa
