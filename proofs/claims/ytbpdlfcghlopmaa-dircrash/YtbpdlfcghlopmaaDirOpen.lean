/-
  Directories, operations and slices of them that came in.
-/
import Derived.Test.YtbpdlfcghlopmaaDirMade
import Derived.Deep.Slices
namespace Go.Proofs.Ytbpdlfcghlopmaa
open Go.RowKit StrM DirM Go.ChangeShapes Go.WideShapes

theorem size_entry : Try.prog.cellsOf 37 = 2 := by kernel_rfl
theorem size_op : Try.prog.cellsOf 27 = 4 := by kernel_rfl
theorem size_dir : Try.prog.cellsOf 25 = 3 := by kernel_rfl
theorem dsize_int : Try.prog.cellsOf 3 = 1 := by kernel_rfl
theorem dsize_bool : Try.prog.cellsOf 4 = 1 := by kernel_rfl
theorem dsize_string : Try.prog.cellsOf 9 = 1 := by kernel_rfl
theorem dsize_entries : Try.prog.cellsOf 22 = 1 := by kernel_rfl
theorem dsize_ops : Try.prog.cellsOf 23 = 1 := by kernel_rfl

theorem flat_at {α : Type} (f : α → List Value) (sz : Nat) (hf : ∀ u, (f u).length = sz) : ∀ (l : List α) (k : Nat) (c : Value), (l.flatMap f)[k]? = some c → ∃ (i j : Nat) (hi : i < l.length), k = i * sz + j ∧ j < sz ∧ (f l[i])[j]? = some c
  | [], k, c, h => by simp at h
  | x :: r, k, c, h => by
    rw [List.flatMap_cons] at h
    by_cases hk : k < sz
    · rw [List.getElem?_append_left (by rw [hf]; exact hk)] at h
      exact ⟨0, k, by simp, by omega, hk, h⟩
    · rw [List.getElem?_append_right (by rw [hf]; omega), hf] at h
      obtain ⟨i, j, hi, e, hj, hc⟩ := flat_at f sz hf r (k - sz) c h
      exact ⟨i + 1, j, by simpa using hi, by rw [Nat.add_mul]; omega, hj, by simpa using hc⟩

theorem flat_bools : ∀ l : List Bool, l.flatMap (fun b => [Value.bool b]) = l.map .bool
  | [] => rfl
  | b :: r => by rw [List.flatMap_cons, flat_bools r]; rfl

section
variable {H : Type} {enc : TypeId × Value → H} {w : World} {base : Nat} {held : Bool}

/-- A slice of elements that came in. -/
theorem seesN_in {α : Type} [Inhabited α] {t e : TypeId} (ht : Try.prog.underlying t = some (.slice e)) (f : α → List Value) (sz : Nat) (hsz : Try.prog.cellsOf e = sz) (hpos : 0 < sz) (hf : ∀ u, (f u).length = sz) (P : α → Prop)
    (hone : ∀ (fuel : Nat) (cs : List Value) (y : DataW H × List MemPlace), DataW.trod enc Try.prog w base (fun _ => true) held fuel e cs = some y → ∃ u : α, cs = f u ∧ P u)
    {fuel : Nat} {c : Value} {x : DataW H × List MemPlace} (h : DataW.trod enc Try.prog w base (fun _ => true) held fuel t [c] = some x) :
    ∃ l : List α, SeesN w c l.length (l.flatMap f) ∧ ∀ u ∈ l, P u := by
  rcases Go.Deep.open_slice ht h with ⟨hcs, _⟩ | ⟨ad, len, cap, m, n, D, Pl, hcs, _, hl, _, hm, _, hi⟩
  · simp at hcs
    subst hcs
    exact ⟨[], SeesN.nil w, fun u hu => by cases hu⟩
  · simp at hcs
    subst hcs
    have hlm : len ≤ m := by rw [hm]; split <;> omega
    have hall : ∀ i, i < len → ∃ u : α, P u ∧ ∀ j, j < sz → w.cell? ((ad.add (i * sz)).add j) = (f u)[j]? := by
      intro i hil
      obtain ⟨cs, hc, ht⟩ := hi i (by omega)
      obtain ⟨u, rfl, hfu⟩ := hone _ _ _ ht
      rw [hsz] at hc
      exact ⟨u, hfu, (World.cells?_some hc).2.2⟩
    obtain ⟨g, hg⟩ := Go.Deep.choose_lt hall
    refine ⟨(List.range len).map g, ?_, fun u hu => by
      obtain ⟨i, hi', rfl⟩ := List.mem_map.1 hu
      exact (hg i (by simpa using hi')).1⟩
    refine ⟨some ad, cap, by simp, by simpa using hl, ?_⟩
    by_cases h0 : len = 0
    · left; simp [h0]
    · right
      obtain ⟨b, off, spot⟩ := ad
      have hc0 := (hg 0 (by omega)).2 0 hpos
      have h1 : 0 < (f (g 0)).length := by rw [hf]; exact hpos
      have hsome : w.cell? ⟨b, off, spot⟩ = some (f (g 0))[0] := by rw [List.getElem?_eq_getElem h1] at hc0; simpa [Addr.add] using hc0
      have hspot : spot = none := World.cell?_spot hsome
      subst hspot
      refine ⟨b, off, rfl, World.block_lt_of_cell? w _ hsome, fun k c hk => ?_⟩
      obtain ⟨i, j, hi', e, hj, hc⟩ := flat_at f sz hf _ k c hk
      have hil : i < len := by simpa using hi'
      have hh := (hg i hil).2 j hj
      have e2 : ((List.range len).map g)[i] = g i := by simp
      rw [e2] at hc
      rw [hc, Go.Deep.add_add, Addr.add_lit] at hh
      rw [e]
      exact hh

theorem entry_cells (fuel : Nat) (cs : List Value) (y : DataW H × List MemPlace) (h : DataW.trod enc Try.prog w base (fun _ => true) held fuel 37 cs = some y) : ∃ u : E, cs = ec u ∧ u.name.size ≤ maxLen := by
  obtain ⟨xs, n, _, _, hlen, hxl, hf⟩ := DataW.trod_struct Try.underlying37 h
  rw [size_entry] at hlen
  have hx : xs.length = 2 := hxl
  match cs, hlen, xs, hx with
  | [c0, c1], _, [x0, x1], _ =>
    have f0 : DataW.trod enc Try.prog w base (fun _ => true) held n 9 (([c0, c1].drop 0).take (Try.prog.cellsOf 9)) = some x0 := hf 0 _ rfl
    have f1 : DataW.trod enc Try.prog w base (fun _ => true) held n 3 (([c0, c1].drop 1).take (Try.prog.cellsOf 3)) = some x1 := hf 1 _ rfl
    rw [dsize_string] at f0
    rw [dsize_int] at f1
    obtain ⟨s, e0, _, hs⟩ := DataW.trod_string Try.underlying9 (x := x0) f0
    obtain ⟨n1, e1, _, _⟩ := DataW.trod_int Try.underlying3 (x := x1) f1
    simp at e0 e1
    exact ⟨⟨s, n1⟩, by rw [e0, e1]; rfl, hs⟩
theorem op_cells (fuel : Nat) (cs : List Value) (y : DataW H × List MemPlace) (h : DataW.trod enc Try.prog w base (fun _ => true) held fuel 27 cs = some y) : ∃ u : O, cs = oc u ∧ OkO u := by
  obtain ⟨xs, n, _, _, hlen, hxl, hf⟩ := DataW.trod_struct Try.underlying27 h
  rw [size_op] at hlen
  have hx : xs.length = 4 := hxl
  match cs, hlen, xs, hx with
  | [c0, c1, c2, c3], _, [x0, x1, x2, x3], _ =>
    have f0 : DataW.trod enc Try.prog w base (fun _ => true) held n 3 (([c0, c1, c2, c3].drop 0).take (Try.prog.cellsOf 3)) = some x0 := hf 0 _ rfl
    have f1 : DataW.trod enc Try.prog w base (fun _ => true) held n 9 (([c0, c1, c2, c3].drop 1).take (Try.prog.cellsOf 9)) = some x1 := hf 1 _ rfl
    have f2 : DataW.trod enc Try.prog w base (fun _ => true) held n 9 (([c0, c1, c2, c3].drop 2).take (Try.prog.cellsOf 9)) = some x2 := hf 2 _ rfl
    have f3 : DataW.trod enc Try.prog w base (fun _ => true) held n 3 (([c0, c1, c2, c3].drop 3).take (Try.prog.cellsOf 3)) = some x3 := hf 3 _ rfl
    rw [dsize_int] at f0 f3
    rw [dsize_string] at f1 f2
    obtain ⟨n0, e0, _, _⟩ := DataW.trod_int Try.underlying3 (x := x0) f0
    obtain ⟨s1, e1, _, h1⟩ := DataW.trod_string Try.underlying9 (x := x1) f1
    obtain ⟨s2, e2, _, h2⟩ := DataW.trod_string Try.underlying9 (x := x2) f2
    obtain ⟨n3, e3, _, _⟩ := DataW.trod_int Try.underlying3 (x := x3) f3
    simp at e0 e1 e2 e3
    exact ⟨⟨n0, s1, s2, n3⟩, by rw [e0, e1, e2, e3]; rfl, h1, h2⟩
theorem bool_cells (fuel : Nat) (cs : List Value) (y : DataW H × List MemPlace) (h : DataW.trod enc Try.prog w base (fun _ => true) held fuel 4 cs = some y) : ∃ u : Bool, cs = [.bool u] ∧ True := by
  obtain ⟨b, e, _⟩ := DataW.trod_bool Try.underlying4 h
  exact ⟨b, e, trivial⟩

theorem entries_in {fuel : Nat} {c : Value} {x : DataW H × List MemPlace} (h : DataW.trod enc Try.prog w base (fun _ => true) held fuel 22 [c] = some x) : ∃ l : List E, SeesE w c l ∧ ∀ u ∈ l, u.name.size ≤ maxLen :=
  seesN_in Try.underlying22 ec 2 size_entry (by decide) (fun _ => rfl) _ entry_cells h
theorem ops_in {fuel : Nat} {c : Value} {x : DataW H × List MemPlace} (h : DataW.trod enc Try.prog w base (fun _ => true) held fuel 23 [c] = some x) : ∃ l : List O, SeesO w c l ∧ ∀ u ∈ l, OkO u :=
  seesN_in Try.underlying23 oc 4 size_op (by decide) (fun _ => rfl) _ op_cells h
theorem dbools_in {fuel : Nat} {c : Value} {x : DataW H × List MemPlace} (h : DataW.trod enc Try.prog w base (fun _ => true) held fuel 43 [c] = some x) : ∃ l : List Bool, SeesB w c l := by
  obtain ⟨l, h, _⟩ := seesN_in Try.underlying43 (fun b => [.bool b]) 1 dsize_bool (by decide) (fun _ => rfl) (fun _ => True) bool_cells h
  refine ⟨l, ?_⟩
  rw [flat_bools] at h
  exact h

theorem okWide_dir {r : Reach} {b0 : Nat} {v : Value} (h : Value.okWide Try.prog w r b0 25 v) : ∃ c0 c1 c2, v = .agg #[c0, c1, c2] := by
  simp only [Value.okWide, Try.underlying25] at h
  obtain ⟨cs, h1, h2, _⟩ := h
  rw [size_dir] at h2
  obtain ⟨l⟩ := cs
  match l, h2 with
  | [c0, c1, c2], _ => exact ⟨c0, c1, c2, h1⟩
theorem okWide_op {r : Reach} {b0 : Nat} {v : Value} (h : Value.okWide Try.prog w r b0 27 v) : ∃ c0 c1 c2 c3, v = .agg #[c0, c1, c2, c3] := by
  simp only [Value.okWide, Try.underlying27] at h
  obtain ⟨cs, h1, h2, _⟩ := h
  rw [size_op] at h2
  obtain ⟨l⟩ := cs
  match l, h2 with
  | [c0, c1, c2, c3], _ => exact ⟨c0, c1, c2, c3, h1⟩

theorem dir_in {fuel : Nat} {c0 c1 c2 : Value} {y : DataW H × List MemPlace} (h : DataW.trod enc Try.prog w base (fun _ => true) held fuel 25 [c0, c1, c2] = some y) :
    ∃ d : D, SeesD w (.agg #[c0, c1, c2]) d ∧ (∀ u ∈ d.sure, u.name.size ≤ maxLen) ∧ ∀ u ∈ d.pend, OkO u := by
  obtain ⟨xs, n, _, _, _, hxl, hf⟩ := DataW.trod_struct Try.underlying25 h
  have hx3 : xs.length = 3 := hxl
  match xs, hx3 with
  | [x0, x1, x2], _ =>
    have f0 : DataW.trod enc Try.prog w base (fun _ => true) held n 22 (([c0, c1, c2].drop 0).take (Try.prog.cellsOf 22)) = some x0 := hf 0 _ rfl
    have f1 : DataW.trod enc Try.prog w base (fun _ => true) held n 22 (([c0, c1, c2].drop 1).take (Try.prog.cellsOf 22)) = some x1 := hf 1 _ rfl
    have f2 : DataW.trod enc Try.prog w base (fun _ => true) held n 23 (([c0, c1, c2].drop 2).take (Try.prog.cellsOf 23)) = some x2 := hf 2 _ rfl
    rw [dsize_entries] at f0 f1
    rw [dsize_ops] at f2
    obtain ⟨l0, s0, _⟩ := entries_in (c := c0) f0
    obtain ⟨l1, s1, h1⟩ := entries_in (c := c1) f1
    obtain ⟨l2, s2, h2⟩ := ops_in (c := c2) f2
    exact ⟨⟨l0, l1, l2⟩, ⟨c0, c1, c2, rfl, s0, s1, s2⟩, h1, h2⟩
end
end Go.Proofs.Ytbpdlfcghlopmaa
