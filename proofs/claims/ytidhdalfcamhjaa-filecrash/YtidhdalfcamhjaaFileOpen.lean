/-
  Files, acts, bits and slices of acts that came in.
-/
import Derived.Test.YtidhdalfcamhjaaFileSame
import Derived.Test.YtidhdalfcamhjaaBlockOpen
namespace Go.Proofs.Ytidhdalfcamhjaa
open Go.RowKit StrM BlockM FileM Go.ChangeShapes Go.WideShapes

theorem size_file : Try.prog.cellsOf 25 = 3 := by kernel_rfl
theorem size_act : Try.prog.cellsOf 27 = 3 := by kernel_rfl
theorem fsize_bool : Try.prog.cellsOf 4 = 1 := by kernel_rfl
theorem fsize_pieces : Try.prog.cellsOf 23 = 1 := by kernel_rfl
instance : Inhabited Do := ⟨⟨false, 0, []⟩⟩

section
variable {H : Type} {enc : TypeId × Value → H} {w : World} {base : Nat} {held : Bool}

theorem pieces_in {fuel : Nat} {c : Value} {x : DataW H × List MemPlace} (h : DataW.trod enc Try.prog w base (fun _ => true) held fuel 23 [c] = some x) :
    ∃ l : List P, SeesP w c l ∧ ∀ v ∈ l, v.p ≤ 9223372036854775807 := by
  rcases Go.Deep.open_slice Try.underlying23 h with ⟨hcs, _⟩ | ⟨ad, len', cap', _, _, _, _, hcs, _⟩
  · simp at hcs
    subst hcs
    obtain ⟨l, _, h1, h2⟩ := SeesP.of_arg h
    exact ⟨l, h1, h2⟩
  · simp at hcs
    subst hcs
    obtain ⟨l, _, h1, h2⟩ := SeesP.of_arg h
    exact ⟨l, h1, h2⟩

theorem okWide_file {r : Reach} {b0 : Nat} {v : Value} (h : Value.okWide Try.prog w r b0 25 v) : ∃ c0 c1 c2, v = .agg #[c0, c1, c2] := by
  simp only [Value.okWide, Try.underlying25] at h
  obtain ⟨cs, h1, h2, _⟩ := h
  rw [size_file] at h2
  obtain ⟨l⟩ := cs
  match l, h2 with
  | [c0, c1, c2], _ => exact ⟨c0, c1, c2, h1⟩
theorem okWide_act {r : Reach} {b0 : Nat} {v : Value} (h : Value.okWide Try.prog w r b0 27 v) : ∃ c0 c1 c2, v = .agg #[c0, c1, c2] := by
  simp only [Value.okWide, Try.underlying27] at h
  obtain ⟨cs, h1, h2, _⟩ := h
  rw [size_act] at h2
  obtain ⟨l⟩ := cs
  match l, h2 with
  | [c0, c1, c2], _ => exact ⟨c0, c1, c2, h1⟩

theorem file_in {fuel : Nat} {c0 c1 c2 : Value} {y : DataW H × List MemPlace} (h : DataW.trod enc Try.prog w base (fun _ => true) held fuel 25 [c0, c1, c2] = some y) :
    ∃ f : Fl, SeesF w (.agg #[c0, c1, c2]) f ∧ ∀ x ∈ f.pend, x.p ≤ 9223372036854775807 := by
  obtain ⟨xs, n, _, _, _, hxl, hf⟩ := DataW.trod_struct Try.underlying25 h
  have hx3 : xs.length = 3 := hxl
  match xs, hx3 with
  | [x0, x1, x2], _ =>
    have f0 : DataW.trod enc Try.prog w base (fun _ => true) held n 22 (([c0, c1, c2].drop 0).take (Try.prog.cellsOf 22)) = some x0 := hf 0 _ rfl
    have f1 : DataW.trod enc Try.prog w base (fun _ => true) held n 22 (([c0, c1, c2].drop 1).take (Try.prog.cellsOf 22)) = some x1 := hf 1 _ rfl
    have f2 : DataW.trod enc Try.prog w base (fun _ => true) held n 23 (([c0, c1, c2].drop 2).take (Try.prog.cellsOf 23)) = some x2 := hf 2 _ rfl
    rw [size_bytes] at f0 f1
    rw [fsize_pieces] at f2
    obtain ⟨l0, _, _, _, _, s0⟩ := bytes_in (c := c0) f0
    obtain ⟨l1, _, _, _, _, s1⟩ := bytes_in (c := c1) f1
    obtain ⟨l2, s2, hp⟩ := pieces_in (c := c2) f2
    exact ⟨⟨l0, l1, l2⟩, ⟨c0, c1, c2, rfl, s0, s1, s2⟩, hp⟩

/-- The cells of one act. -/
theorem act_cells {fuel : Nat} {cs : List Value} {y : DataW H × List MemPlace} (h : DataW.trod enc Try.prog w base (fun _ => true) held fuel 27 cs = some y) :
    ∃ (u : Do) (B : Value), cs = [.bool u.s, .int .i64 u.p, B] ∧ BytesIn w B u.b ∧ u.p ≤ 9223372036854775807 := by
  obtain ⟨xs, n, _, _, hlen, hxl, hf⟩ := DataW.trod_struct Try.underlying27 h
  rw [size_act] at hlen
  have hx3 : xs.length = 3 := hxl
  match cs, hlen, xs, hx3 with
  | [c0, c1, c2], _, [x0, x1, x2], _ =>
    have f0 : DataW.trod enc Try.prog w base (fun _ => true) held n 4 (([c0, c1, c2].drop 0).take (Try.prog.cellsOf 4)) = some x0 := hf 0 _ rfl
    have f1 : DataW.trod enc Try.prog w base (fun _ => true) held n 3 (([c0, c1, c2].drop 1).take (Try.prog.cellsOf 3)) = some x1 := hf 1 _ rfl
    have f2 : DataW.trod enc Try.prog w base (fun _ => true) held n 22 (([c0, c1, c2].drop 2).take (Try.prog.cellsOf 22)) = some x2 := hf 2 _ rfl
    rw [fsize_bool] at f0
    rw [psize_int] at f1
    rw [size_bytes] at f2
    obtain ⟨b0, e0, _⟩ := DataW.trod_bool Try.underlying4 (x := x0) f0
    obtain ⟨n0, e1, _, wf0⟩ := DataW.trod_int Try.underlying3 (x := x1) f1
    obtain ⟨l, hl⟩ := bytes_in (c := c2) f2
    simp at e0 e1
    refine ⟨⟨b0, n0, l⟩, c2, by rw [e0, e1], hl, ?_⟩
    simp [Lit.wf, IntKind.min, IntKind.max, IntKind.signed, IntKind.bits] at wf0
    simp only
    omega

theorem bools_in {fuel : Nat} {a : Option Addr} {len cap : Nat} {x : DataW H × List MemPlace} (h : DataW.trod enc Try.prog w base (fun _ => true) held fuel 28 [.slice a len cap] = some x) :
    ∃ l : List Bool, SeesV w (.slice a len cap) (bools l) := by
  rcases Go.Deep.open_slice Try.underlying28 h with ⟨hcs, _⟩ | ⟨ad, len', cap', m, n, D, Pl, hcs, _, hl, _, hm, _, hi⟩
  · simp at hcs
    obtain ⟨rfl, rfl, rfl⟩ := hcs
    exact ⟨[], none, 0, rfl, .inl rfl⟩
  · simp at hcs
    obtain ⟨rfl, rfl, rfl⟩ := hcs
    have hlm : len ≤ m := by rw [hm]; split <;> omega
    have hall : ∀ i, i < len → ∃ u : Bool, w.cell? (ad.add i) = some (.bool u) := by
      intro i hil
      obtain ⟨cs, hc, ht⟩ := hi i (by omega)
      obtain ⟨b0, e0, _⟩ := DataW.trod_bool Try.underlying4 ht
      subst e0
      rw [fsize_bool] at hc
      have := (World.cells?_some hc).2.2 0 (by decide)
      rw [Go.Deep.add_add] at this
      exact ⟨b0, by simpa using this⟩
    obtain ⟨f, hf⟩ := Go.Deep.choose_lt hall
    refine ⟨(List.range len).map f, some ad, cap, by simp [bools], ?_⟩
    by_cases h0 : len = 0
    · left; simp [h0, bools]
    · right
      obtain ⟨b, off, spot⟩ := ad
      have hsome : w.cell? ⟨b, off, spot⟩ = some (.bool (f 0)) := by simpa [Addr.add] using hf 0 (by omega)
      have hspot : spot = none := World.cell?_spot hsome
      subst hspot
      refine ⟨b, off, rfl, World.block_lt_of_cell? w _ hsome, fun k hk => ?_⟩
      have hk' : k < len := by simpa [bools] using hk
      have := hf k hk'
      by_cases k0 : k = 0
      · subst k0; simpa [Addr.add, bools] using this
      · simpa [Addr.add, k0, bools] using this

theorem SeesA.of_arg {fuel : Nat} {a : Option Addr} {len cap : Nat} {x : DataW H × List MemPlace} (h : DataW.trod enc Try.prog w base (fun _ => true) held fuel 31 [.slice a len cap] = some x) :
    ∃ l : List Do, l.length = len ∧ SeesA w (.slice a len cap) l ∧ ∀ v ∈ l, v.p ≤ 9223372036854775807 := by
  rcases Go.Deep.open_slice Try.underlying31 h with ⟨hcs, _⟩ | ⟨ad, len', cap', m, n, D, Pl, hcs, _, hl, _, hm, _, hi⟩
  · simp at hcs
    obtain ⟨rfl, rfl, rfl⟩ := hcs
    exact ⟨[], rfl, ⟨none, 0, rfl, .inl rfl⟩, fun v hv => by cases hv⟩
  · simp at hcs
    obtain ⟨rfl, rfl, rfl⟩ := hcs
    have hlm : len ≤ m := by rw [hm]; split <;> omega
    have hall : ∀ i, i < len → ∃ u : Do, u.p ≤ 9223372036854775807 ∧ ∃ B, SeesV w B (bys u.b) ∧ ∀ j, j < 3 → w.cell? ((ad.add (i * 3)).add j) = ([.bool u.s, .int .i64 u.p, B] : List Value)[j]? := by
      intro i hil
      obtain ⟨cs, hc, ht⟩ := hi i (by omega)
      obtain ⟨u, B, rfl, ⟨_, _, _, _, hB⟩, hu⟩ := act_cells ht
      rw [size_act] at hc
      exact ⟨u, hu, B, hB, (World.cells?_some hc).2.2⟩
    obtain ⟨f, hf⟩ := Go.Deep.choose_lt hall
    refine ⟨(List.range len).map f, by simp, ⟨some ad, cap, by simp, ?_⟩, ?_⟩
    · by_cases h0 : len = 0
      · left; simp [h0]
      · right
        obtain ⟨b, off, spot⟩ := ad
        obtain ⟨_, B0, _, hc0⟩ := hf 0 (by omega)
        have hc0 := hc0 0 (by omega)
        have hsome : w.cell? ⟨b, off, spot⟩ = some (.bool (f 0).s) := by simpa [Addr.add] using hc0
        have hspot : spot = none := World.cell?_spot hsome
        subst hspot
        refine ⟨b, off, rfl, World.block_lt_of_cell? w _ hsome, fun k hk => ?_⟩
        have hk' : k < len := by simpa using hk
        obtain ⟨_, B, hB, hh⟩ := hf k hk'
        have e : ((List.range len).map f)[k] = f k := by simp
        rw [e]
        have c0 := hh 0 (by omega)
        have c1 := hh 1 (by omega)
        have c2 := hh 2 (by omega)
        rw [Go.Deep.add_add] at c0 c1 c2
        refine ⟨?_, ?_, B, ?_, hB⟩
        · by_cases k0 : k = 0
          · subst k0; simpa [Addr.add] using c0
          · simpa [Addr.add, show ¬ k * 3 = 0 by omega] using c0
        · simpa [Addr.add, Nat.add_assoc] using c1
        · simpa [Addr.add, Nat.add_assoc] using c2
    · intro v hv
      obtain ⟨i, hi', rfl⟩ := List.mem_map.1 hv
      exact (hf i (by simpa using hi')).1
end

/-- The block of an act, known whole. -/
def ABox (w : World) (q : Nat) (s p B : Value) : Prop := w.heap[q]? = some (.cells #[s, p, B] 27 (0, 0))
theorem ABox.made (w : World) (s p B : Value) : ABox (w.alloc (.cells #[s, p, B] 27)) w.heap.size s p B := heap_alloc_new w _
theorem ABox.lt {w : World} {q : Nat} {s p B : Value} (h : ABox w q s p B) : q < w.heap.size := (Array.getElem?_eq_some_iff.1 h).1
theorem ABox.later {w w' : World} {q : Nat} {s p B : Value} (h : ABox w q s p B) (hb : Below w.heap.size w w') : ABox w' q s p B := by
  have := hb.block q h.lt
  unfold ABox at h ⊢
  rw [this]; exact h
theorem ABox.cells {w : World} {q : Nat} {s p B : Value} (h : ABox w q s p B) : w.cell? ⟨q, 0, none⟩ = some s ∧ w.cell? ⟨q, 1, none⟩ = some p ∧ w.cell? ⟨q, 2, none⟩ = some B := by
  unfold ABox at h
  refine ⟨?_, ?_, ?_⟩ <;> (rw [cell_of_row w q _ _ _ (0, 0) h]; rfl)
/-- A slice of one act, made. -/
theorem SeesA.made (w : World) (u : Do) (B : Value) (hB : SeesV w B (bys u.b)) : SeesA (w.alloc (.cells #[.bool u.s, .int .i64 u.p, B] 27)) (.slice (some ⟨w.heap.size, 0, none⟩) 1 1) [u] := by
  obtain ⟨h1, h2, h3⟩ := (ABox.made w (.bool u.s) (.int .i64 u.p) B).cells
  refine ⟨_, 1, rfl, .inr ⟨w.heap.size, 0, rfl, (ABox.made w _ _ _).lt, fun k hk => ?_⟩⟩
  have hk : k = 0 := by simpa using hk
  subst hk
  exact ⟨h1, h2, B, h3, hB.later (below_made w _)⟩
end Go.Proofs.Ytidhdalfcamhjaa
