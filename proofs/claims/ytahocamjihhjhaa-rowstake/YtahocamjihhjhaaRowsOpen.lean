/-
  Feeds, episodes and rows of values that came in (laid by gen_rowsopen.py).
-/
import Derived.Test.YtahocamjihhjhaaRowsPut
import Derived.Test.YtahocamjihhjhaaCodeOpen
namespace Go.Proofs.Ytahocamjihhjhaa
open Go.RowKit StrM VaryM CodeM RowsM Go.ChangeShapes Go.WideShapes

theorem rsize_feed : Try.prog.cellsOf 23 = 5 := by kernel_rfl
theorem rsize_ep : Try.prog.cellsOf 25 = 20 := by kernel_rfl
theorem rsize_bool : Try.prog.cellsOf 4 = 1 := by kernel_rfl

section
variable {H : Type} {enc : TypeId × Value → H} {w : World} {base : Nat} {spare : Nat → Bool} {held : Bool}

set_option maxRecDepth 100000 in
theorem feed_cells (fuel : Nat) (cs : List Value) (y : DataW H × List MemPlace) (h : DataW.trod enc Try.prog w base spare held fuel 23 cs = some y) : ∃ u : F, cs = (fcs u).toList ∧ True := by
  obtain ⟨xs, n, _, _, hlen, hxl, hf⟩ := DataW.trod_struct Try.underlying23 h
  rw [rsize_feed] at hlen
  have hx : xs.length = 5 := hxl
  match cs, hlen, xs, hx with
  | [c0, c1, c2, c3, c4], _, [x0, x1, x2, x3, x4], _ =>
    have f0 : DataW.trod enc Try.prog w base spare held n 3 (([c0, c1, c2, c3, c4].drop 0).take (Try.prog.cellsOf 3)) = some x0 := hf 0 _ rfl
    have f1 : DataW.trod enc Try.prog w base spare held n 9 (([c0, c1, c2, c3, c4].drop 1).take (Try.prog.cellsOf 9)) = some x1 := hf 1 _ rfl
    have f2 : DataW.trod enc Try.prog w base spare held n 9 (([c0, c1, c2, c3, c4].drop 2).take (Try.prog.cellsOf 9)) = some x2 := hf 2 _ rfl
    have f3 : DataW.trod enc Try.prog w base spare held n 2 (([c0, c1, c2, c3, c4].drop 3).take (Try.prog.cellsOf 2)) = some x3 := hf 3 _ rfl
    have f4 : DataW.trod enc Try.prog w base spare held n 3 (([c0, c1, c2, c3, c4].drop 4).take (Try.prog.cellsOf 3)) = some x4 := hf 4 _ rfl
    rw [size_int] at f0 f4
    rw [size_int64] at f3
    rw [size_string] at f1 f2
    obtain ⟨v0, e0, _, _⟩ := DataW.trod_int Try.underlying3 (x := x0) f0
    obtain ⟨v1, e1, _, z1⟩ := DataW.trod_string Try.underlying9 (x := x1) f1
    obtain ⟨v2, e2, _, z2⟩ := DataW.trod_string Try.underlying9 (x := x2) f2
    obtain ⟨v3, e3, _, _⟩ := DataW.trod_int Try.underlying2 (x := x3) f3
    obtain ⟨v4, e4, _, _⟩ := DataW.trod_int Try.underlying3 (x := x4) f4
    simp at e0 e1 e2 e3 e4
    exact ⟨⟨v0, v1, v2, v3, v4⟩, by rw [e0, e1, e2, e3, e4]; rfl, trivial⟩
set_option maxRecDepth 100000 in
theorem ep_cells (fuel : Nat) (cs : List Value) (y : DataW H × List MemPlace) (h : DataW.trod enc Try.prog w base spare held fuel 25 cs = some y) : ∃ u : X, cs = (xcs u).toList ∧ u.sha.size ≤ maxLen := by
  obtain ⟨xs, n, _, _, hlen, hxl, hf⟩ := DataW.trod_struct Try.underlying25 h
  rw [rsize_ep] at hlen
  have hx : xs.length = 20 := hxl
  match cs, hlen, xs, hx with
  | [c0, c1, c2, c3, c4, c5, c6, c7, c8, c9, c10, c11, c12, c13, c14, c15, c16, c17, c18, c19], _, [x0, x1, x2, x3, x4, x5, x6, x7, x8, x9, x10, x11, x12, x13, x14, x15, x16, x17, x18, x19], _ =>
    have f0 : DataW.trod enc Try.prog w base spare held n 3 (([c0, c1, c2, c3, c4, c5, c6, c7, c8, c9, c10, c11, c12, c13, c14, c15, c16, c17, c18, c19].drop 0).take (Try.prog.cellsOf 3)) = some x0 := hf 0 _ rfl
    have f1 : DataW.trod enc Try.prog w base spare held n 3 (([c0, c1, c2, c3, c4, c5, c6, c7, c8, c9, c10, c11, c12, c13, c14, c15, c16, c17, c18, c19].drop 1).take (Try.prog.cellsOf 3)) = some x1 := hf 1 _ rfl
    have f2 : DataW.trod enc Try.prog w base spare held n 9 (([c0, c1, c2, c3, c4, c5, c6, c7, c8, c9, c10, c11, c12, c13, c14, c15, c16, c17, c18, c19].drop 2).take (Try.prog.cellsOf 9)) = some x2 := hf 2 _ rfl
    have f3 : DataW.trod enc Try.prog w base spare held n 9 (([c0, c1, c2, c3, c4, c5, c6, c7, c8, c9, c10, c11, c12, c13, c14, c15, c16, c17, c18, c19].drop 3).take (Try.prog.cellsOf 9)) = some x3 := hf 3 _ rfl
    have f4 : DataW.trod enc Try.prog w base spare held n 9 (([c0, c1, c2, c3, c4, c5, c6, c7, c8, c9, c10, c11, c12, c13, c14, c15, c16, c17, c18, c19].drop 4).take (Try.prog.cellsOf 9)) = some x4 := hf 4 _ rfl
    have f5 : DataW.trod enc Try.prog w base spare held n 2 (([c0, c1, c2, c3, c4, c5, c6, c7, c8, c9, c10, c11, c12, c13, c14, c15, c16, c17, c18, c19].drop 5).take (Try.prog.cellsOf 2)) = some x5 := hf 5 _ rfl
    have f6 : DataW.trod enc Try.prog w base spare held n 2 (([c0, c1, c2, c3, c4, c5, c6, c7, c8, c9, c10, c11, c12, c13, c14, c15, c16, c17, c18, c19].drop 6).take (Try.prog.cellsOf 2)) = some x6 := hf 6 _ rfl
    have f7 : DataW.trod enc Try.prog w base spare held n 3 (([c0, c1, c2, c3, c4, c5, c6, c7, c8, c9, c10, c11, c12, c13, c14, c15, c16, c17, c18, c19].drop 7).take (Try.prog.cellsOf 3)) = some x7 := hf 7 _ rfl
    have f8 : DataW.trod enc Try.prog w base spare held n 3 (([c0, c1, c2, c3, c4, c5, c6, c7, c8, c9, c10, c11, c12, c13, c14, c15, c16, c17, c18, c19].drop 8).take (Try.prog.cellsOf 3)) = some x8 := hf 8 _ rfl
    have f9 : DataW.trod enc Try.prog w base spare held n 4 (([c0, c1, c2, c3, c4, c5, c6, c7, c8, c9, c10, c11, c12, c13, c14, c15, c16, c17, c18, c19].drop 9).take (Try.prog.cellsOf 4)) = some x9 := hf 9 _ rfl
    have f10 : DataW.trod enc Try.prog w base spare held n 2 (([c0, c1, c2, c3, c4, c5, c6, c7, c8, c9, c10, c11, c12, c13, c14, c15, c16, c17, c18, c19].drop 10).take (Try.prog.cellsOf 2)) = some x10 := hf 10 _ rfl
    have f11 : DataW.trod enc Try.prog w base spare held n 3 (([c0, c1, c2, c3, c4, c5, c6, c7, c8, c9, c10, c11, c12, c13, c14, c15, c16, c17, c18, c19].drop 11).take (Try.prog.cellsOf 3)) = some x11 := hf 11 _ rfl
    have f12 : DataW.trod enc Try.prog w base spare held n 2 (([c0, c1, c2, c3, c4, c5, c6, c7, c8, c9, c10, c11, c12, c13, c14, c15, c16, c17, c18, c19].drop 12).take (Try.prog.cellsOf 2)) = some x12 := hf 12 _ rfl
    have f13 : DataW.trod enc Try.prog w base spare held n 9 (([c0, c1, c2, c3, c4, c5, c6, c7, c8, c9, c10, c11, c12, c13, c14, c15, c16, c17, c18, c19].drop 13).take (Try.prog.cellsOf 9)) = some x13 := hf 13 _ rfl
    have f14 : DataW.trod enc Try.prog w base spare held n 3 (([c0, c1, c2, c3, c4, c5, c6, c7, c8, c9, c10, c11, c12, c13, c14, c15, c16, c17, c18, c19].drop 14).take (Try.prog.cellsOf 3)) = some x14 := hf 14 _ rfl
    have f15 : DataW.trod enc Try.prog w base spare held n 3 (([c0, c1, c2, c3, c4, c5, c6, c7, c8, c9, c10, c11, c12, c13, c14, c15, c16, c17, c18, c19].drop 15).take (Try.prog.cellsOf 3)) = some x15 := hf 15 _ rfl
    have f16 : DataW.trod enc Try.prog w base spare held n 9 (([c0, c1, c2, c3, c4, c5, c6, c7, c8, c9, c10, c11, c12, c13, c14, c15, c16, c17, c18, c19].drop 16).take (Try.prog.cellsOf 9)) = some x16 := hf 16 _ rfl
    have f17 : DataW.trod enc Try.prog w base spare held n 2 (([c0, c1, c2, c3, c4, c5, c6, c7, c8, c9, c10, c11, c12, c13, c14, c15, c16, c17, c18, c19].drop 17).take (Try.prog.cellsOf 2)) = some x17 := hf 17 _ rfl
    have f18 : DataW.trod enc Try.prog w base spare held n 2 (([c0, c1, c2, c3, c4, c5, c6, c7, c8, c9, c10, c11, c12, c13, c14, c15, c16, c17, c18, c19].drop 18).take (Try.prog.cellsOf 2)) = some x18 := hf 18 _ rfl
    have f19 : DataW.trod enc Try.prog w base spare held n 9 (([c0, c1, c2, c3, c4, c5, c6, c7, c8, c9, c10, c11, c12, c13, c14, c15, c16, c17, c18, c19].drop 19).take (Try.prog.cellsOf 9)) = some x19 := hf 19 _ rfl
    rw [size_int] at f0 f1 f7 f8 f11 f14 f15
    rw [size_int64] at f5 f6 f10 f12 f17 f18
    rw [size_string] at f2 f3 f4 f13 f16 f19
    rw [rsize_bool] at f9
    obtain ⟨v0, e0, _, _⟩ := DataW.trod_int Try.underlying3 (x := x0) f0
    obtain ⟨v1, e1, _, _⟩ := DataW.trod_int Try.underlying3 (x := x1) f1
    obtain ⟨v2, e2, _, z2⟩ := DataW.trod_string Try.underlying9 (x := x2) f2
    obtain ⟨v3, e3, _, z3⟩ := DataW.trod_string Try.underlying9 (x := x3) f3
    obtain ⟨v4, e4, _, z4⟩ := DataW.trod_string Try.underlying9 (x := x4) f4
    obtain ⟨v5, e5, _, _⟩ := DataW.trod_int Try.underlying2 (x := x5) f5
    obtain ⟨v6, e6, _, _⟩ := DataW.trod_int Try.underlying2 (x := x6) f6
    obtain ⟨v7, e7, _, _⟩ := DataW.trod_int Try.underlying3 (x := x7) f7
    obtain ⟨v8, e8, _, _⟩ := DataW.trod_int Try.underlying3 (x := x8) f8
    obtain ⟨v9, e9, _⟩ := DataW.trod_bool Try.underlying4 (x := x9) f9
    obtain ⟨v10, e10, _, _⟩ := DataW.trod_int Try.underlying2 (x := x10) f10
    obtain ⟨v11, e11, _, _⟩ := DataW.trod_int Try.underlying3 (x := x11) f11
    obtain ⟨v12, e12, _, _⟩ := DataW.trod_int Try.underlying2 (x := x12) f12
    obtain ⟨v13, e13, _, z13⟩ := DataW.trod_string Try.underlying9 (x := x13) f13
    obtain ⟨v14, e14, _, _⟩ := DataW.trod_int Try.underlying3 (x := x14) f14
    obtain ⟨v15, e15, _, _⟩ := DataW.trod_int Try.underlying3 (x := x15) f15
    obtain ⟨v16, e16, _, z16⟩ := DataW.trod_string Try.underlying9 (x := x16) f16
    obtain ⟨v17, e17, _, _⟩ := DataW.trod_int Try.underlying2 (x := x17) f17
    obtain ⟨v18, e18, _, _⟩ := DataW.trod_int Try.underlying2 (x := x18) f18
    obtain ⟨v19, e19, _, z19⟩ := DataW.trod_string Try.underlying9 (x := x19) f19
    simp at e0 e1 e2 e3 e4 e5 e6 e7 e8 e9 e10 e11 e12 e13 e14 e15 e16 e17 e18 e19
    exact ⟨⟨v0, v1, v2, v3, v4, v5, v6, v7, v8, v9, v10, v11, v12, v13, v14, v15, v16, v17, v18, v19⟩, by rw [e0, e1, e2, e3, e4, e5, e6, e7, e8, e9, e10, e11, e12, e13, e14, e15, e16, e17, e18, e19]; rfl, z19⟩

theorem okWide_feed {r : Reach} {b0 : Nat} {v : Value} (h : Value.okWide Try.prog w r b0 23 v) : ∃ cs : Array Value, v = .agg cs := by
  simp only [Value.okWide, Try.underlying23] at h
  obtain ⟨cs, h1, _⟩ := h
  exact ⟨_, h1⟩
theorem okWide_ep {r : Reach} {b0 : Nat} {v : Value} (h : Value.okWide Try.prog w r b0 25 v) : ∃ cs : Array Value, v = .agg cs := by
  simp only [Value.okWide, Try.underlying25] at h
  obtain ⟨cs, h1, _⟩ := h
  exact ⟨_, h1⟩
theorem feed_in {fuel : Nat} {cs : Array Value} {y : DataW H × List MemPlace} (h : DataW.trod enc Try.prog w base spare held fuel 23 cs.toList = some y) : ∃ f : F, (.agg cs : Value) = fagg f := by
  obtain ⟨f, e, _⟩ := feed_cells fuel _ y h
  exact ⟨f, by rw [fagg_cs, show cs = fcs f from Array.toList_inj.1 e]⟩
theorem ep_in {fuel : Nat} {cs : Array Value} {y : DataW H × List MemPlace} (h : DataW.trod enc Try.prog w base spare held fuel 25 cs.toList = some y) : ∃ x : X, (.agg cs : Value) = xagg x ∧ x.sha.size ≤ maxLen := by
  obtain ⟨x, e, hz⟩ := ep_cells fuel _ y h
  exact ⟨x, by rw [show cs = xcs x from Array.toList_inj.1 e]; rfl, hz⟩

/-- The cells of one value, its text's length told. -/
theorem val_cells2 {fuel : Nat} {cs : List Value} {y : DataW H × List MemPlace} (h : DataW.trod enc Try.prog w base spare held fuel 45 cs = some y) : ∃ u : V, cs = cs3 u ∧ u.t.size ≤ maxLen := by
  obtain ⟨xs, n, _, _, hlen, hxl, hf⟩ := DataW.trod_struct Try.underlying45 h
  rw [size_val] at hlen
  have hx3 : xs.length = 3 := hxl
  match cs, hlen, xs, hx3 with
  | [c0, c1, c2], _, [x0, x1, x2], _ =>
    have f0 : DataW.trod enc Try.prog w base spare held n 3 (([c0, c1, c2].drop 0).take (Try.prog.cellsOf 3)) = some x0 := hf 0 _ rfl
    have f1 : DataW.trod enc Try.prog w base spare held n 2 (([c0, c1, c2].drop 1).take (Try.prog.cellsOf 2)) = some x1 := hf 1 _ rfl
    have f2 : DataW.trod enc Try.prog w base spare held n 9 (([c0, c1, c2].drop 2).take (Try.prog.cellsOf 9)) = some x2 := hf 2 _ rfl
    rw [size_int] at f0
    rw [size_int64] at f1
    rw [size_string] at f2
    obtain ⟨n0, e0, _, _⟩ := DataW.trod_int Try.underlying3 (x := x0) f0
    obtain ⟨n1, e1, _, _⟩ := DataW.trod_int Try.underlying2 (x := x1) f1
    obtain ⟨s2, e2, _, hs⟩ := DataW.trod_string Try.underlying9 (x := x2) f2
    simp at e0 e1 e2
    exact ⟨⟨n0, n1, s2⟩, by rw [e0, e1, e2]; rfl, hs⟩

theorem sees_arg {fuel : Nat} {a : Option Addr} {len cap : Nat} {x : DataW H × List MemPlace} (h : DataW.trod enc Try.prog w base spare held fuel 29 [.slice a len cap] = some x) :
    ∃ l : List V, l.length = len ∧ SeesS w (.slice a len cap) l ∧ ∀ v ∈ l, v.t.size ≤ maxLen := by
  rcases Go.Deep.open_slice Try.underlying29 h with ⟨hcs, _⟩ | ⟨ad, len', cap', m, n, D, Pl, hcs, _, hl, _, hm, _, hi⟩
  · simp at hcs
    obtain ⟨rfl, rfl, rfl⟩ := hcs
    exact ⟨[], rfl, ⟨none, 0, rfl, .inl rfl⟩, fun v hv => by cases hv⟩
  · simp at hcs
    obtain ⟨rfl, rfl, rfl⟩ := hcs
    have hlm : len ≤ m := by rw [hm]; split <;> omega
    have hall : ∀ i, i < len → ∃ u : V, u.t.size ≤ maxLen ∧ ∀ j, j < 3 → w.cell? ((ad.add (i * 3)).add j) = (cs3 u)[j]? := by
      intro i hil
      obtain ⟨cs, hc, ht⟩ := hi i (by omega)
      obtain ⟨u, rfl, hfu⟩ := val_cells2 ht
      rw [size_val] at hc
      exact ⟨u, hfu, (World.cells?_some hc).2.2⟩
    obtain ⟨f, hf⟩ := Go.Deep.choose_lt hall
    refine ⟨(List.range len).map f, by simp, ⟨some ad, cap, by simp, ?_⟩, ?_⟩
    · by_cases h0 : len = 0
      · left; simp [h0]
      · right
        obtain ⟨b, off, spot⟩ := ad
        have hc0 := (hf 0 (by omega)).2 0 (by omega)
        have hsome : w.cell? ⟨b, off, spot⟩ = some (.int .i64 (f 0).k) := by simpa [Addr.add, cs3] using hc0
        have hspot : spot = none := World.cell?_spot hsome
        subst hspot
        refine ⟨b, off, rfl, World.block_lt_of_cell? w _ hsome, fun k hk => ?_⟩
        have hk' : k < len := by simpa using hk
        have hh := (hf k hk').2
        have e : ((List.range len).map f)[k] = f k := by simp
        rw [e]
        have c0 := hh 0 (by omega)
        have c1 := hh 1 (by omega)
        have c2 := hh 2 (by omega)
        rw [Go.Deep.add_add] at c0 c1 c2
        refine ⟨?_, ?_, ?_⟩
        · by_cases k0 : k = 0
          · subst k0; simpa [Addr.add, cs3] using c0
          · simpa [Addr.add, cs3, show ¬ k * 3 = 0 by omega] using c0
        · simpa [Addr.add, cs3, Nat.add_assoc] using c1
        · simpa [Addr.add, cs3, Nat.add_assoc] using c2
    · intro v hv
      obtain ⟨i, hi', rfl⟩ := List.mem_map.1 hv
      exact (hf i (by simpa using hi')).1
end
end Go.Proofs.Ytahocamjihhjhaa
