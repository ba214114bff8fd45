/-
  A pair of slices of bytes, and a slice of pieces, that came in.
-/
import Derived.Test.YtidhdalfcamhjaaBlockLeaf
import Derived.Deep.Slices
import Derived.OpenShut
namespace Go.Proofs.Ytidhdalfcamhjaa
open Go.RowKit StrM BlockM Go.ChangeShapes Go.WideShapes

theorem size_piece : Try.prog.cellsOf 54 = 2 := by kernel_rfl
theorem psize_int : Try.prog.cellsOf 3 = 1 := by kernel_rfl
theorem size_bytes : Try.prog.cellsOf 22 = 1 := by kernel_rfl
instance : Inhabited P := ⟨⟨0, []⟩⟩

/-- A slice of bytes, as it is told of one that came in. -/
def BytesIn (w : World) (c : Value) (l : List UInt8) : Prop := ∃ a cap, c = .slice a l.length cap ∧ l.length ≤ cap ∧ SeesV w c (bys l)

section
variable {H : Type} {enc : TypeId × Value → H} {w : World} {base : Nat} {held : Bool}

theorem bytes_in {fuel : Nat} {c : Value} {y : DataW H × List MemPlace} (h : DataW.trod enc Try.prog w base (fun _ => true) held fuel 22 [c] = some y) : ∃ l, BytesIn w c l := by
  rcases open_ints Try.underlying22 Try.underlying5 (by kernel_rfl) h with ⟨hcs, _⟩ | ⟨x, l, c', zs, hcs, _, hl, hm, hz, _, hcell, hwz⟩
  · simp at hcs
    subst hcs
    exact ⟨[], none, 0, rfl, Nat.le_refl _, none, 0, rfl, .inl rfl⟩
  · simp at hcs
    subst hcs
    obtain ⟨ls, hls, hs⟩ := SeesV.of_bytes (w := w) (a := some x) (len := l) (cap := c') (zs := zs) (.inr ⟨_, rfl, hl, hm, by simpa using hz, hcell, hwz⟩)
    exact ⟨ls, some x, c', by rw [hls], by rw [hls]; exact hl, hs⟩

/-- The cells of one piece. -/
theorem piece_cells {fuel : Nat} {cs : List Value} {y : DataW H × List MemPlace} (h : DataW.trod enc Try.prog w base (fun _ => true) held fuel 54 cs = some y) : ∃ (u : P) (B : Value), cs = [.int .i64 u.p, B] ∧ SeesV w B (bys u.b) ∧ u.p ≤ 9223372036854775807 := by
  obtain ⟨xs, n, _, _, hlen, hxl, hf⟩ := DataW.trod_struct Try.underlying54 h
  rw [size_piece] at hlen
  have hx2 : xs.length = 2 := hxl
  match cs, hlen, xs, hx2 with
  | [c0, c1], _, [x0, x1], _ =>
    have f0 : DataW.trod enc Try.prog w base (fun _ => true) held n 3 (([c0, c1].drop 0).take (Try.prog.cellsOf 3)) = some x0 := hf 0 _ rfl
    have f1 : DataW.trod enc Try.prog w base (fun _ => true) held n 22 (([c0, c1].drop 1).take (Try.prog.cellsOf 22)) = some x1 := hf 1 _ rfl
    rw [psize_int] at f0
    rw [size_bytes] at f1
    obtain ⟨n0, e0, _, wf0⟩ := DataW.trod_int Try.underlying3 (x := x0) f0
    obtain ⟨l, a, cap, _, _, hs⟩ := bytes_in (c := c1) f1
    simp at e0
    refine ⟨⟨n0, l⟩, c1, by rw [e0], hs, ?_⟩
    simp [Lit.wf, IntKind.min, IntKind.max, IntKind.signed, IntKind.bits] at wf0
    simp only
    omega

theorem SeesP.of_arg {fuel : Nat} {a : Option Addr} {len cap : Nat} {x : DataW H × List MemPlace} (h : DataW.trod enc Try.prog w base (fun _ => true) held fuel 23 [.slice a len cap] = some x) :
    ∃ l : List P, l.length = len ∧ SeesP w (.slice a len cap) l ∧ ∀ v ∈ l, v.p ≤ 9223372036854775807 := by
  rcases Go.Deep.open_slice Try.underlying23 h with ⟨hcs, _⟩ | ⟨ad, len', cap', m, n, D, Pl, hcs, _, hl, _, hm, _, hi⟩
  · simp at hcs
    obtain ⟨rfl, rfl, rfl⟩ := hcs
    exact ⟨[], rfl, ⟨none, 0, rfl, .inl rfl⟩, fun v hv => by cases hv⟩
  · simp at hcs
    obtain ⟨rfl, rfl, rfl⟩ := hcs
    have hlm : len ≤ m := by rw [hm]; split <;> omega
    have hall : ∀ i, i < len → ∃ u : P, u.p ≤ 9223372036854775807 ∧ ∃ B, SeesV w B (bys u.b) ∧ ∀ j, j < 2 → w.cell? ((ad.add (i * 2)).add j) = ([.int .i64 u.p, B] : List Value)[j]? := by
      intro i hil
      obtain ⟨cs, hc, ht⟩ := hi i (by omega)
      obtain ⟨u, B, rfl, hB, hu⟩ := piece_cells ht
      rw [size_piece] at hc
      exact ⟨u, hu, B, hB, (World.cells?_some hc).2.2⟩
    obtain ⟨f, hf⟩ := Go.Deep.choose_lt hall
    refine ⟨(List.range len).map f, by simp, ⟨some ad, cap, by simp, ?_⟩, ?_⟩
    · by_cases h0 : len = 0
      · left; simp [h0]
      · right
        obtain ⟨b, off, spot⟩ := ad
        obtain ⟨_, B0, _, hc0⟩ := hf 0 (by omega)
        have hc0 := hc0 0 (by omega)
        have hsome : w.cell? ⟨b, off, spot⟩ = some (.int .i64 (f 0).p) := by simpa [Addr.add] using hc0
        have hspot : spot = none := World.cell?_spot hsome
        subst hspot
        refine ⟨b, off, rfl, World.block_lt_of_cell? w _ hsome, fun k hk => ?_⟩
        have hk' : k < len := by simpa using hk
        obtain ⟨_, B, hB, hh⟩ := hf k hk'
        have e : ((List.range len).map f)[k] = f k := by simp
        rw [e]
        have c0 := hh 0 (by omega)
        have c1 := hh 1 (by omega)
        rw [Go.Deep.add_add] at c0 c1
        refine ⟨?_, B, ?_, hB⟩
        · by_cases k0 : k = 0
          · subst k0; simpa [Addr.add] using c0
          · simpa [Addr.add, show ¬ k * 2 = 0 by omega] using c0
        · simpa [Addr.add, Nat.add_assoc] using c1
    · intro v hv
      obtain ⟨i, hi', rfl⟩ := List.mem_map.1 hv
      exact (hf i (by simpa using hi')).1

end
end Go.Proofs.Ytidhdalfcamhjaa
