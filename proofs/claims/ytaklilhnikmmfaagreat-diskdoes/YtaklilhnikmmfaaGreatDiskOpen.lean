/-
  Acts, and slices of them, that came in.
-/
import Derived.Test.YtaklilhnikmmfaaGreatDiskDo
import Derived.Deep.Slices
import Derived.OpenShut
namespace Go.Proofs.YtaklilhnikmmfaaGreat
open Go.RowKit StrM BlockM FileM DirM DiskM Go.ChangeShapes Go.WideShapes
set_option maxRecDepth 100000

theorem ksize_int : Tryz.prog.cellsOf 3 = 1 := by kernel_rfl
theorem ksize_string : Tryz.prog.cellsOf 9 = 1 := by kernel_rfl
theorem ksize_bool : Tryz.prog.cellsOf 4 = 1 := by kernel_rfl
theorem ksize_bytes : Tryz.prog.cellsOf 38 = 1 := by kernel_rfl
theorem ksize_bools : Tryz.prog.cellsOf 39 = 1 := by kernel_rfl
theorem ksize_act : Tryz.prog.cellsOf 41 = 6 := by kernel_rfl

theorem flat_at {α : Type} (f : α → List Value) (sz : Nat) (hf : ∀ u, (f u).length = sz) : ∀ (l : List α) (k : Nat) (c : Value), (l.flatMap f)[k]? = some c → ∃ (i j : Nat) (hi : i < l.length), k = i * sz + j ∧ j < sz ∧ (f l[i])[j]? = some c
  | [], k, c, h => by simp at h
  | x :: r, k, c, h => by
    rw [List.flatMap_cons] at h
    by_cases hk : k < sz
    · rw [List.getElem?_append_left (by rw [hf]; exact hk)] at h
      exact ⟨0, k, by simp, by omega, hk, h⟩
    · rw [List.getElem?_append_right (by rw [hf]; omega), hf] at h
      obtain ⟨i, j, hi, e, hj, hc⟩ := flat_at f sz hf r (k - sz) c h
      exact ⟨i + 1, j, by simpa using hi, by rw [Nat.add_mul]; omega, hj, by simpa using hc⟩

theorem flat_bools : ∀ l : List Bool, l.flatMap (fun b => [Value.bool b]) = l.map .bool
  | [] => rfl
  | b :: r => by rw [List.flatMap_cons, flat_bools r]; rfl

/-- A slice of bytes, as it is told of one that came in. -/
def BytesIn (w : World) (c : Value) (l : List UInt8) : Prop := ∃ a cap, c = .slice a l.length cap ∧ l.length ≤ cap ∧ SeesV w c (bys l)

/-- A slice of bools, as it is told of one that came in. -/
def BoolsIn (w : World) (c : Value) (l : List Bool) : Prop := ∃ a cap, c = .slice a l.length cap ∧ l.length ≤ cap ∧ SeesV w c (bools l)
/-- An act, with the slices that hold its bytes and its bits. -/
structure AX where
  a : A
  B : Value
  T : Value
def axc (u : AX) : List Value := [.int .i64 u.a.kind, .string u.a.name, .string u.a.dst, .int .i64 u.a.p, u.B, u.T]
structure AXok (w : World) (u : AX) : Prop where
  b : BytesIn w u.B u.a.b
  t : BoolsIn w u.T u.a.bits
  name : u.a.name.size ≤ maxLen
  dst : u.a.dst.size ≤ maxLen
  p0 : -9223372036854775808 ≤ u.a.p
  p1 : u.a.p ≤ 9223372036854775807
instance : Inhabited AX := ⟨⟨⟨0, ⟨#[]⟩, ⟨#[]⟩, 0, [], []⟩, .pointer none, .pointer none⟩⟩

section
variable {H : Type} {enc : TypeId × Value → H} {w : World} {base : Nat} {held : Bool}

/-- A slice of elements that came in. -/
theorem seesN_in {α : Type} [Inhabited α] {t e : TypeId} (ht : Tryz.prog.underlying t = some (.slice e)) (f : α → List Value) (sz : Nat) (hsz : Tryz.prog.cellsOf e = sz) (hpos : 0 < sz) (hf : ∀ u, (f u).length = sz) (P : α → Prop)
    (hone : ∀ (fuel : Nat) (cs : List Value) (y : DataW H × List MemPlace), DataW.trod enc Tryz.prog w base (fun _ => true) held fuel e cs = some y → ∃ u : α, cs = f u ∧ P u)
    {fuel : Nat} {c : Value} {x : DataW H × List MemPlace} (h : DataW.trod enc Tryz.prog w base (fun _ => true) held fuel t [c] = some x) :
    ∃ l : List α, SeesN w c l.length (l.flatMap f) ∧ ∀ u ∈ l, P u := by
  rcases Go.Deep.open_slice ht h with ⟨hcs, _⟩ | ⟨ad, len, cap, m, n, D, Pl, hcs, _, hl, _, hm, _, hi⟩
  · simp at hcs
    subst hcs
    exact ⟨[], SeesN.nil w, fun u hu => by cases hu⟩
  · simp at hcs
    subst hcs
    have hlm : len ≤ m := by rw [hm]; split <;> omega
    have hall : ∀ i, i < len → ∃ u : α, P u ∧ ∀ j, j < sz → w.cell? ((ad.add (i * sz)).add j) = (f u)[j]? := by
      intro i hil
      obtain ⟨cs, hc, ht⟩ := hi i (by omega)
      obtain ⟨u, rfl, hfu⟩ := hone _ _ _ ht
      rw [hsz] at hc
      exact ⟨u, hfu, (World.cells?_some hc).2.2⟩
    obtain ⟨g, hg⟩ := Go.Deep.choose_lt hall
    refine ⟨(List.range len).map g, ?_, fun u hu => by
      obtain ⟨i, hi', rfl⟩ := List.mem_map.1 hu
      exact (hg i (by simpa using hi')).1⟩
    refine ⟨some ad, cap, by simp, by simpa using hl, ?_⟩
    by_cases h0 : len = 0
    · left; simp [h0]
    · right
      obtain ⟨b, off, spot⟩ := ad
      have hc0 := (hg 0 (by omega)).2 0 hpos
      have h1 : 0 < (f (g 0)).length := by rw [hf]; exact hpos
      have hsome : w.cell? ⟨b, off, spot⟩ = some (f (g 0))[0] := by rw [List.getElem?_eq_getElem h1] at hc0; simpa [Addr.add] using hc0
      have hspot : spot = none := World.cell?_spot hsome
      subst hspot
      refine ⟨b, off, rfl, World.block_lt_of_cell? w _ hsome, fun k c hk => ?_⟩
      obtain ⟨i, j, hi', e, hj, hc⟩ := flat_at f sz hf _ k c hk
      have hil : i < len := by simpa using hi'
      have hh := (hg i hil).2 j hj
      have e2 : ((List.range len).map g)[i] = g i := by simp
      rw [e2] at hc
      rw [hc, Go.Deep.add_add, Addr.add_lit] at hh
      rw [e]
      exact hh

theorem bytes_in {fuel : Nat} {c : Value} {y : DataW H × List MemPlace} (h : DataW.trod enc Tryz.prog w base (fun _ => true) held fuel 38 [c] = some y) : ∃ l, BytesIn w c l := by
  rcases open_ints Tryz.underlying38 Tryz.underlying5 (by kernel_rfl) h with ⟨hcs, _⟩ | ⟨x, l, c', zs, hcs, _, hl, hm, hz, _, hcell, hwz⟩
  · simp at hcs
    subst hcs
    exact ⟨[], none, 0, rfl, Nat.le_refl _, none, 0, rfl, .inl rfl⟩
  · simp at hcs
    subst hcs
    obtain ⟨ls, hls, hs⟩ := SeesV.of_bytes (w := w) (a := some x) (len := l) (cap := c') (zs := zs) (.inr ⟨_, rfl, hl, hm, by simpa using hz, hcell, hwz⟩)
    exact ⟨ls, some x, c', by rw [hls], by rw [hls]; exact hl, hs⟩

theorem kbool_cells (fuel : Nat) (cs : List Value) (y : DataW H × List MemPlace) (h : DataW.trod enc Tryz.prog w base (fun _ => true) held fuel 4 cs = some y) : ∃ u : Bool, cs = [.bool u] ∧ True := by
  obtain ⟨b, e, _⟩ := DataW.trod_bool Tryz.underlying4 h
  exact ⟨b, e, trivial⟩
theorem kbools_in {fuel : Nat} {c : Value} {x : DataW H × List MemPlace} (h : DataW.trod enc Tryz.prog w base (fun _ => true) held fuel 39 [c] = some x) : ∃ l : List Bool, BoolsIn w c l := by
  obtain ⟨l, h, _⟩ := seesN_in Tryz.underlying39 (fun b => [.bool b]) 1 ksize_bool (by decide) (fun _ => rfl) (fun _ => True) kbool_cells h
  rw [flat_bools] at h
  obtain ⟨a, cap, rfl, hn, h0⟩ := h
  refine ⟨l, a, cap, rfl, hn, a, cap, by simp [bools], ?_⟩
  rcases h0 with h0 | ⟨g, off, rfl, hg, hc⟩
  · exact .inl h0
  · exact .inr ⟨g, off, rfl, hg, fun k hk => hc k _ (List.getElem?_eq_getElem hk)⟩

theorem kact_cells (fuel : Nat) (cs : List Value) (y : DataW H × List MemPlace) (h : DataW.trod enc Tryz.prog w base (fun _ => true) held fuel 41 cs = some y) : ∃ u : AX, cs = axc u ∧ AXok w u := by
  obtain ⟨xs, n, _, _, hlen, hxl, hf⟩ := DataW.trod_struct Tryz.underlying41 h
  rw [ksize_act] at hlen
  have hx : xs.length = 6 := hxl
  match cs, hlen, xs, hx with
  | [c0, c1, c2, c3, c4, c5], _, [x0, x1, x2, x3, x4, x5], _ =>
    have f0 : DataW.trod enc Tryz.prog w base (fun _ => true) held n 3 (([c0, c1, c2, c3, c4, c5].drop 0).take (Tryz.prog.cellsOf 3)) = some x0 := hf 0 _ rfl
    have f1 : DataW.trod enc Tryz.prog w base (fun _ => true) held n 9 (([c0, c1, c2, c3, c4, c5].drop 1).take (Tryz.prog.cellsOf 9)) = some x1 := hf 1 _ rfl
    have f2 : DataW.trod enc Tryz.prog w base (fun _ => true) held n 9 (([c0, c1, c2, c3, c4, c5].drop 2).take (Tryz.prog.cellsOf 9)) = some x2 := hf 2 _ rfl
    have f3 : DataW.trod enc Tryz.prog w base (fun _ => true) held n 3 (([c0, c1, c2, c3, c4, c5].drop 3).take (Tryz.prog.cellsOf 3)) = some x3 := hf 3 _ rfl
    have f4 : DataW.trod enc Tryz.prog w base (fun _ => true) held n 38 (([c0, c1, c2, c3, c4, c5].drop 4).take (Tryz.prog.cellsOf 38)) = some x4 := hf 4 _ rfl
    have f5 : DataW.trod enc Tryz.prog w base (fun _ => true) held n 39 (([c0, c1, c2, c3, c4, c5].drop 5).take (Tryz.prog.cellsOf 39)) = some x5 := hf 5 _ rfl
    rw [ksize_int] at f0 f3
    rw [ksize_string] at f1 f2
    rw [ksize_bytes] at f4
    rw [ksize_bools] at f5
    obtain ⟨n0, e0, _, _⟩ := DataW.trod_int Tryz.underlying3 (x := x0) f0
    obtain ⟨s1, e1, _, h1⟩ := DataW.trod_string Tryz.underlying9 (x := x1) f1
    obtain ⟨s2, e2, _, h2⟩ := DataW.trod_string Tryz.underlying9 (x := x2) f2
    obtain ⟨n3, e3, _, wf3⟩ := DataW.trod_int Tryz.underlying3 (x := x3) f3
    obtain ⟨l, hl⟩ := bytes_in (c := c4) f4
    obtain ⟨t, ht⟩ := kbools_in (c := c5) f5
    simp at e0 e1 e2 e3
    simp [Lit.wf, IntKind.min, IntKind.max, IntKind.signed, IntKind.bits] at wf3
    refine ⟨⟨⟨n0, s1, s2, n3, l, t⟩, c4, c5⟩, by rw [e0, e1, e2, e3]; rfl, hl, ht, h1, h2, ?_, ?_⟩
    · show _ ≤ n3; omega
    · show n3 ≤ _; omega
theorem acts_in {fuel : Nat} {c : Value} {x : DataW H × List MemPlace} (h : DataW.trod enc Tryz.prog w base (fun _ => true) held fuel 22 [c] = some x) : ∃ l : List AX, SeesN w c l.length (l.flatMap axc) ∧ ∀ u ∈ l, AXok w u :=
  seesN_in Tryz.underlying22 axc 6 ksize_act (by decide) (fun _ => rfl) _ kact_cells h
theorem okWide_act {r : Reach} {b0 : Nat} {v : Value} (h : Value.okWide Tryz.prog w r b0 41 v) : ∃ c0 c1 c2 c3 c4 c5, v = .agg #[c0, c1, c2, c3, c4, c5] := by
  simp only [Value.okWide, Tryz.underlying41] at h
  obtain ⟨cs, h1, h2, _⟩ := h
  rw [ksize_act] at h2
  obtain ⟨l⟩ := cs
  match l, h2 with
  | [c0, c1, c2, c3, c4, c5], _ => exact ⟨c0, c1, c2, c3, c4, c5, h1⟩
end
end Go.Proofs.YtaklilhnikmmfaaGreat
