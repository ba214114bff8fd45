/-
  What the walk of NumOrder wants of slices that it builds itself: owned rows read as lists; appending a slice that came in (nil or not).
-/
import Derived.Test.YtgoeljfofmnldaaNumSees
import Derived.Laws.AppendOwnNone
namespace Go.Proofs.Ytgoeljfofmnldaa
open Go.RowKit NumM

theorem Try.info64 : (Try.prog.info? 2).map (fun i => (i.zero, i.size, i.bytes)) = some (some (.int .i64 0), 1, 8) := by kernel_rfl

def ints (l : List Int) : List Value := l.map (Value.int .i64)

theorem ints_len (l : List Int) : (ints l).length = l.length := by simp [ints]
theorem ints_one (l : List Int) : ∀ u ∈ ints l, u.oneCell' = true := by
  intro u hu; simp [ints] at hu; obtain ⟨n, _, rfl⟩ := hu; rfl

/-- An owned row of n numbers, read as a list. -/
theorem sees_own {w : World} {base n : Nat} {v : Value} {l : List Int} (h : w.ownsRow base 2 1 v n (ints l)) (hn : n ≤ 9223372036854775807) :
    ∃ a cap, v = .slice a n cap ∧ Sees w a n l := by
  have hl : l.length = n := by have := h.1; simpa [ints_len] using this
  rcases h.2 with ⟨h', h0⟩ | ⟨g, cap, cur, h', _, hg, _, _, _, htake⟩
  · subst h0; exact ⟨none, 0, h', hl, hn, .inl rfl⟩
  · refine ⟨some ⟨g, 0, none⟩, cap, h', hl, hn, .inr ⟨g, 0, rfl, fun k hk => ?_⟩⟩
    subst h'
    have := h.cellAt k (by omega)
    rw [Nat.zero_add, this]
    simp [ints, List.getElem?_map, List.getD, List.getElem?_eq_getElem (show k < l.length by omega)]

/-- A slice that came in: nil, or an address whose cells hold the list. -/
def Arg (w : World) (a : Option Addr) (len cap : Nat) (l : List Int) : Prop :=
  l.length = len ∧ ((a = none ∧ len = 0 ∧ cap = 0) ∨ ∃ ad, a = some ad ∧ ∀ j u, (ints l)[j]? = some u → w.cell? (ad.add j) = some u)

theorem Arg.of_row {w : World} {a : Option Addr} {len cap : Nat} {zs : List Int}
    (h : (a = none ∧ len = 0 ∧ cap = 0 ∧ zs = []) ∨ ∃ x, a = some x ∧ len ≤ cap ∧ cap ≤ maxLen ∧ zs.length = cap ∧ (∀ i, i < zs.length → w.cell? (x.add i) = some (.int .i64 (zs.getD i 0))) ∧ ∀ n ∈ zs, (Lit.int .i64 n).wf = true) :
    Arg w a len cap (zs.take len) := by
  rcases h with ⟨rfl, rfl, rfl, rfl⟩ | ⟨x, rfl, hl, hm, hz, hcell, _⟩
  · exact ⟨rfl, .inl ⟨rfl, rfl, rfl⟩⟩
  · refine ⟨by simp; omega, .inr ⟨x, rfl, fun j u hj => ?_⟩⟩
    simp only [ints, List.getElem?_map, Option.map_eq_some_iff] at hj
    obtain ⟨z, hz1, rfl⟩ := hj
    have hjl : j < (zs.take len).length := (List.getElem?_eq_some_iff.1 hz1).1
    simp at hjl
    have := hcell j (by omega)
    rw [this]
    rw [List.getElem?_take, if_pos (by omega)] at hz1
    simp [List.getD, hz1]

theorem Arg.later {w w' : World} {a : Option Addr} {len cap : Nat} {l : List Int} (hs : Arg w a len cap l) (hb : Below w.heap.size w w') : Arg w' a len cap l := by
  obtain ⟨h1, h2 | ⟨ad, rfl, hc⟩⟩ := hs
  · exact ⟨h1, .inl h2⟩
  · exact ⟨h1, .inr ⟨ad, rfl, fun j u hj => cell_later hb (hc j u hj)⟩⟩

theorem grownBy_refl (w : World) (row : Option Nat) : w.grownBy w row := ⟨rfl, rfl, rfl, Nat.le_refl _, fun _ _ _ => rfl⟩

/-- append of a slice that came in, nil or not, to an owned row of int64. -/
theorem append_arg {w : World} {ops : Array Oper} {rest : List Oper} {o : Oper} {a : Act} {Q : Exit → Act → World → Prop} (hgd : o.guard = none) (s x : Operand)
    (ho : o.op = .call { callee := .builtin .append, args := #[s, x], argTypes := #[22, 22] })
    (base : Nat) (v : Value) (n : Nat) (l : List Int) (hs : a.eval s = v) (hown : w.ownsRow base 2 1 v n (ints l))
    (src : Option Addr) (m c : Nat) (news : List Int) (hx : a.eval x = .slice src m c) (harg : Arg w src m c news)
    (hbound : (n + m) * 8 ≤ 140737488355328) (hbase : base ≤ w.heap.size)
    (h : ∀ v' w', w'.ownsRow base 2 1 v' (n + m) (ints (l ++ news)) → Below base w w' → wpList Try.prog ops Q rest (a.put o.dst v') w') : wpList Try.prog ops Q (o :: rest) a w := by
  obtain ⟨i0, hi, hz0, hz1, hz2⟩ := info_parts Try.info64
  obtain ⟨hlen, ⟨rfl, rfl, rfl⟩ | ⟨ad, rfl, hc⟩⟩ := harg
  · refine wpList_append_own_none hgd s x 22 ho base 2 i0 1 Try.underlying22 hi v n (ints l) hs hown hx ?_
    obtain rfl := List.length_eq_zero_iff.1 hlen
    exact h v w (by simpa using hown) (Below.refl _ _)
  · refine wpList_append_own w hgd s x 22 ho base 2 i0 (.int .i64 0) 1 8 Try.underlying22 hi hz0 hz1 hz2 rfl (by decide) v n (ints l) hs hown ad m c (ints news) hx (by simp [ints_len, hlen]) hc (ints_one _) (by unfold maxLen; omega) hbound hbase ?_
    intro v' w' h1 h2 _
    refine h v' w' (by simpa [ints] using h1) ((Below.refl _ _).grown h2 hbase fun k hk => (hown.lt k hk).1)

theorem back_step (l m : List Int) (j : Nat) (h : j < m.length) : l ++ (m.drop (j + 1)).reverse ++ [m.getD j 0] = l ++ (m.drop j).reverse := by
  rw [List.drop_eq_getElem_cons h, List.reverse_cons, List.append_assoc]
  simp [List.getD, h]

end Go.Proofs.Ytgoeljfofmnldaa
