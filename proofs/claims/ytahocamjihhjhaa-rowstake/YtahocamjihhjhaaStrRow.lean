/-
  Rows of bytes and of strings that a call makes: what is appended to them, and what they read as.
-/
import Derived.Test.YtahocamjihhjhaaRows
import Derived.WalkKit
import Derived.Test.YtahocamjihhjhaaStrMath
import Derived.Deep.AppendSrc
import Derived.Laws.AppendOwnNone
import Derived.Laws.IdiomStrings
import Derived.Lib.Hide
namespace Go.Proofs.Ytahocamjihhjhaa
open Go.RowKit StrM

theorem ret_bool {a b : Bool} (h : a = b) : Ending.returned (.bool a) = .returned (.bool b) := by rw [h]
theorem ret_str {a b : ByteArray} (h : a = b) : Ending.returned (.string a) = .returned (.string b) := by rw [h]

/-- The length of the string in a slot (a measure). -/
def strLen : Value → Nat | .string s => s.size | _ => 0

def bys (l : List UInt8) : List Value := l.map fun b => .int .u8 (b.toNat : Int)
def strs (l : List (List UInt8)) : List Value := l.map fun s => .string ⟨s.toArray⟩
theorem bys_len (l : List UInt8) : (bys l).length = l.length := by simp [bys]
theorem strs_len (l : List (List UInt8)) : (strs l).length = l.length := by simp [strs]
theorem bys_add (a b : List UInt8) : bys (a ++ b) = bys a ++ bys b := by simp [bys]
theorem strs_add (a b : List (List UInt8)) : strs (a ++ b) = strs a ++ strs b := by simp [strs]

/-- What is told of the type of a row's elements: one cell each. -/
structure OneCell (P : Program) (t e : TypeId) (z : Value) (bytes : Nat) : Prop where
  under : P.underlying t = some (.slice e)
  info : (P.info? e).map (fun i => (i.zero, i.size, i.bytes)) = some (some z, 1, bytes)
  cells : z.cells.size = 1

/-- append of one element, which the walk lays in a block of its own, to a row of the call's own. -/
theorem append_one {P : Program} {t e : TypeId} {z : Value} {bytes : Nat} (H : OneCell P t e z bytes) {w : World} {ops : Array Oper} {rest : List Oper} {o : Oper} {a : Act} {Q : Exit → Act → World → Prop} (hgd : o.guard = none) (s x : Operand)
    (ho : o.op = .call { callee := .builtin .append, args := #[s, x], argTypes := #[t, t] })
    (base : Nat) (v : Value) (n : Nat) (xs : List Value) (hs : a.eval s = v) (hown : w.ownsRow base e 1 v n xs)
    (u : Value) (hu : u.oneCell' = true) (hx : a.eval x = .slice (some ⟨w.heap.size, 0, none⟩) 1 1)
    (hbound : (n + 1) * bytes ≤ 140737488355328) (hn : n + 1 ≤ maxLen) (hbase : base ≤ w.heap.size)
    (h : ∀ v' w', w'.ownsRow base e 1 v' (n + 1) (xs ++ [u]) → Below base w w' → wpList P ops Q rest (a.put o.dst v') w') : wpList P ops Q (o :: rest) a (w.alloc (.cells #[u] e)) := by
  obtain ⟨i0, hi, hz0, hz1, hz2⟩ := info_parts H.info
  refine wpList_append_own (w.alloc (.cells #[u] e)) hgd s x t ho base e i0 z 1 bytes H.under hi hz0 hz1 hz2 H.cells (by decide) v n xs hs (hown.alloc _) ⟨w.heap.size, 0, none⟩ 1 1 [u] hx rfl (fun j c hj => ?_) (fun c hc => ?_) hn hbound (by simp; omega) ?_
  · match j, hj with
    | 0, hj => simp at hj; subst hj; simp [Addr.add]
  · have : c = u := by simpa using hc
    subst this; exact hu
  · intro v' w' h1 h2 _
    exact h v' w' h1 (((Below.refl _ _).alloc hbase _).grown h2 (by simp; omega) fun k hk => (hown.lt k hk).1)

/-- A value that owns a row is a slice; its cells. -/
theorem own_form {w : World} {base n : Nat} {e : TypeId} {v : Value} {xs : List Value} (h : w.ownsRow base e 1 v n xs) :
    (v = .slice none 0 0 ∧ n = 0 ∧ xs = []) ∨ ∃ g cap, v = .slice (some ⟨g, 0, none⟩) n cap ∧ base ≤ g ∧ g < w.heap.size ∧ xs.length = n ∧ ∀ k (hk : k < xs.length), w.cell? ⟨g, k, none⟩ = some xs[k] := by
  have hl : xs.length = n := by have := h.1; omega
  rcases h.2 with ⟨h', h0⟩ | ⟨g, cap, cur, h', hb, hg, _⟩
  · subst h0; exact .inl ⟨h', rfl, List.length_eq_zero_iff.1 hl⟩
  · refine .inr ⟨g, cap, h', hb, (Array.getElem?_eq_some_iff.1 hg).1, hl, fun k hk => ?_⟩
    subst h'
    have := h.cells (g := g) rfl k xs[k] (List.getElem?_eq_getElem hk)
    by_cases k0 : k = 0
    · subst k0; simpa [Addr.add] using this
    · simpa [Addr.add, k0] using this

theorem own_made (w : World) (e : TypeId) : (w.alloc (.cells #[] e)).ownsRow w.heap.size e 1 (.slice (some ⟨w.heap.size, 0, none⟩) 0 0) 0 [] :=
  World.ownsRow_made w #[] 0 (Nat.le_refl _) (by decide) rfl
theorem below_made (w : World) (o : Obj) : Below w.heap.size w (w.alloc o) := (Below.refl _ _).alloc (Nat.le_refl _) _

/-- The bytes l stand in the first cells of block N; none is frozen; below N nothing has turned since w. -/
def BRow (N : Nat) (w wr : World) (l : List UInt8) : Prop :=
  Below N w wr ∧ ∀ j (hj : j < l.length), wr.cell? ⟨N, j, none⟩ = some (.int .u8 (l[j].toNat : Int)) ∧ wr.frozen? ⟨N, j, none⟩ = false

theorem BRow.set {N : Nat} {w wr : World} {l : List UInt8} (h : BRow N w wr l) (k : Nat) (hk : k < l.length) (c : UInt8) : BRow N w (wr.setCell ⟨N, k, none⟩ (.int .u8 (c.toNat : Int))) (l.set k c) := by
  refine ⟨h.1.setCell (Nat.le_refl _) _, fun j hj => ?_⟩
  have hj' : j < l.length := by simpa using hj
  refine ⟨?_, by simpa using (h.2 j hj').2⟩
  by_cases e : k = j
  · subst e
    rw [World.cell?_setCell_same wr _ _ (h.2 k hk).1]; simp
  · rw [World.cell?_setCell_other wr _ _ _ (by intro hc; injection hc with _ hc; exact e hc), List.getElem_set_ne e]
    exact (h.2 j hj').1

end Go.Proofs.Ytahocamjihhjhaa
