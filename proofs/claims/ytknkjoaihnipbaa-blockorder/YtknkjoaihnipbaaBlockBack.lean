/-
  What BlockOrder gathers: the pieces from the last to the first, and the whole file.
-/
import Derived.Test.YtknkjoaihnipbaaBlockRefLay
namespace Go.Proofs.Ytknkjoaihnipbaa
open Go.RowKit StrM BlockM

/-- The row of pieces so far, whose bytes were there at wa, and the whole file beside it. -/
def BkRel (wa wb : World) (vW : Value) (F : List UInt8) (v : Value) (l : List PB) (wr : World) : Prop :=
  wr.ownsRow wa.heap.size 32 2 v l.length (pcs l) ∧ (∀ x ∈ l, SeesV wa x.2 (bys x.1.b)) ∧ wr.ownsRow wb.heap.size 5 1 vW F.length (bys F) ∧ Below wa.heap.size wa wr

theorem BkRel.later {wa wb wr w' : World} {vW v : Value} {F : List UInt8} {l : List PB} (h : BkRel wa wb vW F v l wr) (hb : Below wr.heap.size wr w') : BkRel wa wb vW F v l w' :=
  ⟨own_belowN h.1 hb, h.2.1, own_belowN h.2.2.1 hb, h.2.2.2.trans (hb.mono h.2.2.2.size)⟩

theorem BkRel.add {wa wb wr w2 : World} {vW v v' : Value} {F : List UInt8} {l : List PB} {u : PB} (h : BkRel wa wb vW F v l wr) (hB : SeesV wa u.2 (bys u.1.b))
    (ho : w2.ownsRow wa.heap.size 32 2 v' (l.length + 1) (pcs (l ++ [u]))) (hb2 : Below wa.heap.size wr w2) (hst : Stays wr w2 v) : BkRel wa wb vW F v' (l ++ [u]) w2 := by
  refine ⟨by rw [List.length_append]; exact ho, fun x hx => ?_, own_keep h.2.2.1 hst (own_diff (by decide) h.1 h.2.2.1), h.2.2.2.trans hb2⟩
  rcases List.mem_append.1 hx with hx | hx
  · exact h.2.1 x hx
  · have : x = u := by simpa using hx
    subst this; exact hB

theorem BkRel.sees {wa wb wr : World} {vW v : Value} {F : List UInt8} {l : List PB} (h : BkRel wa wb vW F v l wr) : SeesP wr v (l.map Prod.fst) ∧ SeesV wr vW (bys F) :=
  ⟨sees_pcs h.1 rfl fun x hx => (h.2.1 x hx).later h.2.2.2, SeesV.of_own h.2.2.1⟩

/-- The whole file after i of the bytes. -/
def wh (f : List UInt8) (n : Nat) (b : List UInt8) (i : Nat) : List UInt8 := if b.length = 0 then f else over f n (b.take i)
theorem wh_end (f : List UInt8) (n : Nat) (b : List UInt8) : wh f n b b.length = BlockM.written f n b := by
  unfold wh BlockM.written
  rw [List.take_length]
theorem wh_len (f : List UInt8) (n : Nat) (b : List UInt8) (i : Nat) (h : i ≤ b.length) : (wh f n b i).length ≤ f.length + n + i := by
  unfold wh
  split
  · omega
  · rw [over_len, List.length_take]; omega
theorem wh_set {f : List UInt8} {n : Nat} {b : List UInt8} {i : Nat} (h : i < b.length) (hl : n + i < (wh f n b i).length) : (wh f n b i).set (n + i) b[i] = wh f n b (i + 1) := by
  unfold wh at *
  rw [if_neg (by omega)] at hl
  rw [if_neg (by omega), if_neg (by omega)]
  exact over_set f n h hl
theorem wh_snoc {f : List UInt8} {n : Nat} {b : List UInt8} {i : Nat} (h : i < b.length) (hl : ¬ n + i < (wh f n b i).length) : wh f n b i ++ [b[i]] = wh f n b (i + 1) := by
  unfold wh at *
  rw [if_neg (by omega)] at hl
  rw [if_neg (by omega), if_neg (by omega)]
  exact over_snoc f n h hl
theorem wh_start {f : List UInt8} {n : Nat} {b : List UInt8} {z : Nat} (h1 : z = 0 ∨ 0 < b.length ∧ f.length + z ≤ n) (h2 : n ≤ f.length + z ∨ b.length = 0) : f ++ List.replicate z 0 = wh f n b 0 := by
  unfold wh
  by_cases hb : b.length = 0
  · rw [if_pos hb, show z = 0 by omega]; simp
  · rw [if_neg hb, List.take_zero, over_nil]
    exact pad_end (by omega) (by omega)

/-- What the law asks of the pieces of some bytes, at a place. -/
theorem piece_facts {n : Nat} {b : List UInt8} (h : n + b.length ≤ 65536) {t : Nat} (ht : t < (pieces n b).length) :
    ∃ q : Nat, (pieces n b)[t].p = q ∧ (q : Int).tdiv 16 = ((n / 16 + t : Nat) : Int) ∧ okN (pieces n b)[t].p (pieces n b)[t].b.length = true ∧ q ≤ 70000 := by
  obtain ⟨q, h1, h2, h3⟩ := pieces_block n b t ht
  refine ⟨q, h1, ?_, ?_, by omega⟩
  · rw [Int.tdiv_eq_ediv_of_nonneg (by omega)]; omega
  · rw [← ok_eq]; exact pieces_ok n b h _ (List.getElem_mem ht)
end Go.Proofs.Ytknkjoaihnipbaa
