/-
  The walks of text.Split, of the reference's Split and of Texts.
-/
import Derived.Test.YtahocamjihhjhaaStrCut
namespace Go.Proofs.Ytahocamjihhjhaa
open Go.RowKit StrM

def SplitRel (w : World) (c : UInt8) (s : ByteArray) (acc : List (List UInt8)) (t : ByteArray) (v : Value) (wr : World) : Prop :=
  wr.ownsRow w.heap.size 9 1 v acc.length (strs acc) ∧ Below w.heap.size w wr ∧ acc ++ splitL c t.data.toList = splitL c s.data.toList ∧ acc.length + t.size ≤ s.size

def SplitPost (c : UInt8) (s : ByteArray) (w : World) (e : Ending) (w' : World) : Prop :=
  ∃ v, e = .returned v ∧ w'.ownsRow w.heap.size 9 1 v (splitL c s.data.toList).length (strs (splitL c s.data.toList)) ∧ Below w.heap.size w w'

theorem own_snoc {w : World} {base : Nat} {v : Value} {acc : List (List UInt8)} {p : List UInt8} {u : Value} (hu : u = .string ⟨p.toArray⟩)
    (h : w.ownsRow base 9 1 v (acc.length + 1) (strs acc ++ [u])) : w.ownsRow base 9 1 v (acc ++ [p]).length (strs (acc ++ [p])) := by
  subst hu
  simpa [strs] using h

theorem SplitRel.step {w : World} {c : UInt8} {s : ByteArray} {acc : List (List UInt8)} {t : ByteArray} {v v' : Value} {wr w1 w2 : World} (h : SplitRel w c s acc t v wr) (hb : cutB c t = true)
    (hw : Below wr.heap.size wr w1) (h1 : w2.ownsRow w.heap.size 9 1 v' (acc.length + 1) (strs acc ++ [.string (cutA c t)])) (h2 : Below w.heap.size w1 w2) :
    SplitRel w c s (acc ++ [t.data.toList.take (fst c t.data.toList)]) (cutZ c t) v' w2 ∧ (cutZ c t).size < t.size := by
  have hf : fst c t.data.toList < t.data.toList.length := by simpa [cutB, inB] using hb
  have hz : (cutZ c t).size = t.size - (fst c t.data.toList + 1) := by rw [cutZ, size_mk, List.length_drop, length_bytes]
  have hl := length_bytes t
  refine ⟨⟨own_snoc rfl h1, (h.2.1.trans (hw.mono h.2.1.size)).trans h2, ?_, ?_⟩, ?_⟩
  · rw [← h.2.2.1, splitL_yes c _ hf, List.append_assoc]; rfl
  · have := h.2.2.2
    simp only [List.length_append, List.length_singleton]
    omega
  · omega

theorem SplitRel.last {w : World} {c : UInt8} {s : ByteArray} {acc : List (List UInt8)} {t : ByteArray} {v v' : Value} {wr w1 w2 : World} (h : SplitRel w c s acc t v wr) (hb : cutB c t = false)
    (hw : Below wr.heap.size wr w1) (h1 : w2.ownsRow w.heap.size 9 1 v' (acc.length + 1) (strs acc ++ [.string (cutA c t)])) (h2 : Below w.heap.size w1 w2) :
    SplitPost c s w (.returned v') w2 := by
  have hf : ¬ fst c t.data.toList < t.data.toList.length := by simpa [cutB, inB] using hb
  have e : acc ++ [t.data.toList] = splitL c s.data.toList := by rw [← h.2.2.1, splitL_no c _ hf]
  refine ⟨v', rfl, ?_, (h.2.1.trans (hw.mono h.2.1.size)).trans h2⟩
  rw [← e]
  refine own_snoc ?_ h1
  rw [← (cut_no_eq hb).1, Lib.mk_data]

theorem own_below {w w' : World} {base : Nat} {e : TypeId} {n : Nat} {v : Value} {xs : List Value} (h : w.ownsRow base e 1 v n xs) (hb : Below w.heap.size w w') : w'.ownsRow base e 1 v n xs :=
  h.kept (row := none) ⟨hb.os, hb.tape, hb.output, hb.size, fun k hk _ => hb.block k hk⟩ (by cases v.ownBlock <;> simp)

def RSplitRel (w : World) (c : UInt8) (s : ByteArray) (acc : List (List UInt8)) (f i : Nat) (v : Value) (wr : World) : Prop :=
  wr.ownsRow w.heap.size 9 1 v acc.length (strs acc) ∧ Below w.heap.size w wr ∧ acc ++ splitL c (s.data.toList.drop f) = splitL c s.data.toList ∧ acc.length ≤ f ∧ f ≤ i ∧ i ≤ s.size ∧ i - f ≤ fst c (s.data.toList.drop f)

theorem RSplitRel.start (w : World) (c : UInt8) (s : ByteArray) : RSplitRel w c s [] 0 0 (.slice (some ⟨w.heap.size, 0, none⟩) 0 0) (w.alloc (.cells #[] 9)) :=
  ⟨own_made w _, below_made w _, rfl, Nat.le_refl _, Nat.le_refl _, Nat.zero_le _, Nat.zero_le _⟩

theorem fst_from {s : ByteArray} {c : UInt8} {f i : Nat} (hf : f ≤ i) (hi : i < s.size) (h : i - f ≤ fst c (s.data.toList.drop f)) :
    ((s[i] == c) = true → fst c (s.data.toList.drop f) = i - f) ∧ ((s[i] == c) = false → i + 1 - f ≤ fst c (s.data.toList.drop f)) := by
  have e := fst_drop c (s.data.toList.drop f) (i - f) h
  rw [List.drop_drop, show f + (i - f) = i from by omega, drop_byte s i hi] at e
  constructor
  · intro hb; rw [fst_yes hb] at e; omega
  · intro hb; rw [fst_no hb] at e; omega

theorem RSplitRel.skip {w : World} {c : UInt8} {s : ByteArray} {acc : List (List UInt8)} {f i : Nat} {v : Value} {wr : World} (h : RSplitRel w c s acc f i v wr) (hi : i < s.size) (hb : (s[i] == c) = false) : RSplitRel w c s acc f (i + 1) v wr := by
  obtain ⟨h1, h2, h3, h4, h5, h6, h7⟩ := h
  exact ⟨h1, h2, h3, h4, by omega, by omega, (fst_from h5 hi h7).2 hb⟩

theorem RSplitRel.take {w : World} {c : UInt8} {s : ByteArray} {acc : List (List UInt8)} {f i : Nat} {v v' : Value} {wr w1 : World} (h : RSplitRel w c s acc f i v wr) (hi : i < s.size) (hb : (s[i] == c) = true)
    (k1 : w1.ownsRow w.heap.size 9 1 v' (acc.length + 1) (strs acc ++ [.string (s.extract f i)])) (k2 : Below w.heap.size wr w1) :
    RSplitRel w c s (acc ++ [(s.data.toList.drop f).take (i - f)]) (i + 1) (i + 1) v' w1 := by
  obtain ⟨h1, h2, h3, h4, h5, h6, h7⟩ := h
  have hf := (fst_from h5 hi h7).1 hb
  refine ⟨own_snoc (by rw [Lib.extract_eq]) k1, h2.trans k2, ?_, ?_, Nat.le_refl _, by omega, by omega⟩
  · rw [← h3, splitL_yes c (s.data.toList.drop f) (by rw [hf, List.length_drop, length_bytes]; omega), hf, List.drop_drop, List.append_assoc, show f + (i - f + 1) = i + 1 from by omega]; rfl
  · simp; omega

theorem RSplitRel.last {w : World} {c : UInt8} {s : ByteArray} {acc : List (List UInt8)} {f i : Nat} {v v' : Value} {wr w1 : World} (h : RSplitRel w c s acc f i v wr) (hi : ¬ i < s.size)
    (k1 : w1.ownsRow w.heap.size 9 1 v' (acc.length + 1) (strs acc ++ [.string (s.extract f s.size)])) (k2 : Below w.heap.size wr w1) : SplitPost c s w (.returned v') w1 := by
  obtain ⟨h1, h2, h3, h4, h5, h6, h7⟩ := h
  have e : acc ++ [s.data.toList.drop f] = splitL c s.data.toList := by
    rw [← h3, splitL_no c (s.data.toList.drop f)]
    rw [List.length_drop, length_bytes]; omega
  refine ⟨v', rfl, ?_, h2.trans k2⟩
  rw [← e]
  refine own_snoc ?_ k1
  rw [Lib.extract_eq, List.take_of_length_le (by simp)]

/-- A slice of one-cell elements, read as a list. -/
def SeesV (w : World) (v : Value) (xs : List Value) : Prop :=
  ∃ a cap, v = .slice a xs.length cap ∧ (xs = [] ∨ ∃ g off, a = some ⟨g, off, none⟩ ∧ g < w.heap.size ∧ ∀ k (hk : k < xs.length), w.cell? ⟨g, off + k, none⟩ = some xs[k])

theorem SeesV.of_own {w : World} {base n : Nat} {e : TypeId} {v : Value} {xs : List Value} (h : w.ownsRow base e 1 v n xs) : SeesV w v xs := by
  rcases own_form h with ⟨rfl, rfl, rfl⟩ | ⟨g, cap, rfl, _, hlt, rfl, hc⟩
  · exact ⟨none, 0, rfl, .inl rfl⟩
  · exact ⟨_, cap, rfl, .inr ⟨g, 0, rfl, hlt, fun k hk => by rw [Nat.zero_add]; exact hc k hk⟩⟩

theorem SeesV.later {w w' : World} {v : Value} {xs : List Value} (h : SeesV w v xs) (hb : Below w.heap.size w w') : SeesV w' v xs := by
  obtain ⟨a, cap, rfl, h0 | ⟨g, off, rfl, hg, hc⟩⟩ := h
  · exact ⟨a, cap, rfl, .inl h0⟩
  · exact ⟨_, cap, rfl, .inr ⟨g, off, rfl, Nat.lt_of_lt_of_le hg hb.size, fun k hk => (hb.cell (p := ⟨g, off + k, none⟩) hg).trans (hc k hk)⟩⟩

end Go.Proofs.Ytahocamjihhjhaa
