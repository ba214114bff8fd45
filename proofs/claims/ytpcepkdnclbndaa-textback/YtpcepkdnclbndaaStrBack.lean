/-
  What the walk of TextBack wants: pieces put together again, and the facts that come back.
-/
import Derived.Test.YtpcepkdnclbndaaStrJoin
namespace Go.Proofs.Ytpcepkdnclbndaa
open Go.RowKit StrM

theorem joinL_take_le (c : UInt8) (ps : List (List UInt8)) (k : Nat) : (joinL c (ps.take k)).length ≤ (joinL c ps).length := by
  match ps, k with
  | [], k => simp
  | p :: r, 0 => simp [joinL]
  | p :: r, k + 1 =>
    rw [List.take_succ_cons, joinL, joinL]
    have e : r.flatMap (fun q => c :: q) = (r.take k).flatMap (fun q => c :: q) ++ (r.drop k).flatMap (fun q => c :: q) := by rw [← List.flatMap_append, List.take_append_drop]
    rw [e]; simp only [List.length_append]; omega

/-- What TextBack has put together after k pieces. -/
def BackRel (w1 : World) (c : UInt8) (ps : List (List UInt8)) (k : Nat) (v : Value) (wr : World) : Prop :=
  wr.ownsRow w1.heap.size 5 1 v (joinL c (ps.take k)).length (bys (joinL c (ps.take k))) ∧ Below w1.heap.size w1 wr

theorem BackRel.start (w1 : World) (c : UInt8) (ps : List (List UInt8)) : BackRel w1 c ps 0 (.slice (some ⟨w1.heap.size, 0, none⟩) 0 0) (w1.alloc (.cells #[] 5)) := by
  refine ⟨?_, below_made _ _⟩
  simpa [joinL, bys] using own_made w1 5

theorem take_snoc' (ps : List (List UInt8)) (k : Nat) (h : k < ps.length) : ps.take (k + 1) = ps.take k ++ [ps[k]] := List.take_succ_eq_append_getElem h

/-- The first piece. -/
theorem BackRel.first {w1 : World} {c : UInt8} {ps : List (List UInt8)} {v v' : Value} {wr w2 : World} (h : BackRel w1 c ps 0 v wr) (hk : 0 < ps.length)
    (k1 : w2.ownsRow w1.heap.size 5 1 v' ((joinL c (ps.take 0)).length + (⟨ps[0].toArray⟩ : ByteArray).size) (bys (joinL c (ps.take 0) ++ (⟨ps[0].toArray⟩ : ByteArray).data.toList))) (k2 : Below w1.heap.size wr w2) :
    BackRel w1 c ps 1 v' w2 := by
  refine ⟨?_, h.2.trans k2⟩
  have e : joinL c (ps.take (0 + 1)) = ps[0] := by rw [take_snoc' ps 0 hk]; exact joinL_one c _
  rw [show (1 : Nat) = 0 + 1 from rfl, e]
  rw [size_mk, data_mk] at k1
  simpa [joinL] using k1

/-- A later piece: the byte, then the piece. -/
theorem BackRel.more {w1 : World} {c : UInt8} {ps : List (List UInt8)} {k : Nat} {v v' : Value} {wr wm w2 : World} (h : BackRel w1 c ps k v wr) (h0 : 0 < k) (hk : k < ps.length) (hm : Below w1.heap.size wr wm)
    (k1 : w2.ownsRow w1.heap.size 5 1 v' ((joinL c (ps.take k)).length + 1 + (⟨ps[k].toArray⟩ : ByteArray).size) (bys (joinL c (ps.take k) ++ [c] ++ (⟨ps[k].toArray⟩ : ByteArray).data.toList))) (k2 : Below w1.heap.size wm w2) :
    BackRel w1 c ps (k + 1) v' w2 := by
  refine ⟨?_, (h.2.trans hm).trans k2⟩
  have hne : ps.take k ≠ [] := by
    intro hc
    have := congrArg List.length hc
    simp at this
    rcases this with rfl | rfl
    · omega
    · simp at hk
  rw [take_snoc' ps k hk, joinL_snoc c _ hne]
  rw [size_mk, data_mk] at k1
  rw [show (joinL c (ps.take k) ++ [c] ++ ps[k]).length = (joinL c (ps.take k)).length + 1 + ps[k].length from by simp only [List.length_append, List.length_singleton]]
  exact k1

theorem same_low (s : ByteArray) : sameB (lowS s) s = true := by
  rw [sameB, lowS_low]; exact beq_self_eq_true _

theorem one_text (c : UInt8) (W : World) : (convert 32 9 (.slice (some ⟨W.heap.size, 0, none⟩) 1 1)).run Try.prog (W.alloc (.cells #[.int .u8 (c.toNat : Int)] 5)) = .ok (.string ⟨#[c]⟩) (W.alloc (.cells #[.int .u8 (c.toNat : Int)] 5)) := by
  refine run_convert_bytes_back _ 32 9 5 ⟨W.heap.size, 0, none⟩ 1 [c] Try.underlying32 Try.underlying5 Try.underlying9 (fun j hj => ?_)
  match j, hj with
  | 0, _ => simp [Addr.add]

theorem cut_join {c : UInt8} {s : ByteArray} (h : cutB c s = true) : cutA c s ++ ⟨#[c]⟩ ++ cutZ c s = s := by
  have hf : fst c s.data.toList < s.data.toList.length := by simpa [cutB, inB] using h
  apply bytes_ext
  rw [data_add, data_add]
  have e := joinL_split c _ s.data.toList (Nat.le_refl _)
  rw [splitL_yes c _ hf] at e
  have hj : ∀ q, q ≠ [] → (q : List (List UInt8)).flatMap (fun p => c :: p) = c :: joinL c q := by
    intro q hq
    match q, hq with
    | x :: y, _ => simp [joinL]
  rw [joinL, hj _ (splitL_ne c _), joinL_split c _ _ (Nat.le_refl _)] at e
  rw [cutA, cutZ, data_mk, data_mk]
  simpa using e
theorem cut_whole {c : UInt8} {s : ByteArray} (h : cutB c s = false) : cutA c s ++ cutZ c s = s := by
  obtain ⟨h1, h2⟩ := cut_no_eq h
  rw [← h1, ← h2]
  apply bytes_ext
  rw [data_add]; exact List.append_nil _
theorem cutA_size (c : UInt8) (s : ByteArray) : (cutA c s).size ≤ s.size := by rw [cutA, size_mk, List.length_take, length_bytes]; omega
theorem cutZ_size (c : UInt8) (s : ByteArray) : (cutZ c s).size ≤ s.size := by rw [cutZ, size_mk, List.length_drop, length_bytes]; omega
end Go.Proofs.Ytpcepkdnclbndaa
