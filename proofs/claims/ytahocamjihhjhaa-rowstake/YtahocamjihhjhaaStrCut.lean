/-
  The walks of text.Cut and of the reference's Cut.
-/
import Derived.Test.YtahocamjihhjhaaStrTok
import Derived.Deep.QuietTactic
import Derived.BigQuiet
import Derived.IntWalk
namespace Go.Proofs.Ytahocamjihhjhaa
open Go.RowKit StrM

theorem ret_cut {a a' b b' : ByteArray} {x y : Bool} (h : a = a') (g : b = b') (k : x = y) : Ending.returned (.tuple #[.string a, .string b, .bool x]) = .returned (.tuple #[.string a', .string b', .bool y]) := by rw [h, g, k]

theorem cut_no_eq {c : UInt8} {s : ByteArray} (h : cutB c s = false) : s = cutA c s ∧ (⟨#[]⟩ : ByteArray) = cutZ c s := by
  have h' : ¬ fst c s.data.toList < s.data.toList.length := by simpa [cutB, inB] using h
  constructor
  · apply bytes_ext; show s.data.toList = s.data.toList.take (fst c s.data.toList); rw [List.take_of_length_le (by omega)]
  · apply bytes_ext; show [] = s.data.toList.drop (fst c s.data.toList + 1); rw [List.drop_of_length_le (by omega)]
theorem cut_yes_eq (c : UInt8) (s : ByteArray) : s.extract 0 (fst c s.data.toList) = cutA c s ∧ s.extract (fst c s.data.toList + 1) s.size = cutZ c s := by
  constructor
  · apply bytes_ext; rw [Lib.extract_data, cutA, data_mk]; simp
  · apply bytes_ext; rw [Lib.extract_data, cutZ, data_mk, List.take_of_length_le (by simp)]

def CutPost (c : UInt8) (s : ByteArray) (w : World) (e : Ending) (w' : World) : Prop :=
  e = .returned (.tuple #[.string (cutA c s), .string (cutZ c s), .bool (cutB c s)]) ∧ Below w.heap.size w w'

theorem below_drewN (w : World) (n : Nat) : Below w.heap.size w (w.drewN n) := ⟨rfl, rfl, rfl, Nat.le_refl _, fun _ _ => rfl⟩

end Go.Proofs.Ytahocamjihhjhaa
