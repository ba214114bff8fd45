/-
  The walks of text.Cut and of the reference's Cut.
-/
import Derived.Test.YtpcepkdnclbndaaStrTok
import Derived.Deep.QuietTactic
import Derived.BigQuiet
import Derived.IntWalk
namespace Go.Proofs.Ytpcepkdnclbndaa
open Go.RowKit StrM

theorem ret_cut {a a' b b' : ByteArray} {x y : Bool} (h : a = a') (g : b = b') (k : x = y) : Ending.returned (.tuple #[.string a, .string b, .bool x]) = .returned (.tuple #[.string a', .string b', .bool y]) := by rw [h, g, k]

theorem cut_no_eq {c : UInt8} {s : ByteArray} (h : cutB c s = false) : s = cutA c s ∧ (⟨#[]⟩ : ByteArray) = cutZ c s := by
  have h' : ¬ fst c s.data.toList < s.data.toList.length := by simpa [cutB, inB] using h
  constructor
  · apply bytes_ext; show s.data.toList = s.data.toList.take (fst c s.data.toList); rw [List.take_of_length_le (by omega)]
  · apply bytes_ext; show [] = s.data.toList.drop (fst c s.data.toList + 1); rw [List.drop_of_length_le (by omega)]
theorem cut_yes_eq (c : UInt8) (s : ByteArray) : s.extract 0 (fst c s.data.toList) = cutA c s ∧ s.extract (fst c s.data.toList + 1) s.size = cutZ c s := by
  constructor
  · apply bytes_ext; rw [Lib.extract_data, cutA, data_mk]; simp
  · apply bytes_ext; rw [Lib.extract_data, cutZ, data_mk, List.take_of_length_le (by simp)]

def CutPost (c : UInt8) (s : ByteArray) (w : World) (e : Ending) (w' : World) : Prop :=
  e = .returned (.tuple #[.string (cutA c s), .string (cutZ c s), .bool (cutB c s)]) ∧ Below w.heap.size w w'

theorem below_drewN (w : World) (n : Nat) : Below w.heap.size w (w.drewN n) := ⟨rfl, rfl, rfl, Nat.le_refl _, fun _ _ => rfl⟩

set_option maxHeartbeats 1000000 in
theorem cut_any (s : ByteArray) (c : UInt8) (w : World) (hs : s.size ≤ 1000000) :
    Calls Try.prog 16 #[.string s, .int .u8 (c.toNat : Int)] w (CutPost c s w) := by
  have hi := idx_any s c
  cases hb : cutB c s
  · have hz : idxV s c = -1 := idx_no hb
    simp only [hz] at hi
    have HI := Lib.hid hi
    have HE := Lib.hid (cut_no_eq hb)
    have HB := Lib.hid hb
    clear hz hi hb
    go_enter Try.func16, Try.ntmps16
    go_wp2_with fail
    refine (HI.out _).mono ?_
    rintro e w' ⟨rfl, rfl⟩
    go_wp2_with fail
    go_ret3
    exact ⟨ret_cut HE.out.1 HE.out.2 HB.out.symm, Below.refl _ _⟩
  · have hz : idxV s c = (fst c s.data.toList : Int) := idx_yes hb
    simp only [hz] at hi
    have hlt : fst c s.data.toList < s.size := by
      have : inB s.data.toList c = true := hb
      rw [← length_bytes]; simpa [inB] using this
    have HE := Lib.hid (cut_yes_eq c s)
    have HB := Lib.hid hb
    clear hz hb
    generalize fst c s.data.toList = k at *
    have HI := Lib.hid hi
    clear hi
    have h1 : IntKind.i64.wrap ((k : Int) + 1) = (k : Int) + 1 := IntWalk.i64_in _ (by omega)
    have h2 : 0 ≤ (k : Int) + 1 := by omega
    have h3 : ((k : Int) + 1).toNat = k + 1 := by omega
    have h4 : (k : Int) + 1 ≤ (s.size : Int) := by omega
    have h5 : k ≤ s.size := by omega
    have h6 : k + 1 ≤ s.size := by omega
    go_enter Try.func16, Try.ntmps16
    go_wp2_with fail
    refine (HI.out _).mono ?_
    rintro e w' ⟨rfl, rfl⟩
    go_wp2_with fail
    go_quiet (fail)
    clear h1 h2 h3
    go_wp2_with fail
    go_ret3
    exact ⟨ret_cut HE.out.1 HE.out.2 HB.out.symm, below_drewN _ _⟩

set_option maxHeartbeats 1000000 in
theorem rcut_any (s : ByteArray) (c : UInt8) (w : World) (hs : s.size ≤ 1000000) :
    Calls Try.prog 17 #[.string s, .int .u8 (c.toNat : Int)] w (CutPost c s w) := by
  obtain ⟨z, hz⟩ : ∃ z : Int, z = (c.toNat : Int) := ⟨_, rfl⟩
  rw [← hz]
  have HZ := Lib.hid hz
  clear hz
  go_enter Try.func17, Try.ntmps17
  go_wp2_with fail
  go_loop [7] (fun i => ∃ k : Nat, k ≤ s.size ∧ i = .int .i64 k ∧ k ≤ fst c s.data.toList) (fun i => s.size - (intOf i).toNat)
  case atStart => exact ⟨0, Nat.zero_le _, rfl, Nat.zero_le _⟩
  case round =>
    obtain ⟨k, hk, rfl, hf⟩ := hrel
    by_cases hlt : k < s.size
    · obtain ⟨f1, f2⟩ := fst_at hlt hf
      cases hb : (s[k] == c)
      · have F := Lib.hid (f2 hb)
        have hb' : ((s[k].toNat : Int) == z) = false := by rw [HZ.out, ← byte_beq]; exact hb
        clear f1 f2 hb hf
        go_wp2_with fail
        go_round
        case rel => exact ⟨k + 1, by omega, by go_num, F.out⟩
        case measure => simp [intOf]; omega
      · have hb' : ((s[k].toNat : Int) == z) = true := by rw [HZ.out, ← byte_beq]; exact hb
        have HE := Lib.hid (cut_yes_eq c s)
        rw [f1 hb] at HE
        have HB := Lib.hid (show cutB c s = true by rw [cutB, inB, f1 hb]; simp [hlt])
        clear f1 f2 hb hf
        have h1 : IntKind.i64.wrap ((k : Int) + 1) = (k : Int) + 1 := IntWalk.i64_in _ (by omega)
        have h2 : 0 ≤ (k : Int) + 1 := by omega
        have h3 : ((k : Int) + 1).toNat = k + 1 := by omega
        have h4 : (k : Int) + 1 ≤ (s.size : Int) := by omega
        have h5 : k ≤ s.size := by omega
        have h6 : k + 1 ≤ s.size := by omega
        go_wp2_with fail
        go_quiet (fail)
        clear h1 h2 h3
        go_wp2_with fail
        go_ret3
        exact ⟨ret_cut HE.out.1 HE.out.2 HB.out.symm, below_drewN _ _⟩
    · have hno : cutB c s = false := by
        simp [cutB, inB]; omega
      have HE := Lib.hid (cut_no_eq hno)
      have HB := Lib.hid hno
      clear hf hno
      go_wp2_with fail
      go_ret3
      exact ⟨ret_cut HE.out.1 HE.out.2 HB.out.symm, Below.refl _ _⟩
end Go.Proofs.Ytpcepkdnclbndaa
