/-
  The walks of text.Lower, text.Same and of the reference's Lower.
-/
import Derived.Test.YtibobncagncnaaaStrRow
namespace Go.Proofs.Ytibobncagncnaaa
open Go.RowKit StrM

set_option maxHeartbeats 1000000 in
theorem lower_any (s : ByteArray) (w : World) (hs : s.size ≤ maxLen) :
    Calls Try.prog 12 #[.string s] w fun e w' => e = .returned (.string (lowS s)) ∧ Below w.heap.size w w' := by
  unfold maxLen at hs
  obtain ⟨cap, W, hrun, hB⟩ := run_bytes w s
  have HB := Lib.hid hB
  clear hB
  go_enter Try.func12, Try.ntmps12
  go_wp2_with fail
  go_loopw [10] (fun i wr => ∃ k : Nat, k ≤ s.size ∧ i = .int .i64 k ∧ BRow w.heap.size w wr (lowL (s.data.toList.take k) ++ s.data.toList.drop k)) (fun i _ => s.size - (intOf i).toNat)
  case atStart => exact ⟨0, Nat.zero_le _, rfl, by simpa [lowL] using HB.out⟩
  case round =>
    obtain ⟨k, hk, rfl, hR⟩ := hrel
    clear hrun HB
    have HR := Lib.hid hR
    clear hR
    have hll : (lowL (s.data.toList.take k) ++ s.data.toList.drop k).length = s.size := by simp [lowL_len]; omega
    by_cases hlt : k < s.size
    · obtain ⟨hc, hf⟩ := HR.out.2 k (by rw [hll]; exact hlt)
      have hel : (lowL (s.data.toList.take k) ++ s.data.toList.drop k)[k]'(by rw [hll]; exact hlt) = s[k] := by
        have e : (lowL (s.data.toList.take k)).length = k := by simp [lowL_len]; omega
        rw [List.getElem_append_right (by omega)]
        simp [e]; rfl
      rw [hel] at hc
      clear hel
      have hb := s[k].toNat_lt
      cases hu : upB s[k]
      · have HS := Lib.hid (low_same s k hlt (low_no hu))
        have hbb := upB_false hu
        clear hll hu
        rcases hbb with hbb | hbb
        · have hb1 : (s[k].toNat : Int) < 65 := by omega
          clear hbb
          go_wp2_with fail
          go_roundw
          case rel => exact ⟨k + 1, by omega, by go_num, by rw [← HS.out]; exact HR.out⟩
          case measure => simp [intOf]; omega
        · have hb1 : 65 ≤ (s[k].toNat : Int) := by omega
          have hb2 : 90 < (s[k].toNat : Int) := by omega
          clear hbb
          go_wp2_with fail
          go_roundw
          case rel => exact ⟨k + 1, by omega, by go_num, by rw [← HS.out]; exact HR.out⟩
          case measure => simp [intOf]; omega
      · have hR' := HR.out.set k (by rw [hll]; exact hlt) (low s[k])
        rw [low_part s k hlt, low_up hu] at hR'
        have HR' := Lib.hid hR'
        have hbb := upB_true hu
        clear hll hu hR'
        have hb1 : 65 ≤ (s[k].toNat : Int) := by omega
        have hb2 : (s[k].toNat : Int) ≤ 90 := by omega
        clear hbb
        go_wp2_with fail
        go_roundw
        case rel => exact ⟨k + 1, by omega, by go_num, by
          have e : (s[k].toNat : Int) - 65 + 97 = (s[k].toNat : Int) + 32 := by omega
          rw [e]; exact HR'.out⟩
        case measure => simp [intOf]; omega
    · have hcv := HR.out.text s.size cap hll.symm
      have hfin : (⟨(lowL (s.data.toList.take k) ++ s.data.toList.drop k).toArray⟩ : ByteArray) = lowS s := by
        rw [List.take_of_length_le (by rw [length_bytes]; omega), List.drop_of_length_le (by rw [length_bytes]; omega), List.append_nil]; rfl
      rw [hfin] at hcv
      obtain ⟨S, hS⟩ : ∃ S, S = lowS s := ⟨_, rfl⟩
      rw [← hS] at hcv
      have HF := Lib.hid hS
      clear hll hfin hS
      go_wp2_with fail
      go_ret
      exact ⟨ret_str HF.out, HR.out.1⟩

theorem bool_val {a b : Bool} (h : a = b) : Value.bool a = .bool b := by rw [h]
def sameB (a b : ByteArray) : Bool := (lowS a).toList == (lowS b).toList

/-- What the reference's Lower has gathered. -/
def LowRel (w : World) (s : ByteArray) (k : Nat) (v : Value) (wr : World) : Prop :=
  wr.ownsRow w.heap.size 5 1 v k (bys (lowL (s.data.toList.take k))) ∧ Below w.heap.size w wr

theorem LowRel.step {w : World} {s : ByteArray} {k : Nat} {v v' : Value} {wr w1 : World} (h : LowRel w s k v wr) (hk : k < s.size) {z : Int} (hz : z = ((low s[k]).toNat : Int))
    (h1 : w1.ownsRow w.heap.size 5 1 v' (k + 1) (bys (lowL (s.data.toList.take k)) ++ [.int .u8 z])) (h2 : Below w.heap.size wr w1) : LowRel w s (k + 1) v' w1 := by
  refine ⟨?_, h.2.trans h2⟩
  subst hz
  rw [take_byte s k hk, lowL_snoc, bys_add]
  exact h1

set_option maxHeartbeats 1000000 in
theorem rlower_any (s : ByteArray) (w : World) (hs : s.size ≤ 1000000) :
    Calls Try.prog 11 #[.string s] w fun e w' => e = .returned (.string (lowS s)) ∧ Below w.heap.size w w' := by
  go_enter Try.func11, Try.ntmps11
  go_wp2_with fail
  go_loopw [3, 4] (fun v i wr => ∃ k : Nat, k ≤ s.size ∧ i = .int .i64 k ∧ LowRel w s k v wr) (fun _ i _ => s.size - (intOf i).toNat)
  case atStart => exact ⟨0, Nat.zero_le _, rfl, by simpa [LowRel, bys, lowL] using ⟨own_made w _, below_made w _⟩⟩
  case round =>
    obtain ⟨k, hk, rfl, hR⟩ := hrel
    have HR := Lib.hid hR
    clear hR
    by_cases hlt : k < s.size
    · have hb := s[k].toNat_lt
      cases hu : upB s[k]
      · have HZ := Lib.hid (show (s[k].toNat : Int) = ((low s[k]).toNat : Int) by rw [low_no hu])
        have hbb := upB_false hu
        clear hu
        rcases hbb with hbb | hbb
        · have hb1 : (s[k].toNat : Int) < 65 := by omega
          clear hbb
          go_wp2_with (at_builtin; refine append_one oneByte rfl _ _ rfl w.heap.size _ _ _ rfl HR.out.1 (.int .u8 (s[k].toNat : Int)) rfl rfl ?a1 ?a2 ?a3 ?_)
          case a1 => omega
          case a2 => unfold maxLen; omega
          case a3 => exact HR.out.2.size
          intro v' w1 ho hbw
          have HR' := Lib.hid (HR.out.step hlt HZ.out ho hbw)
          clear ho hbw
          go_wp2_with fail
          go_roundw
          case rel => exact ⟨k + 1, by omega, by go_num, HR'.out⟩
          case measure => simp [intOf]; omega
        · have hb1 : 65 ≤ (s[k].toNat : Int) := by omega
          have hb2 : 90 < (s[k].toNat : Int) := by omega
          clear hbb
          go_wp2_with (at_builtin; refine append_one oneByte rfl _ _ rfl w.heap.size _ _ _ rfl HR.out.1 (.int .u8 (s[k].toNat : Int)) rfl rfl ?b1 ?b2 ?b3 ?_)
          case b1 => omega
          case b2 => unfold maxLen; omega
          case b3 => exact HR.out.2.size
          intro v' w1 ho hbw
          have HR' := Lib.hid (HR.out.step hlt HZ.out ho hbw)
          clear ho hbw
          go_wp2_with fail
          go_roundw
          case rel => exact ⟨k + 1, by omega, by go_num, HR'.out⟩
          case measure => simp [intOf]; omega
      · have HZ := Lib.hid (low_up hu).symm
        have hbb := upB_true hu
        clear hu
        have hb1 : 65 ≤ (s[k].toNat : Int) := by omega
        have hb2 : (s[k].toNat : Int) ≤ 90 := by omega
        clear hbb
        go_wp2_with (at_builtin; refine append_one oneByte rfl _ _ rfl w.heap.size _ _ _ rfl HR.out.1 (.int .u8 ((s[k].toNat : Int) + 32)) rfl rfl ?c1 ?c2 ?c3 ?_)
        case c1 => omega
        case c2 => unfold maxLen; omega
        case c3 => exact HR.out.2.size
        intro v' w1 ho hbw
        have HR' := Lib.hid (HR.out.step hlt HZ.out ho hbw)
        clear ho hbw
        go_wp2_with fail
        go_roundw
        case rel => exact ⟨k + 1, by omega, by go_num, HR'.out⟩
        case measure => simp [intOf]; omega
    · have hcv := run_text_own HR.out.1
      have hfin : (⟨(lowL (s.data.toList.take k)).toArray⟩ : ByteArray) = lowS s := by
        rw [List.take_of_length_le (by rw [length_bytes]; omega)]; rfl
      rw [hfin] at hcv
      obtain ⟨S, hS⟩ : ∃ S, S = lowS s := ⟨_, rfl⟩
      rw [← hS] at hcv
      have HF := Lib.hid hS
      clear hfin hS
      go_wp2_with fail
      go_ret
      exact ⟨ret_str HF.out, HR.out.2⟩
end Go.Proofs.Ytibobncagncnaaa
