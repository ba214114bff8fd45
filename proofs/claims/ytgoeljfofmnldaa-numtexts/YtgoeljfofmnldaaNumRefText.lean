/-
  The walks of the reference's Digits, Get and Put.
-/
import Derived.Test.YtgoeljfofmnldaaNumText
import Derived.Test.YtgoeljfofmnldaaPutMath
namespace Go.Proofs.Ytgoeljfofmnldaa
open Go.RowKit NumM

set_option maxHeartbeats 1000000 in
theorem digits_any (s : ByteArray) (w : World) (hs : s.size ≤ maxLen) :
    Calls Try.prog 19 #[.string s] w fun e w' => e = .returned (.bool (digsB s.data.toList && decide (0 < s.size))) ∧ w = w' := by
  unfold maxLen at hs
  go_enter Try.func19, Try.ntmps19
  go_wp2
  go_loop [3] (fun i => ∃ k : Nat, k ≤ s.size ∧ i = .int .i64 k ∧ digsB (s.data.toList.drop k) = digsB s.data.toList) (fun i => s.size - (intOf i).toNat)
  case atStart => exact ⟨0, Nat.zero_le _, rfl, rfl⟩
  case round =>
    obtain ⟨k, hk, rfl, hd⟩ := hrel
    by_cases hlt : k < s.size
    · rw [drop_byte s k hlt, digsB_cons] at hd
      cases hb : digB s[k]
      · have HD : digsB s.data.toList = false := by rw [← hd, hb]; rfl
        have H := Lib.hid HD
        have hbf := digB_false hb
        clear hd hb HD
        rcases hbf with hbf | hbf
        · have hbi : (s[k].toNat : Int) < 48 := by omega
          clear hbf
          go_wp2
          go_ret
          exact ⟨ret_bool (by rw [H.out]; rfl), rfl⟩
        · have hbi : 57 < (s[k].toNat : Int) := by omega
          clear hbf
          go_wp2
          go_ret
          exact ⟨ret_bool (by rw [H.out]; rfl), rfl⟩
      · have HD : digsB (s.data.toList.drop (k + 1)) = digsB s.data.toList := by rw [← hd, hb]; rfl
        have H := Lib.hid HD
        have hbf := digB_true hb
        clear hd hb HD
        have hb1 : decide ((s[k].toNat : Int) < 48) = false := by simp; omega
        have hb2 : decide (57 < (s[k].toNat : Int)) = false := by simp; omega
        clear hbf
        go_wp2
        go_round
        case rel => exact ⟨k + 1, by omega, by go_num, H.out⟩
        case measure => simp [intOf]; omega
    · have HD : digsB s.data.toList = true := by rw [← hd, List.drop_of_length_le (by rw [length_bytes]; omega)]; rfl
      have H := Lib.hid HD
      clear hd HD
      go_wp2
      go_ret
      exact ⟨ret_bool (by rw [H.out]; simp), rfl⟩

theorem wfB_split (s : ByteArray) : wfB s.data.toList = ((digsB s.data.toList && decide (0 < s.size)) && !zeroB s.data.toList) := by
  unfold wfB
  have : s.data.toList.isEmpty = !decide (0 < s.size) := by
    by_cases h : s.size = 0
    · rw [empty_yes s h]; simp [h]
    · have h2 := (empty_no s (by omega)).1
      rw [ByteArray.toList_eq] at h2
      rw [h2]; simp; omega
  rw [this]
  cases digsB s.data.toList <;> cases zeroB s.data.toList <;> cases decide (0 < s.size) <;> rfl

set_option maxHeartbeats 1000000 in
theorem rget_bad1 (s : ByteArray) (w : World) (hs : s.size ≤ maxLen) (h : (digsB s.data.toList && decide (0 < s.size)) = false) :
    Calls Try.prog 14 #[.string s] w fun e w' => e = .returned (.tuple #[.int .i64 0, .int .i64 2]) ∧ w = w' := by
  have H := Lib.hid h
  clear h
  go_enter Try.func14, Try.ntmps14
  go_wp2_with (go_at_call 19; refine (digits_any _ _ hs).mono ?_; rw [H.out]; rintro e w' ⟨rfl, rfl⟩)
  go_ret2
  exact ⟨rfl, rfl⟩

set_option maxHeartbeats 1000000 in
theorem rget_bad2 (s : ByteArray) (w : World) (hs : s.size ≤ maxLen) (h : (digsB s.data.toList && decide (0 < s.size)) = true) (h1 : 1 < s.size) (hz : ((s[0].toNat : Int) == 48) = true) :
    Calls Try.prog 14 #[.string s] w fun e w' => e = .returned (.tuple #[.int .i64 0, .int .i64 2]) ∧ w = w' := by
  have H := Lib.hid h
  have h2 : (1 : Int) < s.size := by omega
  clear h
  go_enter Try.func14, Try.ntmps14
  go_wp2_with (go_at_call 19; refine (digits_any _ _ hs).mono ?_; rw [H.out]; rintro e w' ⟨rfl, rfl⟩)
  go_ret2
  exact ⟨rfl, rfl⟩

def RGet (l : List UInt8) (w : World) (e : Ending) (w' : World) : Prop := e = .returned (.tuple #[.int .i64 (getV l), .int .i64 (getE l)]) ∧ w = w'

set_option maxHeartbeats 2000000 in
theorem rget_good (s : ByteArray) (w : World) (hs : s.size ≤ maxLen) (hw : wfB s.data.toList = true) (hz : s.size ≤ 1 ∨ ∃ h : 1 < s.size, ((s[0].toNat : Int) == 48) = false) :
    Calls Try.prog 14 #[.string s] w (RGet s.data.toList w) := by
  have hw' := hw
  rw [wfB_split, Bool.and_eq_true] at hw'
  have H := Lib.hid hw'.1
  have HD := Lib.hid (wfB_true hw).2.2
  have HW := Lib.hid hw
  have hpos : 0 < s.size := by
    have := hw'.1
    simp at this; exact this.2
  clear hw hw'
  have hz' : decide ((1 : Int) < s.size) = false ∨ ((1 : Int) < s.size ∧ ((s[0].toNat : Int) == 48) = false) := by
    rcases hz with h | ⟨h1, h2⟩
    · exact .inl (by simp; omega)
    · exact .inr ⟨by omega, h2⟩
  clear hz
  rcases hz' with hz | ⟨hz1, hz2⟩
  all_goals
    by_cases hl : 13 < s.size
    · have hl' : (13 : Int) < s.size := by omega
      go_enter Try.func14, Try.ntmps14
      go_wp2_with (go_at_call 19; refine (digits_any _ _ hs).mono ?_; rw [H.out]; rintro e w' ⟨rfl, rfl⟩)
      go_ret2
      obtain ⟨e1, e2⟩ := getE_long HW.out (by rw [length_bytes]; exact hl)
      exact ⟨ret_pair e2.symm e1.symm, rfl⟩
    · have hl' : decide ((13 : Int) < s.size) = false := by simp; omega
      have hl2 : s.size ≤ 13 := by omega
      go_enter Try.func14, Try.ntmps14
      go_wp2_with (go_at_call 19; refine (digits_any _ _ hs).mono ?_; rw [H.out]; rintro e w' ⟨rfl, rfl⟩)
      go_loop [4, 5] (fun n i => ∃ (k : Nat) (t : Int), k ≤ s.size ∧ i = .int .i64 k ∧ n = .int .i64 t ∧ 0 ≤ t ∧ t < 10 ^ k ∧ val t (s.data.toList.drop k) = val 0 s.data.toList ∧ digsB (s.data.toList.drop k) = true) (fun _ i => s.size - (intOf i).toNat)
      case atStart => exact ⟨0, 0, Nat.zero_le _, rfl, rfl, by omega, by decide, rfl, HD.out⟩
      case round =>
        obtain ⟨k, t, hk, rfl, rfl, ht0, ht1, hv, hg⟩ := hrel
        have hp := pow_le13 k (by omega)
        have ht2 : t < 10000000000000 := by omega
        have HT := Lib.hid ht1
        clear ht1 hp
        by_cases hlt : k < s.size
        · rw [drop_byte s k hlt, digsB_cons, Bool.and_eq_true] at hg
          rw [drop_byte s k hlt] at hv
          obtain ⟨hb, hg⟩ := hg
          have hbb := digB_true hb
          have HV : val (10 * t + (s[k].toNat : Int) - 48) (s.data.toList.drop (k + 1)) = val 0 s.data.toList := by
            rw [show 10 * t + (s[k].toNat : Int) - 48 = t * 10 + ((s[k].toNat : Int) - 48) from by omega]; exact hv
          have H1 := Lib.hid HV
          have H2 := Lib.hid hg
          have hb1 : 48 ≤ (s[k].toNat : Int) := by omega
          have hb2 : (s[k].toNat : Int) ≤ 57 := by omega
          have H3 : 10 * t + (s[k].toNat : Int) - 48 < 10 ^ (k + 1) := by
            rw [Int.pow_succ]; have := HT.out; omega
          have H3 := Lib.hid H3
          clear hb hbb HV hv hg
          go_wp2
          go_round
          case rel => exact ⟨k + 1, _, by omega, by go_num, rfl, by omega, H3.out, H1.out, H2.out⟩
          case measure => simp [intOf]; omega
        · have HV : val 0 s.data.toList = t := by rw [← hv, List.drop_of_length_le (by rw [length_bytes]; omega)]; rfl
          have HVV := Lib.hid HV
          clear hv hg HV
          cases hb : isB t
          · obtain ⟨e1, e2⟩ := getE_big HW.out (by rw [HVV.out]; exact hb)
            have E1 := Lib.hid e1
            have E2 := Lib.hid e2
            have HB := isB_false hb
            clear e1 e2 hb
            go_wp2_with (go_at_call 11; refine (size_no _ _ HB).mono ?_; rintro e w' ⟨rfl, rfl⟩)
            go_ret2
            exact ⟨ret_pair E2.out.symm E1.out.symm, rfl⟩
          · obtain ⟨e1, e2⟩ := getE_ok HW.out (by rw [length_bytes]; exact hl2) (by rw [HVV.out]; exact hb)
            rw [HVV.out] at e2
            have E1 := Lib.hid e1
            have E2 := Lib.hid e2
            obtain ⟨b1, b2⟩ := isB_true hb
            clear e1 e2 hb
            go_wp2_with (go_at_call 11; refine (size_yes _ _ b1 b2).mono ?_; rintro e w' ⟨rfl, rfl⟩)
            go_ret2
            exact ⟨ret_pair E2.out.symm E1.out.symm, rfl⟩

theorem rget_any (s : ByteArray) (w : World) (hs : s.size ≤ maxLen) :
    Calls Try.prog 14 #[.string s] w fun e w' => e = .returned (.tuple #[.int .i64 (getV s.data.toList), .int .i64 (getE s.data.toList)]) ∧ w = w' := by
  cases hw : wfB s.data.toList
  · obtain ⟨e1, e2⟩ := getE_bad hw
    rw [e1, e2]
    cases hd : (digsB s.data.toList && decide (0 < s.size))
    · exact rget_bad1 s w hs hd
    · rw [wfB_split, hd, Bool.true_and] at hw
      have hz : zeroB s.data.toList = true := by simpa using hw
      by_cases h1 : 1 < s.size
      · rw [zeroB_long s h1, byte_eq] at hz
        exact rget_bad2 s w hs hd h1 hz
      · rw [zeroB_short s (by omega)] at hz; cases hz
  · refine rget_good s w hs hw ?_
    by_cases h1 : 1 < s.size
    · have hz := (wfB_true hw).2.1
      rw [zeroB_long s h1, byte_eq] at hz
      exact .inr ⟨h1, hz⟩
    · exact .inl (by omega)
end Go.Proofs.Ytgoeljfofmnldaa
