/-
  The walks of num.wellFormed, num.value, num.Get and of the reference's Digits and Get.
-/
import Derived.Test.YtgoeljfofmnldaaNumLeaf
import Derived.Test.YtgoeljfofmnldaaTextMath
import Derived.Lib.Hide
namespace Go.Proofs.Ytgoeljfofmnldaa
open Go.RowKit NumM

theorem ret_bool {a b : Bool} (h : a = b) : Ending.returned (.bool a) = .returned (.bool b) := by rw [h]
theorem ret_int {k : IntKind} {a b : Int} (h : a = b) : Ending.returned (.int k a) = .returned (.int k b) := by rw [h]

set_option maxHeartbeats 400000 in
theorem wf_nil (s : ByteArray) (w : World) (h0 : s.size = 0) :
    Calls Try.prog 17 #[.string s] w fun e w' => e = .returned (.bool false) ∧ w = w' := by
  have h1 : s.toList.isEmpty = true := by rw [ByteArray.toList_eq, empty_yes s h0]; rfl
  have h2 : s.toList = [] := by rw [ByteArray.toList_eq, empty_yes s h0]
  clear h0
  go_enter Try.func17, Try.ntmps17
  go_wp2
  go_ret
  exact ⟨rfl, rfl⟩

set_option maxHeartbeats 400000 in
theorem wf_zero (s : ByteArray) (w : World) (h0 : 1 < s.size) (hz : ((s[0].toNat : Int) == 48) = true) :
    Calls Try.prog 17 #[.string s] w fun e w' => e = .returned (.bool false) ∧ w = w' := by
  obtain ⟨h1, h2⟩ := empty_no s (by omega)
  have h3 : (1 : Int) < s.size := by omega
  go_enter Try.func17, Try.ntmps17
  go_wp2
  go_ret
  exact ⟨rfl, rfl⟩

def WfPost (b : Bool) (w : World) (e : Ending) (w' : World) : Prop := e = .returned (.bool b) ∧ w = w'

set_option maxHeartbeats 1000000 in
theorem wf_rest (s : ByteArray) (w : World) (hs : s.size ≤ maxLen) (h0 : 0 < s.size) (hz : ((s[0].toNat : Int) == 48) = true ∧ s.size ≤ 1 ∨ ((s[0].toNat : Int) == 48) = false) :
    Calls Try.prog 17 #[.string s] w (WfPost (digsB s.data.toList) w) := by
  unfold maxLen at hs
  obtain ⟨h1, h2⟩ := empty_no s h0
  have hz' : ((s[0].toNat : Int) == 48) = true ∧ decide ((1 : Int) < s.size) = false ∨ ((s[0].toNat : Int) == 48) = false := by
    rcases hz with ⟨a, b⟩ | a
    · exact .inl ⟨a, by simp; omega⟩
    · exact .inr a
  clear hz
  rcases hz' with ⟨hz, hn⟩ | hz
  all_goals
    go_enter Try.func17, Try.ntmps17
    go_wp2
    go_loop [18] (fun i => ∃ k : Nat, k ≤ s.size ∧ i = .int .i64 k ∧ digsB (s.data.toList.drop k) = digsB s.data.toList) (fun i => s.size - (intOf i).toNat)
    case atStart => exact ⟨0, Nat.zero_le _, rfl, rfl⟩
    case round =>
      obtain ⟨k, hk, rfl, hd⟩ := hrel
      by_cases hlt : k < s.size
      · rw [drop_byte s k hlt, digsB_cons] at hd
        cases hb : digB s[k]
        · have HD : digsB s.data.toList = false := by rw [← hd, hb]; rfl
          have H := Lib.hid HD
          have hbf := digB_false hb
          clear hd hb HD
          rcases hbf with hbf | hbf
          · have hbi : (s[k].toNat : Int) < 48 := by omega
            clear hbf
            go_wp2
            go_ret
            exact ⟨ret_bool H.out.symm, rfl⟩
          · have hbi : 57 < (s[k].toNat : Int) := by omega
            clear hbf
            go_wp2
            go_ret
            exact ⟨ret_bool H.out.symm, rfl⟩
        · have HD : digsB (s.data.toList.drop (k + 1)) = digsB s.data.toList := by rw [← hd, hb]; rfl
          have H := Lib.hid HD
          have hbf := digB_true hb
          clear hd hb HD
          have hb1 : decide ((s[k].toNat : Int) < 48) = false := by simp; omega
          have hb2 : decide (57 < (s[k].toNat : Int)) = false := by simp; omega
          clear hbf
          go_wp2
          go_round
          case rel => exact ⟨k + 1, by omega, by go_num, H.out⟩
          case measure => simp [intOf]; omega
      · have HD : digsB s.data.toList = true := by rw [← hd, List.drop_of_length_le (by rw [length_bytes]; omega)]; rfl
        have H := Lib.hid HD
        clear hd HD
        go_wp2
        go_ret
        exact ⟨ret_bool H.out.symm, rfl⟩

theorem wf_any (s : ByteArray) (w : World) (hs : s.size ≤ maxLen) :
    Calls Try.prog 17 #[.string s] w fun e w' => e = .returned (.bool (wfB s.data.toList)) ∧ w = w' := by
  by_cases h0 : s.size = 0
  · rw [empty_yes s h0]
    exact wf_nil s w h0
  · have hne : s.data.toList ≠ [] := by
      intro hc; have := length_bytes s; rw [hc] at this; simp at this; omega
    by_cases h1 : 1 < s.size
    · cases hz : ((s[0].toNat : Int) == 48)
      · rw [wfB_digs hne (by rw [zeroB_long s h1, byte_eq, hz])]
        exact wf_rest s w hs (by omega) (.inr hz)
      · rw [wfB_zero (by rw [zeroB_long s h1, byte_eq, hz])]
        exact wf_zero s w h1 hz
    · rw [wfB_digs hne (zeroB_short s (by omega))]
      cases hz : (((s[0]'(by omega)).toNat : Int) == 48)
      · exact wf_rest s w hs (by omega) (.inr hz)
      · exact wf_rest s w hs (by omega) (.inl ⟨hz, by omega⟩)

set_option maxHeartbeats 1000000 in
theorem value_any (s : ByteArray) (w : World) (hs : s.size ≤ 13) (hd : digsB s.data.toList = true) :
    Calls Try.prog 18 #[.string s] w fun e w' => e = .returned (.int .i64 (val 0 s.data.toList)) ∧ w = w' := by
  have HD := Lib.hid hd
  clear hd
  go_enter Try.func18, Try.ntmps18
  go_wp2
  go_loop [3, 7] (fun n i => ∃ (k : Nat) (t : Int), k ≤ s.size ∧ i = .int .i64 k ∧ n = .int .i64 t ∧ 0 ≤ t ∧ t < 10 ^ k ∧ val t (s.data.toList.drop k) = val 0 s.data.toList ∧ digsB (s.data.toList.drop k) = true) (fun _ i => s.size - (intOf i).toNat)
  case atStart => exact ⟨0, 0, Nat.zero_le _, rfl, rfl, by omega, by decide, rfl, HD.out⟩
  case round =>
    obtain ⟨k, t, hk, rfl, rfl, ht0, ht1, hv, hg⟩ := hrel
    have hp := pow_le13 k (by omega)
    have ht2 : t < 10000000000000 := by omega
    have HT := Lib.hid ht1
    clear ht1 hp
    by_cases hlt : k < s.size
    · rw [drop_byte s k hlt, digsB_cons, Bool.and_eq_true] at hg
      rw [drop_byte s k hlt] at hv
      obtain ⟨hb, hg⟩ := hg
      have hbb := digB_true hb
      have HV : val (t * 10 + ((s[k].toNat : Int) - 48)) (s.data.toList.drop (k + 1)) = val 0 s.data.toList := hv
      have H1 := Lib.hid HV
      have H2 := Lib.hid hg
      have hb1 : 48 ≤ (s[k].toNat : Int) := by omega
      have hb2 : (s[k].toNat : Int) ≤ 57 := by omega
      have H3 : t * 10 + ((s[k].toNat : Int) - 48) < 10 ^ (k + 1) := by
        rw [Int.pow_succ]; have := HT.out; omega
      have H3 := Lib.hid H3
      clear hb hbb HV hv hg
      go_wp2
      go_round
      case rel => exact ⟨k + 1, _, by omega, by go_num, rfl, by omega, H3.out, H1.out, H2.out⟩
      case measure => simp [intOf]; omega
    · have HV : t = val 0 s.data.toList := by rw [← hv, List.drop_of_length_le (by rw [length_bytes]; omega)]; rfl
      have H := Lib.hid HV
      clear hv hg HV
      go_wp2
      go_ret
      exact ⟨ret_int H.out, rfl⟩

theorem ret_pair {a a' b b' : Int} (h : a = a') (g : b = b') : Ending.returned (.tuple #[.int .i64 a, .int .i64 b]) = .returned (.tuple #[.int .i64 a', .int .i64 b']) := by rw [h, g]

theorem getE_bad {l : List UInt8} (h : wfB l = false) : getE l = 2 ∧ getV l = 0 := by simp [getE, getV, h]
theorem getE_long {l : List UInt8} (h : wfB l = true) (g : 13 < l.length) : getE l = 3 ∧ getV l = 0 := by
  have : ¬ l.length ≤ 13 := by omega
  simp [getE, getV, h, this]
theorem getE_big {l : List UInt8} (h : wfB l = true) (g : isB (val 0 l) = false) : getE l = 3 ∧ getV l = 0 := by simp [getE, getV, h, g]
theorem getE_ok {l : List UInt8} (h : wfB l = true) (g : l.length ≤ 13) (i : isB (val 0 l) = true) : getE l = 0 ∧ getV l = val 0 l := by simp [getE, getV, h, g, i]

set_option maxHeartbeats 1000000 in
theorem get_any (s : ByteArray) (w : World) (hs : s.size ≤ maxLen) :
    Calls Try.prog 13 #[.string s] w fun e w' => e = .returned (.tuple #[.int .i64 (getV s.data.toList), .int .i64 (getE s.data.toList)]) ∧ w = w' := by
  cases hw : wfB s.data.toList
  · obtain ⟨e1, e2⟩ := getE_bad hw
    rw [e1, e2]
    have HW := Lib.hid hw
    clear hw e1 e2
    go_enter Try.func13, Try.ntmps13
    go_wp2_with (go_at_call 17; refine (wf_any _ _ hs).mono ?_; rw [HW.out]; rintro e w' ⟨rfl, rfl⟩)
    go_ret2
    exact ⟨rfl, rfl⟩
  · by_cases hl : 13 < s.size
    · obtain ⟨e1, e2⟩ := getE_long hw (by rw [length_bytes]; exact hl)
      rw [e1, e2]
      have HW := Lib.hid hw
      have hl' : (13 : Int) < s.size := by omega
      clear hw e1 e2
      go_enter Try.func13, Try.ntmps13
      go_wp2_with (go_at_call 17; refine (wf_any _ _ hs).mono ?_; rw [HW.out]; rintro e w' ⟨rfl, rfl⟩)
      go_ret2
      exact ⟨rfl, rfl⟩
    · have HW := Lib.hid hw
      have hl' : decide ((13 : Int) < s.size) = false := by simp; omega
      have HD := Lib.hid (wfB_true hw).2.2
      have hl2 : s.size ≤ 13 := by omega
      cases hb : isB (val 0 s.data.toList)
      · obtain ⟨e1, e2⟩ := getE_big hw hb
        rw [e1, e2]
        have HB := isB_false hb
        clear hw e1 e2 hb
        generalize hv : val 0 s.data.toList = v at *
        have HV := Lib.hid hv
        clear hv
        go_enter Try.func13, Try.ntmps13
        go_wp2_with (first | (go_at_call 17; refine (wf_any _ _ hs).mono ?_; rw [HW.out]; rintro e w' ⟨rfl, rfl⟩) | (go_at_call 18; refine (value_any _ _ hl2 HD.out).mono ?_; rw [HV.out]; rintro e w' ⟨rfl, rfl⟩) | (go_at_call 10; refine (is_no _ _ HB).mono ?_; rintro e w' ⟨rfl, rfl⟩))
        go_ret2
        exact ⟨rfl, rfl⟩
      · obtain ⟨e1, e2⟩ := getE_ok hw (by rw [length_bytes]; exact hl2) hb
        rw [e1, e2]
        obtain ⟨b1, b2⟩ := isB_true hb
        clear hw e1 e2 hb
        generalize hv : val 0 s.data.toList = v at *
        have HV := Lib.hid hv
        clear hv
        go_enter Try.func13, Try.ntmps13
        go_wp2_with (first | (go_at_call 17; refine (wf_any _ _ hs).mono ?_; rw [HW.out]; rintro e w' ⟨rfl, rfl⟩) | (go_at_call 18; refine (value_any _ _ hl2 HD.out).mono ?_; rw [HV.out]; rintro e w' ⟨rfl, rfl⟩) | (go_at_call 10; refine (is_yes _ _ b1 b2).mono ?_; rintro e w' ⟨rfl, rfl⟩))
        go_ret2
        exact ⟨rfl, rfl⟩
end Go.Proofs.Ytgoeljfofmnldaa
