/-
  The walks of text.blank, text.Trim and of the reference's blank, Trim.
-/
import Derived.Test.YtpcepkdnclbndaaStrRow
namespace Go.Proofs.Ytpcepkdnclbndaa
open Go.RowKit StrM

set_option maxHeartbeats 400000 in
theorem blank_any (c : UInt8) (w : World) :
    Calls Try.prog 22 #[.int .u8 (c.toNat : Int)] w fun e w' => e = .returned (.bool (blankB c)) ∧ w = w' := by
  rw [blankB_eq]
  cases h1 : ((c.toNat : Int) == 32)
  · cases h2 : ((c.toNat : Int) == 9)
    all_goals
      go_enter Try.func22, Try.ntmps22
      go_wp2_with fail
      go_ret
      exact ⟨rfl, rfl⟩
  · go_enter Try.func22, Try.ntmps22
    go_wp2_with fail
    go_ret
    exact ⟨rfl, rfl⟩

set_option maxHeartbeats 400000 in
theorem rblank_any (c : UInt8) (w : World) :
    Calls Try.prog 23 #[.int .u8 (c.toNat : Int)] w fun e w' => e = .returned (.bool (blankB c)) ∧ w = w' := by
  rw [blankB_eq]
  cases h1 : ((c.toNat : Int) == 32)
  · cases h2 : ((c.toNat : Int) == 9)
    all_goals
      go_enter Try.func23, Try.ntmps23
      go_wp2_with fail
      go_ret
      exact ⟨rfl, rfl⟩
  · go_enter Try.func23, Try.ntmps23
    go_wp2_with fail
    go_ret
    exact ⟨rfl, rfl⟩

theorem mid_snoc (s : ByteArray) (a b : Nat) (h : a ≤ b) (hb : b < s.size) : (s.data.toList.drop a).take (b + 1 - a) = (s.data.toList.drop a).take (b - a) ++ [s[b]] := by
  rw [show b + 1 - a = (b - a) + 1 from by omega, List.take_succ_eq_append_getElem (by simp; omega)]
  simp [show a + (b - a) = b from by omega]; rfl

set_option maxHeartbeats 1000000 in
theorem trim_any (s : ByteArray) (w : World) (hs : s.size ≤ maxLen) :
    Calls Try.prog 10 #[.string s] w fun e w' => e = .returned (.string (trimS s)) ∧ w = w' := by
  unfold maxLen at hs
  go_enter Try.func10, Try.ntmps10
  go_wp2_with fail
  go_loop [3] (fun i => ∃ k : Nat, k ≤ s.size ∧ i = .int .i64 k ∧ trimA (s.data.toList.drop k) = trimA s.data.toList) (fun i => s.size - (intOf i).toNat)
  case atStart => exact ⟨0, Nat.zero_le _, rfl, rfl⟩
  case round =>
    obtain ⟨k, hk, rfl, hd⟩ := hrel
    have HD := Lib.hid hd
    clear hd
    by_cases hgo : ∃ h : k < s.size, blankB s[k] = true
    · obtain ⟨hlt, hb⟩ := hgo
      have HN := Lib.hid (show trimA (s.data.toList.drop (k + 1)) = trimA s.data.toList by rw [← HD.out, drop_byte s k hlt, trimA_yes hb])
      have HB := Lib.hid hb
      clear hb
      go_wp2_with fail
      refine (blank_any _ _).mono ?_
      rw [HB.out]
      rintro e w' ⟨rfl, rfl⟩
      go_wp2_with fail
      go_round
      case rel => exact ⟨k + 1, by omega, by go_num, HN.out⟩
      case measure => simp [intOf]; omega
    · have HA := Lib.hid (show s.data.toList.drop k = trimA s.data.toList by
        rw [← HD.out]
        by_cases hlt : k < s.size
        · have hb : blankB s[k] = false := by
            cases h : blankB s[k]
            · rfl
            · exact absurd ⟨hlt, h⟩ hgo
          rw [drop_byte s k hlt, trimA_no hb]
        · rw [List.drop_of_length_le (by rw [length_bytes]; omega)]; rfl)
      have hcase : ¬ k < s.size ∨ ∃ h : k < s.size, blankB s[k] = false := by
        by_cases hlt : k < s.size
        · cases h : blankB s[k]
          · exact .inr ⟨hlt, h⟩
          · exact absurd ⟨hlt, h⟩ hgo
        · exact .inl hlt
      clear hgo
      rcases hcase with hlt | ⟨hlt, hb⟩
      · go_wp2_with fail
        go_loop [4] (fun i => i = .int .i64 (s.size : Int)) (fun _ => 0)
        case atStart => rfl
        case round =>
          obtain rfl := hrel
          go_wp2_with fail
          go_ret
          exact ⟨ret_str (bytes_ext (by rw [Lib.extract_data, trimS, data_mk, trimL, ← HA.out, List.drop_of_length_le (by rw [length_bytes]; omega), List.take_nil]; rfl)), rfl⟩
      · have HB := Lib.hid hb
        clear hb
        go_wp2_with fail
        refine (blank_any _ _).mono ?_
        rw [HB.out]
        rintro e w' ⟨rfl, rfl⟩
        clear HB
        go_wp2_with fail
        go_loop [4] (fun i => ∃ t : Nat, k ≤ t ∧ t ≤ s.size ∧ i = .int .i64 t ∧ trimZ ((s.data.toList.drop k).take (t - k)) = trimZ (s.data.toList.drop k)) (fun i => (intOf i).toNat)
        case atStart => exact ⟨s.size, hk, Nat.le_refl _, rfl, by rw [List.take_of_length_le (by simp)]⟩
        case round =>
          obtain ⟨t, h1, h2, rfl, hz⟩ := hrel
          have HZ := Lib.hid hz
          clear hz
          by_cases hkt : k < t
          · obtain ⟨n, hn⟩ : ∃ n, t = n + 1 := ⟨t - 1, by omega⟩
            have hn1 : n < s.size := by omega
            have hn2 : (t : Int) - 1 = (n : Int) := by omega
            have hn3 : k ≤ n := by omega
            have hn4 : n < t := by omega
            have hz := HZ.out
            rw [hn, mid_snoc s k n hn3 hn1] at hz
            have HZ' := Lib.hid hz
            clear hz
            have HE := Lib.hid hn
            clear hn
            cases hb : blankB s[n]
            · have HF := Lib.hid (show (s.data.toList.drop k).take (t - k) = trimL s.data.toList by
                rw [HE.out, mid_snoc s k n hn3 hn1, trimL, ← HA.out, ← HZ'.out, trimZ_no hb])
              have HB := Lib.hid hb
              clear hb
              go_wp2_with fail
              refine (blank_any _ _).mono ?_
              rw [HB.out]
              rintro e w' ⟨rfl, rfl⟩
              go_wp2_with fail
              go_ret
              exact ⟨ret_str (bytes_ext (by rw [Lib.extract_data, trimS, data_mk]; exact HF.out)), rfl⟩
            · have HN := Lib.hid (show trimZ ((s.data.toList.drop k).take (n - k)) = trimZ (s.data.toList.drop k) by rw [← HZ'.out, trimZ_yes hb])
              have HB := Lib.hid hb
              clear hb
              go_wp2_with fail
              refine (blank_any _ _).mono ?_
              rw [HB.out]
              rintro e w' ⟨rfl, rfl⟩
              go_wp2_with fail
              go_round
              case rel => exact ⟨n, by omega, by omega, by go_num, HN.out⟩
              case measure => simp [intOf]; omega
          · obtain rfl : k = t := by omega
            have HF := Lib.hid (show (s.data.toList.drop k).take (k - k) = trimL s.data.toList by
              rw [trimL, ← HA.out, ← HZ.out, Nat.sub_self]; rfl)
            go_wp2_with fail
            go_ret
            exact ⟨ret_str (bytes_ext (by rw [trimS, data_mk, ← HF.out, Nat.sub_self]; rfl)), rfl⟩

theorem ext_tail (t : ByteArray) (h : 0 < t.size) : t.data.toList = t[0] :: (t.extract 1 t.size).data.toList := by
  rw [Lib.extract_data, List.take_of_length_le (by simp)]
  have := drop_byte t 0 h
  simpa using this
theorem ext_init (t : ByteArray) (n : Nat) (h : t.size = n + 1) (h1 : n < t.size) : t.data.toList = (t.extract 0 n).data.toList ++ [t[n]'h1] := by
  rw [Lib.extract_data]
  have := take_byte t n h1
  rw [List.take_of_length_le (by rw [length_bytes]; omega)] at this
  simpa using this

set_option maxHeartbeats 1000000 in
theorem rtrim_any (s : ByteArray) (w : World) (hs : s.size ≤ 1000000) :
    Calls Try.prog 11 #[.string s] w fun e w' => e = .returned (.string (trimS s)) ∧ w = w' := by
  go_enter Try.func11, Try.ntmps11
  go_wp2_with fail
  go_loop [0] (fun v => ∃ t : ByteArray, t.size ≤ 1000000 ∧ v = .string t ∧ trimA t.data.toList = trimA s.data.toList) (fun v => strLen v)
  case atStart => exact ⟨s, hs, rfl, rfl⟩
  case round =>
    obtain ⟨t, ht, rfl, hd⟩ := hrel
    have HD := Lib.hid hd
    clear hd
    by_cases hgo : ∃ h : 0 < t.size, blankB t[0] = true
    · obtain ⟨hlt, hb⟩ := hgo
      have HN := Lib.hid (show trimA (t.extract 1 t.size).data.toList = trimA s.data.toList by rw [← HD.out, ext_tail t hlt, trimA_yes hb])
      have HB := Lib.hid hb
      clear hb
      go_wp2_with fail
      refine (rblank_any _ _).mono ?_
      rw [HB.out]
      rintro e w' ⟨rfl, rfl⟩
      go_wp2_with fail
      go_round
      case rel => exact ⟨_, by simp; omega, rfl, HN.out⟩
      case measure => simp [strLen]; omega
    · have hcase : ¬ 0 < t.size ∨ ∃ h : 0 < t.size, blankB t[0] = false := by
        by_cases hlt : 0 < t.size
        · cases h : blankB t[0]
          · exact .inr ⟨hlt, h⟩
          · exact absurd ⟨hlt, h⟩ hgo
        · exact .inl hlt
      have HA := Lib.hid (show t.data.toList = trimA s.data.toList by
        rw [← HD.out]
        rcases hcase with h | ⟨h, hb⟩
        · rw [List.length_eq_zero_iff.1 (by rw [length_bytes]; omega : t.data.toList.length = 0)]; rfl
        · rw [ext_tail t h, trimA_no hb])
      clear hgo
      rcases hcase with hlt | ⟨hlt, hb⟩
      · go_wp2_with fail
        go_loop [0] (fun v => v = .string t) (fun _ => 0)
        case atStart => rfl
        case round =>
          obtain rfl := hrel
          go_wp2_with fail
          go_ret
          exact ⟨ret_str (bytes_ext (by rw [trimS, data_mk, trimL, ← HA.out, List.length_eq_zero_iff.1 (by rw [length_bytes]; omega : t.data.toList.length = 0)]; rfl)), rfl⟩
      · have HB := Lib.hid hb
        clear hb
        go_wp2_with fail
        refine (rblank_any _ _).mono ?_
        rw [HB.out]
        rintro e w' ⟨rfl, rfl⟩
        clear HB
        go_wp2_with fail
        go_loop [0] (fun v => ∃ r : ByteArray, r.size ≤ 1000000 ∧ v = .string r ∧ trimZ r.data.toList = trimL s.data.toList) (fun v => strLen v)
        case atStart => exact ⟨t, ht, rfl, by rw [HA.out]; rfl⟩
        case round =>
          obtain ⟨r, hr, rfl, hz⟩ := hrel
          have HZ := Lib.hid hz
          clear hz
          by_cases h0 : 0 < r.size
          · obtain ⟨n, hn⟩ : ∃ n, r.size = n + 1 := ⟨r.size - 1, by omega⟩
            have hn1 : n < r.size := by omega
            have hn2 : (r.size : Int) - 1 = (n : Int) := by omega
            have hn3 : n ≤ 1000000 := by omega
            have hz := HZ.out
            rw [ext_init r n hn hn1] at hz
            have HZ' := Lib.hid hz
            clear hz
            cases hb : blankB r[n]
            · have HF := Lib.hid (show r.data.toList = trimL s.data.toList by rw [← HZ'.out, trimZ_no hb]; exact ext_init r n hn hn1)
              have HB := Lib.hid hb
              have HN := Lib.hid hn
              clear hb hn
              go_wp2_with fail
              refine (rblank_any _ _).mono ?_
              rw [HB.out]
              rintro e w' ⟨rfl, rfl⟩
              go_wp2_with fail
              go_ret
              exact ⟨ret_str (mk_eq HF.out), rfl⟩
            · have HF := Lib.hid (show trimZ (r.extract 0 n).data.toList = trimL s.data.toList by rw [← HZ'.out, trimZ_yes hb])
              have HB := Lib.hid hb
              have HN := Lib.hid hn
              clear hb hn
              go_wp2_with fail
              refine (rblank_any _ _).mono ?_
              rw [HB.out]
              rintro e w' ⟨rfl, rfl⟩
              go_wp2_with fail
              go_round
              case rel => exact ⟨_, by simp; omega, rfl, HF.out⟩
              case measure => simp [strLen]; omega
          · have HF := Lib.hid (show r.data.toList = trimL s.data.toList by
              rw [← HZ.out, List.length_eq_zero_iff.1 (by rw [length_bytes]; omega : r.data.toList.length = 0)]; rfl)
            go_wp2_with fail
            go_ret
            exact ⟨ret_str (mk_eq HF.out), rfl⟩
end Go.Proofs.Ytpcepkdnclbndaa
