/-
  The leaves of dir: names, strings.Compare, the function literal that compares an entry with a name; the reference's Name.
-/
import Derived.Test.YtaklilhnikmmfaaGreatDirRow
import Derived.Laws.StandIn
namespace Go.Proofs.YtaklilhnikmmfaaGreat
open Go.RowKit StrM DirM

theorem okB_cases (c : UInt8) : ∃ z : Int, z = (c.toNat : Int) ∧
    ((okB c = true ∧ 97 ≤ z ∧ z ≤ 122) ∨ (okB c = false ∧ 97 ≤ z ∧ 122 < z) ∨ (okB c = true ∧ z < 97 ∧ 48 ≤ z ∧ z ≤ 57) ∨ (okB c = false ∧ z < 97 ∧ 48 ≤ z ∧ 57 < z) ∨ (okB c = true ∧ z < 48 ∧ z = 46) ∨ (okB c = false ∧ z < 48 ∧ z ≠ 46)) := by
  refine ⟨_, rfl, ?_⟩
  unfold okB
  simp
  omega

set_option maxHeartbeats 1000000 in
theorem allowed_any (c : UInt8) (w : World) : Calls Tryz.prog 126 #[.int .u8 (c.toNat : Int)] w fun e w' => e = .returned (.bool (okB c)) ∧ w = w' := by
  obtain ⟨z, hz, h⟩ := okB_cases c
  rw [← hz]
  clear hz
  rcases h with ⟨ho, h1, h2⟩ | ⟨ho, h1, h2⟩ | ⟨ho, h1, h2, h3⟩ | ⟨ho, h1, h2, h3⟩ | ⟨ho, h1, h2⟩ | ⟨ho, h1, h2⟩ <;> rw [ho] <;> clear ho
  · go_enter Tryz.func126, Tryz.ntmps126
    go_wp2_with fail
    go_ret
    exact ⟨rfl, rfl⟩
  · have d1 : decide (z ≤ 122) = false := decide_eq_false (by omega)
    have d2 : decide (z ≤ 57) = false := decide_eq_false (by omega)
    have h3 : (48 : Int) ≤ z := by omega
    have h4 : (z == 46) = false := by simp; omega
    go_enter Tryz.func126, Tryz.ntmps126
    go_wp2_with fail
    go_ret
    exact ⟨rfl, rfl⟩
  · have d1 : decide ((97 : Int) ≤ z) = false := decide_eq_false (by omega)
    go_enter Tryz.func126, Tryz.ntmps126
    go_wp2_with fail
    go_ret
    exact ⟨rfl, rfl⟩
  · have d1 : decide ((97 : Int) ≤ z) = false := decide_eq_false (by omega)
    have d2 : decide (z ≤ 57) = false := decide_eq_false (by omega)
    have h4 : (z == 46) = false := by simp; omega
    go_enter Tryz.func126, Tryz.ntmps126
    go_wp2_with fail
    go_ret
    exact ⟨rfl, rfl⟩
  · subst h2
    go_enter Tryz.func126, Tryz.ntmps126
    go_wp2_with fail
    go_ret
    exact ⟨rfl, rfl⟩
  · have d1 : decide ((97 : Int) ≤ z) = false := decide_eq_false (by omega)
    have d2 : decide ((48 : Int) ≤ z) = false := decide_eq_false (by omega)
    have h4 : (z == 46) = false := by simp; omega
    go_enter Tryz.func126, Tryz.ntmps126
    go_wp2_with fail
    go_ret
    exact ⟨rfl, rfl⟩

set_option maxHeartbeats 1000000 in
theorem dname_any (s : ByteArray) (w : World) : Calls Tryz.prog 106 #[.string s] w fun e w' => e = .returned (.bool (nameOk s)) ∧ w = w' := by
  by_cases h1 : s.size < 1
  · rw [name_short h1]
    go_enter Tryz.func106, Tryz.ntmps106
    go_wp2_with fail
    go_ret
    exact ⟨rfl, rfl⟩
  · by_cases h2 : 24 < s.size
    · rw [name_long h2]
      have d1 : decide ((s.size : Int) < 1) = false := decide_eq_false (by omega)
      have d2 : decide (s.size < 1) = false := decide_eq_false (by omega)
      have d3 : (24 : Int) < (s.size : Int) := by omega
      go_enter Tryz.func106, Tryz.ntmps106
      go_wp2_with fail
      go_ret
      exact ⟨rfl, rfl⟩
    · have d1 : decide ((s.size : Int) < 1) = false := decide_eq_false (by omega)
      have d2 : decide (s.size < 1) = false := decide_eq_false (by omega)
      have d3 : decide ((24 : Int) < (s.size : Int)) = false := decide_eq_false (by omega)
      have d4 : decide (24 < s.size) = false := decide_eq_false (by omega)
      obtain ⟨r, hr⟩ : ∃ r, r = nameOk s := ⟨_, rfl⟩
      rw [← hr]
      have HR := Lib.hid hr
      have HN := Lib.hid (show (decide (1 ≤ s.size) && decide (s.size ≤ 24)) = true by simp; omega)
      clear hr
      go_enter Tryz.func106, Tryz.ntmps106
      go_wp2_with fail
      go_loop [14] (fun i => ∃ k : Nat, k ≤ s.size ∧ i = .int .i64 k ∧ allOk s k = true) (fun i => s.size - (intOf i).toNat)
      case atStart => exact ⟨0, Nat.zero_le _, rfl, allOk_zero s⟩
      case round =>
        obtain ⟨k, hk, rfl, hd⟩ := hrel
        have HD := Lib.hid hd
        clear hd
        by_cases hlt : k < s.size
        · have AL := Lib.hid (fun w => allowed_any s[k] w)
          cases hb : okB s[k] with
          | false =>
            rw [hb] at AL
            have HX := Lib.hid (show r = false by rw [HR.out, name_bad hlt hb])
            clear hb
            go_wp2_with fail
            refine (AL.out _).mono ?_
            rintro e w' ⟨rfl, rfl⟩
            go_wp2_with fail
            go_ret
            exact ⟨ret_bool HX.out.symm, rfl⟩
          | true =>
            rw [hb] at AL
            have HX := Lib.hid (show allOk s (k + 1) = true by rw [allOk_next hlt HD.out, hb])
            clear hb
            go_wp2_with fail
            refine (AL.out _).mono ?_
            rintro e w' ⟨rfl, rfl⟩
            go_wp2_with fail
            go_round
            case rel => exact ⟨k + 1, by omega, by go_num, HX.out⟩
            case measure => simp [intOf]; omega
        · have HX := Lib.hid (show r = true by
            rw [HR.out, name_good (by rw [← show k = s.size by omega]; exact HD.out), HN.out])
          go_wp2_with fail
          go_ret
          exact ⟨ret_bool HX.out.symm, rfl⟩

set_option maxHeartbeats 2000000 in
theorem rname_any (s : ByteArray) (w : World) (hs : s.size ≤ maxLen) : Calls Tryz.prog 101 #[.string s] w fun e w' => e = .returned (.bool (nameOk s)) ∧ w = w' := by
  unfold maxLen at hs
  obtain ⟨r, hr⟩ : ∃ r, r = nameOk s := ⟨_, rfl⟩
  rw [← hr]
  have HR := Lib.hid hr
  clear hr
  go_enter Tryz.func101, Tryz.ntmps101
  go_wp2_with fail
  go_loop [3] (fun i => ∃ k : Nat, k ≤ s.size ∧ i = .int .i64 k ∧ allOk s k = true) (fun i => s.size - (intOf i).toNat)
  case atStart => exact ⟨0, Nat.zero_le _, rfl, allOk_zero s⟩
  case round =>
    obtain ⟨k, hk, rfl, hd⟩ := hrel
    have HD := Lib.hid hd
    clear hd
    by_cases hlt : k < s.size
    · obtain ⟨z, hz, h⟩ := okB_cases s[k]
      have hcell : ((s[k].toNat : Nat) : Int) = z := hz.symm
      have HB := Lib.hid (show okB s[k] = false → r = false from fun hb => by rw [HR.out, name_bad hlt hb])
      have HG := Lib.hid (show okB s[k] = true → allOk s (k + 1) = true from fun hb => by rw [allOk_next hlt HD.out, hb])
      clear hz
      rcases h with ⟨ho, h1, h2⟩ | ⟨ho, h1, h2⟩ | ⟨ho, h1, h2, h3⟩ | ⟨ho, h1, h2, h3⟩ | ⟨ho, h1, h2⟩ | ⟨ho, h1, h2⟩
      · have HX := Lib.hid (HG.out ho)
        clear ho HB HG
        go_wp2_with fail
        go_round
        case rel => exact ⟨k + 1, by omega, by go_num, HX.out⟩
        case measure => simp [intOf]; omega
      · have HX := Lib.hid (HB.out ho)
        have d1 : decide (z ≤ 122) = false := decide_eq_false (by omega)
        have d2 : decide (z ≤ 57) = false := decide_eq_false (by omega)
        have h3 : (48 : Int) ≤ z := by omega
        have h4 : (z == 46) = false := by simp; omega
        clear ho HB HG
        go_wp2_with fail
        go_ret
        exact ⟨ret_bool HX.out.symm, rfl⟩
      · have HX := Lib.hid (HG.out ho)
        have d1 : decide ((97 : Int) ≤ z) = false := decide_eq_false (by omega)
        clear ho HB HG
        go_wp2_with fail
        go_round
        case rel => exact ⟨k + 1, by omega, by go_num, HX.out⟩
        case measure => simp [intOf]; omega
      · have HX := Lib.hid (HB.out ho)
        have d1 : decide ((97 : Int) ≤ z) = false := decide_eq_false (by omega)
        have d2 : decide (z ≤ 57) = false := decide_eq_false (by omega)
        have h4 : (z == 46) = false := by simp; omega
        clear ho HB HG
        go_wp2_with fail
        go_ret
        exact ⟨ret_bool HX.out.symm, rfl⟩
      · have HX := Lib.hid (HG.out ho)
        subst h2
        clear ho HB HG
        go_wp2_with fail
        go_round
        case rel => exact ⟨k + 1, by omega, by go_num, HX.out⟩
        case measure => simp [intOf]; omega
      · have HX := Lib.hid (HB.out ho)
        have d1 : decide ((97 : Int) ≤ z) = false := decide_eq_false (by omega)
        have d2 : decide ((48 : Int) ≤ z) = false := decide_eq_false (by omega)
        have h4 : (z == 46) = false := by simp; omega
        clear ho HB HG
        go_wp2_with fail
        go_ret
        exact ⟨ret_bool HX.out.symm, rfl⟩
    · have HX := Lib.hid (show r = (decide (1 ≤ s.size) && decide (s.size ≤ 24)) by
        rw [HR.out, name_good (by rw [← show k = s.size by omega]; exact HD.out)])
      by_cases h1 : 1 ≤ s.size
      · have d1 : (1 : Int) ≤ (s.size : Int) := by omega
        by_cases h2 : s.size ≤ 24
        · have d2 : (s.size : Int) ≤ 24 := by omega
          go_wp2_with fail
          go_ret
          exact ⟨ret_bool (by rw [HX.out]; simp [h1, h2]), rfl⟩
        · have d2 : decide ((s.size : Int) ≤ 24) = false := decide_eq_false (by omega)
          have d3 : decide (s.size ≤ 24) = false := decide_eq_false (by omega)
          go_wp2_with fail
          go_ret
          exact ⟨ret_bool (by rw [HX.out]; simp [h2]), rfl⟩
      · have d1 : decide ((1 : Int) ≤ (s.size : Int)) = false := decide_eq_false (by omega)
        have d2 : decide (1 ≤ s.size) = false := decide_eq_false (by omega)
        go_wp2_with fail
        go_ret
        exact ⟨ret_bool (by rw [HX.out]; simp [h1]), rfl⟩

theorem cmp_run (a b : ByteArray) (w : World) : (callFunc 143 #[.string a, .string b]).run Tryz.prog w = .ok (.value (.int .i64 (cmp a b))) w := by
  rw [run_callFunc_extern Tryz.func143 (by kernel_rfl) (by kernel_rfl) (by kernel_rfl) (e := Extern.BytealgCompare.compare) (by kernel_rfl), Lib.run_compareString]
  rfl
theorem compareS_any (a b : ByteArray) (w : World) : Calls Tryz.prog 140 #[.string a, .string b] w fun e w' => e = .returned (.int .i64 (cmp a b)) ∧ w = w' := by
  have hr := cmp_run a b
  go_enter Tryz.func140, Tryz.ntmps140
  go_wp2_with fail
  go_ret
  exact ⟨rfl, rfl⟩
theorem compare_any (a b : ByteArray) (w : World) : Calls Tryz.prog 130 #[.string a, .string b] w fun e w' => e = .returned (.int .i64 (cmp a b)) ∧ w = w' := by
  go_enter Tryz.func130, Tryz.ntmps130
  go_wp2_with fail
  refine (compareS_any _ _ _).mono ?_
  rintro e w' ⟨rfl, rfl⟩
  go_wp2_with fail
  go_ret
  exact ⟨rfl, rfl⟩
theorem dlit_any (x : E) (n : ByteArray) (w : World) : Calls Tryz.prog 129 #[.agg #[.string x.name, .int .i64 x.node], .string n] w fun e w' => e = .returned (.int .i64 (cmp x.name n)) ∧ Below w.heap.size w w' := by
  obtain ⟨s, m⟩ := x
  have HB := Lib.hid (below_made w (.cells #[.string s, .int .i64 m] 67))
  go_enter Tryz.func129, Tryz.ntmps129
  go_wp2_with fail
  refine (compare_any _ _ _).mono ?_
  rintro e w' ⟨rfl, rfl⟩
  go_wp2_with fail
  go_ret
  exact ⟨rfl, HB.out⟩
end Go.Proofs.YtaklilhnikmmfaaGreat
