/-
  The leaves of rows and of its reference: ranges of numbers, lengths of texts, digits, values.
-/
import Derived.Test.YtahocamjihhjhaaCodeLeaf
import Derived.Test.YtahocamjihhjhaaRowsMath
namespace Go.Proofs.Ytahocamjihhjhaa
open Go.RowKit StrM VaryM CodeM RowsM

theorem cnt_cases (a n : Int) : (cnt a n = true ∧ a ≤ n ∧ n ≤ 1048576) ∨ (cnt a n = false ∧ n < a) ∨ (cnt a n = false ∧ a ≤ n ∧ 1048576 < n) := by
  unfold cnt; simp; omega
theorem siz_cases (n : Int) : (siz n = true ∧ 0 ≤ n ∧ n ≤ 1099511627776) ∨ (siz n = false ∧ n < 0) ∨ (siz n = false ∧ 0 ≤ n ∧ 1099511627776 < n) := by
  unfold siz; simp; omega

theorem isid_any (n : Int) (w : World) : Calls Try.prog 30 #[.int .i64 n] w fun e w' => e = .returned (.bool (cnt 1 n)) ∧ w = w' := by
  rcases cnt_cases 1 n with ⟨hb, h1, h2⟩ | ⟨hb, h1⟩ | ⟨hb, h1, h2⟩ <;> rw [hb] <;> clear hb
  · go_enter Try.func30, Try.ntmps30
    go_wp2_with fail
    go_ret
    exact ⟨rfl, rfl⟩
  · have d1 : decide ((1 : Int) ≤ n) = false := decide_eq_false (by omega)
    go_enter Try.func30, Try.ntmps30
    go_wp2_with fail
    go_ret
    exact ⟨rfl, rfl⟩
  · have d1 : decide (n ≤ (1048576 : Int)) = false := decide_eq_false (by omega)
    go_enter Try.func30, Try.ntmps30
    go_wp2_with fail
    go_ret
    exact ⟨rfl, rfl⟩
theorem iscnt_any (n : Int) (w : World) : Calls Try.prog 34 #[.int .i64 n] w fun e w' => e = .returned (.bool (cnt 0 n)) ∧ w = w' := by
  rcases cnt_cases 0 n with ⟨hb, h1, h2⟩ | ⟨hb, h1⟩ | ⟨hb, h1, h2⟩ <;> rw [hb] <;> clear hb
  · go_enter Try.func34, Try.ntmps34
    go_wp2_with fail
    go_ret
    exact ⟨rfl, rfl⟩
  · have d1 : decide ((0 : Int) ≤ n) = false := decide_eq_false (by omega)
    go_enter Try.func34, Try.ntmps34
    go_wp2_with fail
    go_ret
    exact ⟨rfl, rfl⟩
  · have d1 : decide (n ≤ (1048576 : Int)) = false := decide_eq_false (by omega)
    go_enter Try.func34, Try.ntmps34
    go_wp2_with fail
    go_ret
    exact ⟨rfl, rfl⟩
theorem rwis_any (n : Int) (w : World) : Calls Try.prog 33 #[.int .i64 n] w fun e w' => e = .returned (.bool (siz n)) ∧ w = w' := by
  rcases siz_cases n with ⟨hb, h1, h2⟩ | ⟨hb, h1⟩ | ⟨hb, h1, h2⟩ <;> rw [hb] <;> clear hb
  · go_enter Try.func33, Try.ntmps33
    go_wp2_with fail
    go_ret
    exact ⟨rfl, rfl⟩
  · have d1 : decide ((0 : Int) ≤ n) = false := decide_eq_false (by omega)
    go_enter Try.func33, Try.ntmps33
    go_wp2_with fail
    go_ret
    exact ⟨rfl, rfl⟩
  · have d1 : decide (n ≤ (1099511627776 : Int)) = false := decide_eq_false (by omega)
    go_enter Try.func33, Try.ntmps33
    go_wp2_with fail
    go_ret
    exact ⟨rfl, rfl⟩
theorem isunk_any (n : Int) (w : World) : Calls Try.prog 44 #[.int .i64 n] w fun e w' => e = .returned (.bool (unk n)) ∧ w = w' := by
  by_cases h : n = -1
  · subst h
    go_enter Try.func44, Try.ntmps44
    go_wp2_with fail
    go_ret
    exact ⟨rfl, rfl⟩
  · have d1 : (n == -1) = false := by simpa using h
    have HU := Lib.hid (show siz n = unk n by unfold unk; rw [d1]; rfl)
    have IS := Lib.hid (fun w => rwis_any n w)
    go_enter Try.func44, Try.ntmps44
    go_wp2_with fail
    refine (IS.out _).mono ?_
    rintro e w' ⟨rfl, rfl⟩
    go_wp2_with fail
    go_ret
    exact ⟨ret_bool HU.out, rfl⟩
theorem istxt_any (s : ByteArray) (w : World) : Calls Try.prog 32 #[.string s] w fun e w' => e = .returned (.bool (txt s)) ∧ w = w' := by
  unfold txt
  by_cases h : s.size ≤ 200
  · have d : (s.size : Int) ≤ 200 := by omega
    have HF := Lib.hid (show true = decide (s.size ≤ 200) by simp [h])
    clear h
    go_enter Try.func32, Try.ntmps32
    go_wp2_with fail
    go_ret
    exact ⟨ret_bool HF.out, rfl⟩
  · have d : decide ((s.size : Int) ≤ 200) = false := decide_eq_false (by omega)
    have HF := Lib.hid (show false = decide (s.size ≤ 200) by simp [h])
    clear h
    go_enter Try.func32, Try.ntmps32
    go_wp2_with fail
    go_ret
    exact ⟨ret_bool HF.out, rfl⟩
theorem isnam_any (s : ByteArray) (w : World) : Calls Try.prog 31 #[.string s] w fun e w' => e = .returned (.bool (nam s)) ∧ w = w' := by
  have IT := Lib.hid (fun w => istxt_any s w)
  by_cases h : s.size = 0
  · have d : s.toList.isEmpty = true := by rw [empty_size, h]; rfl
    have HF := Lib.hid (show false = nam s by simp [nam, h])
    clear h
    go_enter Try.func31, Try.ntmps31
    go_wp2_with fail
    go_ret
    exact ⟨ret_bool HF.out, rfl⟩
  · have d : s.toList.isEmpty = false := by rw [empty_size]; simpa using h
    have HF := Lib.hid (show txt s = nam s by
      unfold nam
      rw [show decide (1 ≤ s.size) = true by simp; omega]
      rfl)
    clear h
    go_enter Try.func31, Try.ntmps31
    go_wp2_with fail
    refine (IT.out _).mono ?_
    rintro e w' ⟨rfl, rfl⟩
    go_wp2_with fail
    go_ret
    exact ⟨ret_bool HF.out, rfl⟩
theorem isdig_any (c : UInt8) (w : World) : Calls Try.prog 47 #[.int .u8 (c.toNat : Int)] w fun e w' => e = .returned (.bool (hexB c)) ∧ w = w' := by
  obtain ⟨z, hz, h⟩ := hexB_cases c
  rw [← hz]
  clear hz
  rcases h with ⟨ho, h1, h2⟩ | ⟨ho, h1⟩ | ⟨ho, h1, h2, h3⟩ | ⟨ho, h1, h2, h3, h4⟩ | ⟨ho, h1, h2, h3, h4⟩ <;> rw [ho] <;> clear ho
  · go_enter Try.func47, Try.ntmps47
    go_wp2_with fail
    go_ret
    exact ⟨rfl, rfl⟩
  · have d1 : decide ((48 : Int) ≤ z) = false := decide_eq_false (by omega)
    have d2 : decide ((97 : Int) ≤ z) = false := decide_eq_false (by omega)
    go_enter Try.func47, Try.ntmps47
    go_wp2_with fail
    go_ret
    exact ⟨rfl, rfl⟩
  · have d1 : decide (z ≤ (57 : Int)) = false := decide_eq_false (by omega)
    have d2 : decide ((97 : Int) ≤ z) = false := decide_eq_false (by omega)
    go_enter Try.func47, Try.ntmps47
    go_wp2_with fail
    go_ret
    exact ⟨rfl, rfl⟩
  · have d1 : decide (z ≤ (57 : Int)) = false := decide_eq_false (by omega)
    go_enter Try.func47, Try.ntmps47
    go_wp2_with fail
    go_ret
    exact ⟨rfl, rfl⟩
  · have d1 : decide (z ≤ (57 : Int)) = false := decide_eq_false (by omega)
    have d2 : decide (z ≤ (102 : Int)) = false := decide_eq_false (by omega)
    go_enter Try.func47, Try.ntmps47
    go_wp2_with fail
    go_ret
    exact ⟨rfl, rfl⟩

set_option maxHeartbeats 1000000 in
theorem ishash_any (s : ByteArray) (w : World) : Calls Try.prog 46 #[.string s] w fun e w' => e = .returned (.bool (hashOk s)) ∧ w = w' := by
  obtain ⟨r, hr⟩ : ∃ r, r = hashOk s := ⟨_, rfl⟩
  rw [← hr]
  have HR := Lib.hid hr
  clear hr
  by_cases h : s.size = 64
  · have d : ((s.size : Nat) : Int) = 64 := by omega
    have HS := Lib.hid h
    have h2 : s.size ≤ 64 := by omega
    have d1 : ((s.size : Int) == 64) = true := by simp [d]
    clear h
    go_enter Try.func46, Try.ntmps46
    go_wp2_with fail
    go_loop [9] (fun i => ∃ k : Nat, k ≤ 64 ∧ i = .int .i64 k ∧ hexTo s k = true) (fun i => 64 - (intOf i).toNat)
    case atStart => exact ⟨0, Nat.zero_le _, rfl, hexTo_zero s⟩
    case round =>
      obtain ⟨k, hk, rfl, hd⟩ := hrel
      have HD := Lib.hid hd
      clear hd
      by_cases hlt : k < 64
      · have hks : k < s.size := by have := HS.out; omega
        have AL := Lib.hid (fun w => isdig_any s[k] w)
        cases hb : hexB s[k] with
        | false =>
          rw [hb] at AL
          have HX := Lib.hid (show false = r by rw [HR.out, hash_bad hks hb])
          clear hb
          go_wp2_with fail
          refine (AL.out _).mono ?_
          rintro e w' ⟨rfl, rfl⟩
          go_wp2_with fail
          go_ret
          exact ⟨ret_bool HX.out, rfl⟩
        | true =>
          rw [hb] at AL
          have HX := Lib.hid (show hexTo s (k + 1) = true from hexTo_next HD.out hks hb)
          clear hb
          go_wp2_with fail
          refine (AL.out _).mono ?_
          rintro e w' ⟨rfl, rfl⟩
          go_wp2_with fail
          go_round
          case rel => exact ⟨k + 1, by omega, by go_num, HX.out⟩
          case measure => simp [intOf]; omega
      · have HX := Lib.hid (show true = r by
          rw [HR.out, hash_good (by rw [HS.out, ← show k = 64 by omega]; exact HD.out), HS.out]; rfl)
        go_wp2_with fail
        go_ret
        exact ⟨ret_bool HX.out, rfl⟩
  · have d1 : ((s.size : Int) == 64) = false := by simp; omega
    have HX := Lib.hid (show false = r by rw [HR.out, hashOk]; simp [h])
    clear h
    go_enter Try.func46, Try.ntmps46
    go_wp2_with fail
    go_ret
    exact ⟨ret_bool HX.out, rfl⟩
theorem rwbit_any (b : Bool) (w : World) : Calls Try.prog 25 #[.bool b] w fun e w' => e = .returned (.int .i64 (bit b)) ∧ w = w' := by
  cases b
  · go_enter Try.func25, Try.ntmps25
    go_wp2_with fail
    go_ret
    exact ⟨rfl, rfl⟩
  · go_enter Try.func25, Try.ntmps25
    go_wp2_with fail
    go_ret
    exact ⟨rfl, rfl⟩

/-! The reference's. -/
theorem rcount_any (n a : Int) (w : World) : Calls Try.prog 26 #[.int .i64 n, .int .i64 a] w fun e w' => e = .returned (.bool (cnt a n)) ∧ w = w' := by
  rcases cnt_cases a n with ⟨hb, h1, h2⟩ | ⟨hb, h1⟩ | ⟨hb, h1, h2⟩ <;> rw [hb] <;> clear hb
  · go_enter Try.func26, Try.ntmps26
    go_wp2_with fail
    go_ret
    exact ⟨rfl, rfl⟩
  · have d1 : decide (a ≤ n) = false := decide_eq_false (by omega)
    go_enter Try.func26, Try.ntmps26
    go_wp2_with fail
    go_ret
    exact ⟨rfl, rfl⟩
  · have d1 : decide (n ≤ (1048576 : Int)) = false := decide_eq_false (by omega)
    go_enter Try.func26, Try.ntmps26
    go_wp2_with fail
    go_ret
    exact ⟨rfl, rfl⟩
theorem rsize_any (n : Int) (w : World) : Calls Try.prog 28 #[.int .i64 n] w fun e w' => e = .returned (.bool (siz n)) ∧ w = w' := by
  rcases siz_cases n with ⟨hb, h1, h2⟩ | ⟨hb, h1⟩ | ⟨hb, h1, h2⟩ <;> rw [hb] <;> clear hb
  · go_enter Try.func28, Try.ntmps28
    go_wp2_with fail
    go_ret
    exact ⟨rfl, rfl⟩
  · have d1 : decide ((0 : Int) ≤ n) = false := decide_eq_false (by omega)
    go_enter Try.func28, Try.ntmps28
    go_wp2_with fail
    go_ret
    exact ⟨rfl, rfl⟩
  · have d1 : decide (n ≤ (1099511627776 : Int)) = false := decide_eq_false (by omega)
    go_enter Try.func28, Try.ntmps28
    go_wp2_with fail
    go_ret
    exact ⟨rfl, rfl⟩
theorem rlong14_any (s : ByteArray) (a : Int) (w : World) : Calls Try.prog 27 #[.string s, .int .i64 a] w fun e w' => e = .returned (.bool (decide (a ≤ (s.size : Int)) && txt s)) ∧ w = w' := by
  unfold txt
  by_cases h0 : a ≤ (s.size : Int)
  · by_cases h : s.size ≤ 200
    · have d : (s.size : Int) ≤ 200 := by omega
      have HF := Lib.hid (show true = (decide (a ≤ (s.size : Int)) && decide (s.size ≤ 200)) by simp [h, h0])
      clear h
      go_enter Try.func27, Try.ntmps27
      go_wp2_with fail
      go_ret
      exact ⟨ret_bool HF.out, rfl⟩
    · have d : decide ((s.size : Int) ≤ 200) = false := decide_eq_false (by omega)
      have HF := Lib.hid (show false = (decide (a ≤ (s.size : Int)) && decide (s.size ≤ 200)) by simp [h])
      clear h
      go_enter Try.func27, Try.ntmps27
      go_wp2_with fail
      go_ret
      exact ⟨ret_bool HF.out, rfl⟩
  · have d : decide (a ≤ (s.size : Int)) = false := decide_eq_false h0
    have HF := Lib.hid (show false = (decide (a ≤ (s.size : Int)) && decide (s.size ≤ 200)) by simp [h0])
    clear h0
    go_enter Try.func27, Try.ntmps27
    go_wp2_with fail
    go_ret
    exact ⟨ret_bool HF.out, rfl⟩
theorem rnam_any (s : ByteArray) (w : World) : Calls Try.prog 27 #[.string s, .int .i64 1] w fun e w' => e = .returned (.bool (nam s)) ∧ w = w' := by
  refine (rlong14_any s 1 w).mono ?_
  rintro e w' ⟨rfl, rfl⟩
  refine ⟨ret_bool ?_, rfl⟩
  unfold nam
  rw [show decide ((1 : Int) ≤ (s.size : Int)) = decide (1 ≤ s.size) from decide_eq_decide.2 (by omega)]
theorem rtxt_any (s : ByteArray) (w : World) : Calls Try.prog 27 #[.string s, .int .i64 0] w fun e w' => e = .returned (.bool (txt s)) ∧ w = w' := by
  refine (rlong14_any s 0 w).mono ?_
  rintro e w' ⟨rfl, rfl⟩
  refine ⟨ret_bool ?_, rfl⟩
  rw [show decide ((0 : Int) ≤ (s.size : Int)) = true from decide_eq_true (by omega)]
  rfl

set_option maxHeartbeats 1000000 in
theorem rdigits_any (s : ByteArray) (w : World) (hs : s.size ≤ maxLen) : Calls Try.prog 29 #[.string s] w fun e w' => e = .returned (.bool (hashOk s)) ∧ w = w' := by
  unfold maxLen at hs
  obtain ⟨r, hr⟩ : ∃ r, r = hashOk s := ⟨_, rfl⟩
  rw [← hr]
  have HR := Lib.hid hr
  clear hr
  go_enter Try.func29, Try.ntmps29
  go_wp2_with fail
  go_loop [3] (fun i => ∃ k : Nat, k ≤ s.size ∧ i = .int .i64 k ∧ hexTo s k = true) (fun i => s.size - (intOf i).toNat)
  case atStart => exact ⟨0, Nat.zero_le _, rfl, hexTo_zero s⟩
  case round =>
    obtain ⟨k, hk, rfl, hd⟩ := hrel
    have HD := Lib.hid hd
    clear hd
    by_cases hlt : k < s.size
    · obtain ⟨z, hz, h⟩ := hexB_cases s[k]
      have hcell : ((s[k].toNat : Nat) : Int) = z := hz.symm
      have HB := Lib.hid (show hexB s[k] = false → false = r from fun hb => by rw [HR.out, hash_bad hlt hb])
      have HG := Lib.hid (show hexB s[k] = true → hexTo s (k + 1) = true from fun hb => hexTo_next HD.out hlt hb)
      clear hz
      rcases h with ⟨ho, h1, h2⟩ | ⟨ho, h1⟩ | ⟨ho, h1, h2, h3⟩ | ⟨ho, h1, h2, h3, h4⟩ | ⟨ho, h1, h2, h3, h4⟩
      · have HX := Lib.hid (HG.out ho)
        clear ho HB HG
        go_wp2_with fail
        go_round
        case rel => exact ⟨k + 1, by omega, by go_num, HX.out⟩
        case measure => simp [intOf]; omega
      · have HX := Lib.hid (HB.out ho)
        have d1 : decide ((48 : Int) ≤ z) = false := decide_eq_false (by omega)
        have d2 : decide ((97 : Int) ≤ z) = false := decide_eq_false (by omega)
        clear ho HB HG
        go_wp2_with fail
        go_ret
        exact ⟨ret_bool HX.out, rfl⟩
      · have HX := Lib.hid (HB.out ho)
        have d1 : decide (z ≤ (57 : Int)) = false := decide_eq_false (by omega)
        have d2 : decide ((97 : Int) ≤ z) = false := decide_eq_false (by omega)
        clear ho HB HG
        go_wp2_with fail
        go_ret
        exact ⟨ret_bool HX.out, rfl⟩
      · have HX := Lib.hid (HG.out ho)
        have d1 : decide (z ≤ (57 : Int)) = false := decide_eq_false (by omega)
        clear ho HB HG
        go_wp2_with fail
        go_round
        case rel => exact ⟨k + 1, by omega, by go_num, HX.out⟩
        case measure => simp [intOf]; omega
      · have HX := Lib.hid (HB.out ho)
        have d1 : decide (z ≤ (57 : Int)) = false := decide_eq_false (by omega)
        have d2 : decide (z ≤ (102 : Int)) = false := decide_eq_false (by omega)
        clear ho HB HG
        go_wp2_with fail
        go_ret
        exact ⟨ret_bool HX.out, rfl⟩
    · have HX := Lib.hid (show (s.size == 64) = r by
        rw [HR.out, hash_good (by rw [← show k = s.size by omega]; exact HD.out)])
      by_cases h1 : s.size = 64
      · have d1 : ((s.size : Int) == 64) = true := by simp; omega
        have HY := Lib.hid (show true = r by rw [← HX.out, h1]; rfl)
        clear h1
        go_wp2_with fail
        go_ret
        exact ⟨ret_bool HY.out, rfl⟩
      · have d1 : ((s.size : Int) == 64) = false := by simp; omega
        have HY := Lib.hid (show false = r by rw [← HX.out]; simp [h1])
        clear h1
        go_wp2_with fail
        go_ret
        exact ⟨ret_bool HY.out, rfl⟩
theorem i20_cases (n : Int) : (i20 n = -7 ∧ n < 0) ∨ (i20 n = -7 ∧ 0 ≤ n ∧ 1048576 < n) ∨ (i20 n = n ∧ 0 ≤ n ∧ n ≤ 1048576) := by
  unfold i20
  split <;> omega
theorem ri20_any (n : Int) (w : World) : Calls Try.prog 42 #[.int .i64 n] w fun e w' => e = .returned (.int .i64 (i20 n)) ∧ w = w' := by
  rcases i20_cases n with ⟨hb, h1⟩ | ⟨hb, h1, h2⟩ | ⟨hb, h1, h2⟩ <;> rw [hb] <;> clear hb
  · go_enter Try.func42, Try.ntmps42
    go_wp2_with fail
    go_ret
    exact ⟨rfl, rfl⟩
  · have d1 : decide (n < 0) = false := decide_eq_false (by omega)
    go_enter Try.func42, Try.ntmps42
    go_wp2_with fail
    go_ret
    exact ⟨rfl, rfl⟩
  · have d1 : decide (n < 0) = false := decide_eq_false (by omega)
    have d2 : decide ((1048576 : Int) < n) = false := decide_eq_false (by omega)
    go_enter Try.func42, Try.ntmps42
    go_wp2_with fail
    go_ret
    exact ⟨rfl, rfl⟩
/-- A value that a call makes: new memory alone. -/
theorem num_b (n : Int) (w : World) : Calls Try.prog 24 #[.int .i64 n] w fun e w' => e = .returned (.agg #[.int .i64 1, .int .i64 n, .string ⟨#[]⟩]) ∧ Below w.heap.size w w' := by
  refine (num_any n w).mono ?_
  rintro e w' ⟨rfl, rfl⟩
  exact ⟨rfl, below_made w _⟩
theorem text_b (s : ByteArray) (w : World) : Calls Try.prog 23 #[.string s] w fun e w' => e = .returned (.agg #[.int .i64 2, .int .i64 0, .string s]) ∧ Below w.heap.size w w' := by
  refine (text_any s w).mono ?_
  rintro e w' ⟨rfl, rfl⟩
  exact ⟨rfl, below_made w _⟩
theorem rn_b (n : Int) (w : World) : Calls Try.prog 39 #[.int .i64 n] w fun e w' => e = .returned (.agg #[.int .i64 1, .int .i64 n, .string ⟨#[]⟩]) ∧ Below w.heap.size w w' := by
  go_enter Try.func39, Try.ntmps39
  go_wp2_with fail
  exact bodyPost_ret (by simp [results, Try.results39, go_sem]) rfl ⟨rfl, below_made w _⟩
theorem rt_b (s : ByteArray) (w : World) : Calls Try.prog 38 #[.string s] w fun e w' => e = .returned (.agg #[.int .i64 2, .int .i64 0, .string s]) ∧ Below w.heap.size w w' := by
  go_enter Try.func38, Try.ntmps38
  go_wp2_with fail
  exact bodyPost_ret (by simp [results, Try.results38, go_sem]) rfl ⟨rfl, below_made w _⟩
end Go.Proofs.Ytahocamjihhjhaa
