/-
  The walks of strings.IndexByte, text.tokenByte, text.Token, text.Plain and of the reference's In, Token, Plain.
-/
import Derived.Test.YtpcepkdnclbndaaStrRow
import Derived.Laws.StandIn
namespace Go.Proofs.Ytpcepkdnclbndaa
open Go.RowKit StrM

def idxV (s : ByteArray) (c : UInt8) : Int := Lib.indexByte s.data.toList c

theorem idx_run (s : ByteArray) (c : UInt8) (w : World) :
    (callFunc 27 #[.string s, .int .u8 (c.toNat : Int)]).run Try.prog w = .ok (.value (.int .i64 (idxV s c))) w := by
  rw [run_callFunc_indexByte Try.func27 (by kernel_rfl) (by kernel_rfl) (by kernel_rfl) (by kernel_rfl), Lib.run_indexByteString]
  simp [Result.andThen, idxV]

theorem idx_slite (s : ByteArray) (c : UInt8) (w : World) :
    Calls Try.prog 26 #[.string s, .int .u8 (c.toNat : Int)] w fun e w' => e = .returned (.int .i64 (idxV s c)) ∧ w = w' := by
  have hr := idx_run s c
  go_enter Try.func26, Try.ntmps26
  go_wp2_with fail
  go_ret
  exact ⟨rfl, rfl⟩

theorem idx_any (s : ByteArray) (c : UInt8) (w : World) :
    Calls Try.prog 25 #[.string s, .int .u8 (c.toNat : Int)] w fun e w' => e = .returned (.int .i64 (idxV s c)) ∧ w = w' := by
  go_enter Try.func25, Try.ntmps25
  go_wp2_with fail
  refine (idx_slite _ _ _).mono ?_
  rintro e w' ⟨rfl, rfl⟩
  go_wp2_with fail
  go_ret
  exact ⟨rfl, rfl⟩

theorem idx_yes {s : ByteArray} {c : UInt8} (h : inB s.data.toList c = true) : idxV s c = (fst c s.data.toList : Int) := by
  have h' : fst c s.data.toList < s.data.toList.length := by simpa [inB] using h
  rw [idxV, indexByte_fst, if_pos h']
theorem idx_no {s : ByteArray} {c : UInt8} (h : inB s.data.toList c = false) : idxV s c = -1 := by
  have h' : ¬ fst c s.data.toList < s.data.toList.length := by simpa [inB] using h
  rw [idxV, indexByte_fst, if_neg h']

def signsS : ByteArray := ⟨#[33, 35, 36, 37, 38, 39, 42, 43, 45, 46, 94, 95, 124, 126, 96]⟩

set_option maxHeartbeats 1000000 in
theorem tok_any (c : UInt8) (w : World) :
    Calls Try.prog 24 #[.int .u8 (c.toNat : Int)] w fun e w' => e = .returned (.bool (tokB c)) ∧ w = w' := by
  cases hl : letB c
  · have hr : ((c.toNat : Int) < 48 ∨ 57 < (c.toNat : Int)) ∧ ((c.toNat : Int) < 65 ∨ 90 < (c.toNat : Int)) ∧ ((c.toNat : Int) < 97 ∨ 122 < (c.toNat : Int)) := by
      simp [letB, upB] at hl; omega
    have hc : ((c.toNat : Int) < 48 ∧ (c.toNat : Int) < 65 ∧ (c.toNat : Int) < 97) ∨ (48 ≤ (c.toNat : Int) ∧ 57 < (c.toNat : Int) ∧ (c.toNat : Int) < 65 ∧ (c.toNat : Int) < 97) ∨
        (48 ≤ (c.toNat : Int) ∧ 57 < (c.toNat : Int) ∧ 65 ≤ (c.toNat : Int) ∧ 90 < (c.toNat : Int) ∧ (c.toNat : Int) < 97) ∨ (48 ≤ (c.toNat : Int) ∧ 57 < (c.toNat : Int) ∧ 65 ≤ (c.toNat : Int) ∧ 90 < (c.toNat : Int) ∧ 97 ≤ (c.toNat : Int) ∧ 122 < (c.toNat : Int)) := by omega
    have hi := idx_any signsS c
    have ht : tokB c = inB signs c := by simp [tokB, hl]
    rw [ht]
    clear hl hr ht
    cases hb : inB signs c
    · have hz : idxV signsS c = -1 := idx_no hb
      simp only [hz] at hi
      have HI := Lib.hid hi
      clear hz hb hi
      rcases hc with ⟨h1, h2, h3⟩ | ⟨h1, h2, h3, h4⟩ | ⟨h1, h2, h3, h4, h5⟩ | ⟨h1, h2, h3, h4, h5, h6⟩
      all_goals
        try (have d1 : decide ((c.toNat : Int) ≤ 57) = false := by simp; omega)
        try (have d2 : decide ((c.toNat : Int) ≤ 90) = false := by simp; omega)
        try (have d3 : decide ((c.toNat : Int) ≤ 122) = false := by simp; omega)
        go_enter Try.func24, Try.ntmps24
        go_wp2_with fail
        refine (HI.out _).mono ?_
        rintro e w' ⟨rfl, rfl⟩
        go_wp2_with fail
        go_ret
        exact ⟨rfl, rfl⟩
    · have hz : idxV signsS c = (fst c signs : Int) := idx_yes hb
      simp only [hz] at hi
      clear hz hb
      generalize fst c signs = k at *
      have HI := Lib.hid hi
      clear hi
      rcases hc with ⟨h1, h2, h3⟩ | ⟨h1, h2, h3, h4⟩ | ⟨h1, h2, h3, h4, h5⟩ | ⟨h1, h2, h3, h4, h5, h6⟩
      all_goals
        try (have d1 : decide ((c.toNat : Int) ≤ 57) = false := by simp; omega)
        try (have d2 : decide ((c.toNat : Int) ≤ 90) = false := by simp; omega)
        try (have d3 : decide ((c.toNat : Int) ≤ 122) = false := by simp; omega)
        go_enter Try.func24, Try.ntmps24
        go_wp2_with fail
        refine (HI.out _).mono ?_
        rintro e w' ⟨rfl, rfl⟩
        go_wp2_with fail
        go_ret
        exact ⟨rfl, rfl⟩
  · have ht : tokB c = true := by simp [tokB, hl]
    rw [ht]
    have hc : (48 ≤ (c.toNat : Int) ∧ (c.toNat : Int) ≤ 57) ∨ (65 ≤ (c.toNat : Int) ∧ (c.toNat : Int) ≤ 90) ∨ (97 ≤ (c.toNat : Int) ∧ (c.toNat : Int) ≤ 122) := by
      simp [letB, upB] at hl; omega
    clear hl ht
    rcases hc with ⟨h1, h2⟩ | ⟨h1, h2⟩ | ⟨h1, h2⟩
    all_goals
      go_enter Try.func24, Try.ntmps24
      go_wp2_with fail
      go_ret
      exact ⟨rfl, rfl⟩

theorem fst_at {s : ByteArray} {c : UInt8} {k : Nat} (hk : k < s.size) (h : k ≤ fst c s.data.toList) :
    ((s[k] == c) = true → fst c s.data.toList = k) ∧ ((s[k] == c) = false → k + 1 ≤ fst c s.data.toList) := by
  have e := fst_drop c s.data.toList k h
  rw [drop_byte s k hk] at e
  constructor
  · intro hb; rw [fst_yes hb] at e; omega
  · intro hb; rw [fst_no hb] at e; omega

set_option maxHeartbeats 1000000 in
theorem in_any (s : ByteArray) (c : UInt8) (w : World) (hs : s.size ≤ maxLen) :
    Calls Try.prog 21 #[.string s, .int .u8 (c.toNat : Int)] w fun e w' => e = .returned (.bool (inB s.data.toList c)) ∧ w = w' := by
  unfold maxLen at hs
  obtain ⟨z, hz⟩ : ∃ z : Int, z = (c.toNat : Int) := ⟨_, rfl⟩
  rw [← hz]
  have HZ := Lib.hid hz
  clear hz
  go_enter Try.func21, Try.ntmps21
  go_wp2_with fail
  go_loop [5] (fun i => ∃ k : Nat, k ≤ s.size ∧ i = .int .i64 k ∧ k ≤ fst c s.data.toList) (fun i => s.size - (intOf i).toNat)
  case atStart => exact ⟨0, Nat.zero_le _, rfl, Nat.zero_le _⟩
  case round =>
    obtain ⟨k, hk, rfl, hf⟩ := hrel
    by_cases hlt : k < s.size
    · obtain ⟨f1, f2⟩ := fst_at hlt hf
      cases hb : (s[k] == c)
      · have F := Lib.hid (f2 hb)
        have hb' : ((s[k].toNat : Int) == z) = false := by rw [HZ.out, ← byte_beq]; exact hb
        clear f1 f2 hb hf
        go_wp2_with fail
        go_round
        case rel => exact ⟨k + 1, by omega, by go_num, F.out⟩
        case measure => simp [intOf]; omega
      · have F := Lib.hid (f1 hb)
        have hb' : ((s[k].toNat : Int) == z) = true := by rw [HZ.out, ← byte_beq]; exact hb
        clear f1 f2 hb hf
        go_wp2_with fail
        go_ret
        exact ⟨ret_bool (by rw [inB, F.out]; simp [hlt]), rfl⟩
    · have HF := Lib.hid (show ¬ fst c s.data.toList < s.size by omega)
      clear hf
      go_wp2_with fail
      go_ret
      exact ⟨ret_bool (by rw [inB, length_bytes]; simpa using HF.out), rfl⟩

def bigS : ByteArray := ⟨#[65, 66, 67, 68, 69, 70, 71, 72, 73, 74, 75, 76, 77, 78, 79, 80, 81, 82, 83, 84, 85, 86, 87, 88, 89, 90, 97, 98, 99, 100, 101, 102, 103, 104, 105, 106, 107, 108, 109, 110, 111, 112, 113, 114, 115, 116, 117, 118, 119, 120, 121, 122, 48, 49, 50, 51, 52, 53, 54, 55, 56, 57, 33, 35, 36, 37, 38, 39, 42, 43, 45, 46, 94, 95, 124, 126, 96]⟩
theorem big_all : ∀ n, n < 256 → inB bigS.data.toList (UInt8.ofNat n) = tokB (UInt8.ofNat n) := by decide +kernel
theorem big_tok (c : UInt8) : inB bigS.data.toList c = tokB c := by
  have := big_all c.toNat c.toNat_lt
  simpa using this

theorem bin_any (c : UInt8) (w : World) :
    Calls Try.prog 21 #[.string bigS, .int .u8 (c.toNat : Int)] w fun e w' => e = .returned (.bool (tokB c)) ∧ w = w' := by
  rw [← big_tok]
  exact in_any bigS c w (by decide +kernel)

def allTok (l : List UInt8) : Bool := l.all tokB
theorem allTok_cons (c : UInt8) (l : List UInt8) : allTok (c :: l) = (tokB c && allTok l) := rfl

theorem tokensL_nil (s : ByteArray) (h : s.size = 0) : tokensL s.data.toList = false := by
  rw [List.length_eq_zero_iff.1 (by rw [length_bytes]; omega : s.data.toList.length = 0)]; rfl
theorem empty_no (s : ByteArray) (h : 0 < s.size) : s.toList.isEmpty = false ∧ ¬ s.toList = [] := by
  rw [ByteArray.toList_eq]
  have : s.data.toList ≠ [] := by
    intro hc
    have := length_bytes s
    rw [hc] at this; simp at this; omega
  exact ⟨by simpa using this, this⟩
theorem empty_yes (s : ByteArray) (h : s.size = 0) : s.toList.isEmpty = true ∧ s.toList = [] := by
  rw [ByteArray.toList_eq, List.length_eq_zero_iff.1 (by rw [length_bytes]; omega : s.data.toList.length = 0)]; exact ⟨rfl, rfl⟩
theorem tokensL_pos {s : ByteArray} (h : 0 < s.size) : tokensL s.data.toList = allTok s.data.toList := by
  have := (empty_no s h).1
  rw [ByteArray.toList_eq] at this
  rw [tokensL, this, allTok]; simp

set_option maxHeartbeats 1000000 in
theorem token_nil (s : ByteArray) (w : World) (h0 : s.size = 0) :
    Calls Try.prog 12 #[.string s] w fun e w' => e = .returned (.bool false) ∧ w = w' := by
  have h1 := (empty_yes s h0).1
  have h2 := (empty_yes s h0).2
  go_enter Try.func12, Try.ntmps12
  go_wp2_with fail
  go_loop [6] (fun i => i = .int .i64 0) (fun _ => 0)
  case atStart => rfl
  case round =>
    obtain rfl := hrel
    go_wp2_with fail
    go_ret
    exact ⟨rfl, rfl⟩

set_option maxHeartbeats 1000000 in
theorem token_some (s : ByteArray) (w : World) (hs : s.size ≤ maxLen) (h0 : 0 < s.size) :
    Calls Try.prog 12 #[.string s] w fun e w' => e = .returned (.bool (tokensL s.data.toList)) ∧ w = w' := by
  unfold maxLen at hs
  obtain ⟨h1, h2⟩ := empty_no s h0
  rw [tokensL_pos h0]
  go_enter Try.func12, Try.ntmps12
  go_wp2_with fail
  go_loop [6] (fun i => ∃ k : Nat, k ≤ s.size ∧ i = .int .i64 k ∧ allTok (s.data.toList.drop k) = allTok s.data.toList) (fun i => s.size - (intOf i).toNat)
  case atStart => exact ⟨0, Nat.zero_le _, rfl, rfl⟩
  case round =>
    obtain ⟨k, hk, rfl, hd⟩ := hrel
    have HD := Lib.hid hd
    clear hd
    by_cases hlt : k < s.size
    · cases hb : tokB s[k]
      · have HF := Lib.hid (show allTok s.data.toList = false by rw [← HD.out, drop_byte s k hlt, allTok_cons, hb]; rfl)
        have HB := Lib.hid hb
        clear hb
        go_wp2_with fail
        refine (tok_any _ _).mono ?_
        rw [HB.out]
        rintro e w' ⟨rfl, rfl⟩
        go_wp2_with fail
        go_ret
        exact ⟨ret_bool HF.out.symm, rfl⟩
      · have HF := Lib.hid (show allTok (s.data.toList.drop (k + 1)) = allTok s.data.toList by rw [← HD.out, drop_byte s k hlt, allTok_cons, hb, Bool.true_and])
        have HB := Lib.hid hb
        clear hb
        go_wp2_with fail
        refine (tok_any _ _).mono ?_
        rw [HB.out]
        rintro e w' ⟨rfl, rfl⟩
        go_wp2_with fail
        go_round
        case rel => exact ⟨k + 1, by omega, by go_num, HF.out⟩
        case measure => simp [intOf]; omega
    · have HF := Lib.hid (show allTok s.data.toList = true by rw [← HD.out, List.drop_of_length_le (by rw [length_bytes]; omega)]; rfl)
      go_wp2_with fail
      go_ret
      exact ⟨ret_bool HF.out.symm, rfl⟩

theorem token_any (s : ByteArray) (w : World) (hs : s.size ≤ maxLen) :
    Calls Try.prog 12 #[.string s] w fun e w' => e = .returned (.bool (tokensL s.data.toList)) ∧ w = w' := by
  by_cases h : 0 < s.size
  · exact token_some s w hs h
  · rw [tokensL_nil s (by omega)]; exact token_nil s w (by omega)

theorem tokensL_len (s : ByteArray) : tokensL s.data.toList = (allTok s.data.toList && decide (0 < s.size)) := by
  by_cases h : 0 < s.size
  · rw [tokensL_pos h]; simp [h]
  · rw [tokensL_nil s (by omega)]; simp [h]

set_option maxHeartbeats 1000000 in
theorem rtoken_any (s : ByteArray) (w : World) (hs : s.size ≤ maxLen) :
    Calls Try.prog 13 #[.string s] w fun e w' => e = .returned (.bool (tokensL s.data.toList)) ∧ w = w' := by
  unfold maxLen at hs
  rw [tokensL_len]
  go_enter Try.func13, Try.ntmps13
  go_wp2_with fail
  go_loop [3] (fun i => ∃ k : Nat, k ≤ s.size ∧ i = .int .i64 k ∧ allTok (s.data.toList.drop k) = allTok s.data.toList) (fun i => s.size - (intOf i).toNat)
  case atStart => exact ⟨0, Nat.zero_le _, rfl, rfl⟩
  case round =>
    obtain ⟨k, hk, rfl, hd⟩ := hrel
    have HD := Lib.hid hd
    clear hd
    by_cases hlt : k < s.size
    · cases hb : tokB s[k]
      · have HF := Lib.hid (show allTok s.data.toList = false by rw [← HD.out, drop_byte s k hlt, allTok_cons, hb]; rfl)
        have HB := Lib.hid hb
        clear hb
        go_wp2_with fail
        refine (bin_any _ _).mono ?_
        rw [HB.out]
        rintro e w' ⟨rfl, rfl⟩
        go_wp2_with fail
        go_ret
        exact ⟨ret_bool (by rw [HF.out]; rfl), rfl⟩
      · have HF := Lib.hid (show allTok (s.data.toList.drop (k + 1)) = allTok s.data.toList by rw [← HD.out, drop_byte s k hlt, allTok_cons, hb, Bool.true_and])
        have HB := Lib.hid hb
        clear hb
        go_wp2_with fail
        refine (bin_any _ _).mono ?_
        rw [HB.out]
        rintro e w' ⟨rfl, rfl⟩
        go_wp2_with fail
        go_round
        case rel => exact ⟨k + 1, by omega, by go_num, HF.out⟩
        case measure => simp [intOf]; omega
    · have HF := Lib.hid (show allTok s.data.toList = true by rw [← HD.out, List.drop_of_length_le (by rw [length_bytes]; omega)]; rfl)
      go_wp2_with fail
      go_ret
      exact ⟨ret_bool (by rw [HF.out]; simp), rfl⟩

set_option maxHeartbeats 1000000 in
theorem plain_any (s : ByteArray) (w : World) (hs : s.size ≤ maxLen) :
    Calls Try.prog 14 #[.string s] w fun e w' => e = .returned (.bool (plainL s.data.toList)) ∧ w = w' := by
  unfold maxLen at hs
  go_enter Try.func14, Try.ntmps14
  go_wp2_with fail
  go_loop [6] (fun i => ∃ k : Nat, k ≤ s.size ∧ i = .int .i64 k ∧ plainL (s.data.toList.drop k) = plainL s.data.toList) (fun i => s.size - (intOf i).toNat)
  case atStart => exact ⟨0, Nat.zero_le _, rfl, rfl⟩
  case round =>
    obtain ⟨k, hk, rfl, hd⟩ := hrel
    have HD := Lib.hid hd
    clear hd
    by_cases hlt : k < s.size
    · cases hb : plainB s[k]
      · have HF := Lib.hid (show plainL s.data.toList = false by rw [← HD.out, drop_byte s k hlt, plainL, List.all_cons, hb]; rfl)
        have hbb := plainB_false hb
        clear hb
        rcases hbb with hbb | hbb
        · have hb1 : (s[k].toNat : Int) < 32 := by omega
          clear hbb
          go_wp2_with fail
          go_ret
          exact ⟨ret_bool HF.out.symm, rfl⟩
        · have hb1 : decide ((s[k].toNat : Int) < 32) = false := by simp; omega
          have hb2 : 126 < (s[k].toNat : Int) := by omega
          clear hbb
          go_wp2_with fail
          go_ret
          exact ⟨ret_bool HF.out.symm, rfl⟩
      · have HF := Lib.hid (show plainL (s.data.toList.drop (k + 1)) = plainL s.data.toList by rw [← HD.out, drop_byte s k hlt, plainL, plainL, List.all_cons, hb, Bool.true_and])
        have hbb := plainB_true hb
        clear hb
        have hb1 : decide ((s[k].toNat : Int) < 32) = false := by simp; omega
        have hb2 : decide (126 < (s[k].toNat : Int)) = false := by simp; omega
        clear hbb
        go_wp2_with fail
        go_round
        case rel => exact ⟨k + 1, by omega, by go_num, HF.out⟩
        case measure => simp [intOf]; omega
    · have HF := Lib.hid (show plainL s.data.toList = true by rw [← HD.out, List.drop_of_length_le (by rw [length_bytes]; omega)]; rfl)
      go_wp2_with fail
      go_ret
      exact ⟨ret_bool HF.out.symm, rfl⟩

set_option maxHeartbeats 1000000 in
theorem rplain_any (s : ByteArray) (w : World) (hs : s.size ≤ maxLen) :
    Calls Try.prog 15 #[.string s] w fun e w' => e = .returned (.bool (plainL s.data.toList)) ∧ w = w' := by
  unfold maxLen at hs
  go_enter Try.func15, Try.ntmps15
  go_wp2_with fail
  go_loop [3] (fun i => ∃ k : Nat, k ≤ s.size ∧ i = .int .i64 k ∧ plainL (s.data.toList.drop k) = plainL s.data.toList) (fun i => s.size - (intOf i).toNat)
  case atStart => exact ⟨0, Nat.zero_le _, rfl, rfl⟩
  case round =>
    obtain ⟨k, hk, rfl, hd⟩ := hrel
    have HD := Lib.hid hd
    clear hd
    by_cases hlt : k < s.size
    · cases hb : plainB s[k]
      · have HF := Lib.hid (show plainL s.data.toList = false by rw [← HD.out, drop_byte s k hlt, plainL, List.all_cons, hb]; rfl)
        have hbb := plainB_false hb
        clear hb
        rcases hbb with hbb | hbb
        · have hb1 : (s[k].toNat : Int) < 32 := by omega
          clear hbb
          go_wp2_with fail
          go_ret
          exact ⟨ret_bool HF.out.symm, rfl⟩
        · have hb1 : decide ((s[k].toNat : Int) < 32) = false := by simp; omega
          have hb2 : 126 < (s[k].toNat : Int) := by omega
          clear hbb
          go_wp2_with fail
          go_ret
          exact ⟨ret_bool HF.out.symm, rfl⟩
      · have HF := Lib.hid (show plainL (s.data.toList.drop (k + 1)) = plainL s.data.toList by rw [← HD.out, drop_byte s k hlt, plainL, plainL, List.all_cons, hb, Bool.true_and])
        have hbb := plainB_true hb
        clear hb
        have hb1 : decide ((s[k].toNat : Int) < 32) = false := by simp; omega
        have hb2 : decide (126 < (s[k].toNat : Int)) = false := by simp; omega
        clear hbb
        go_wp2_with fail
        go_round
        case rel => exact ⟨k + 1, by omega, by go_num, HF.out⟩
        case measure => simp [intOf]; omega
    · have HF := Lib.hid (show plainL s.data.toList = true by rw [← HD.out, List.drop_of_length_le (by rw [length_bytes]; omega)]; rfl)
      go_wp2_with fail
      go_ret
      exact ⟨ret_bool HF.out.symm, rfl⟩
end Go.Proofs.Ytpcepkdnclbndaa
