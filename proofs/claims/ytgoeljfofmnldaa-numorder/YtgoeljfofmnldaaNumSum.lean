/-
  The walks of num.Sum and of the reference's Sum: both return the sum of the list that the slice holds, if it is one.
-/
import Derived.Test.YtgoeljfofmnldaaNumLeaf
import Derived.Lib.Hide
namespace Go.Proofs.Ytgoeljfofmnldaa
open Go.RowKit NumM

/-- What a walk is told of a slice of int64 that is read: its elements are the list l. -/
def Sees (w : World) (a : Option Addr) (len : Nat) (l : List Int) : Prop :=
  l.length = len ∧ len ≤ 9223372036854775807 ∧ (len = 0 ∨ ∃ b off, a = some ⟨b, off, none⟩ ∧ ∀ k, k < len → w.cell? ⟨b, off + k, none⟩ = some (.int .i64 (l.getD k 0)))

theorem drop_getD (l : List Int) (k : Nat) (h : k < l.length) : l.drop k = l.getD k 0 :: l.drop (k + 1) := by
  rw [List.drop_eq_getElem_cons h]; simp [List.getD, h]

theorem ret2 {v v' : Int} {b b' : Bool} (h : v = v') (g : b = b') : Ending.returned (.tuple #[.int .i64 v, .bool b]) = .returned (.tuple #[.int .i64 v', .bool b']) := by rw [h, g]

set_option maxHeartbeats 400000 in
theorem sum_nil (a : Option Addr) (cap : Nat) (w : World) :
    Calls Try.prog 9 #[.slice a 0 cap] w fun e w' => e = .returned (.tuple #[.int .i64 0, .bool true]) ∧ w = w' := by
  go_enter Try.func9, Try.ntmps9
  go_wp2
  go_loop [4, 11] (fun t i => t = .int .i64 0 ∧ i = .int .i64 0) (fun _ _ => 0)
  case atStart => exact ⟨rfl, rfl⟩
  case round =>
    obtain ⟨rfl, rfl⟩ := hrel
    go_wp2
    go_ret2
    exact ⟨rfl, rfl⟩

set_option maxHeartbeats 1000000 in
theorem sum_some (b off len cap : Nat) (l : List Int) (w : World) (hl : l.length = len) (hm : len ≤ 9223372036854775807)
    (hc : ∀ k, k < len → w.cell? ⟨b, off + k, none⟩ = some (.int .i64 (l.getD k 0))) :
    Calls Try.prog 9 #[.slice (some ⟨b, off, none⟩) len cap] w fun e w' => e = .returned (.tuple #[.int .i64 (sumV l), .bool (sumB l)]) ∧ w = w' := by
  have HL := Lib.hid hl
  have HC := Lib.hid hc
  clear hl hc
  go_enter Try.func9, Try.ntmps9
  go_wp2
  go_loop [4, 11] (fun t i => ∃ (k : Nat) (s : Int), k ≤ len ∧ i = .int .i64 k ∧ t = .int .i64 s ∧ isB s = true ∧ sumAcc s (l.drop k) = sumAcc 0 l) (fun _ i => len - (intOf i).toNat)
  case atStart => exact ⟨0, 0, Nat.zero_le _, rfl, rfl, isB_zero, rfl⟩
  case round =>
    obtain ⟨k, s, hk, rfl, rfl, hs, hacc⟩ := hrel
    have HS := Lib.hid hs
    have HA := Lib.hid hacc
    clear hs hacc
    by_cases hlt : k < len
    · have hcell := HC.out k hlt
      by_cases hp : plusB s (l.getD k 0) = true
      · have hh := plusB_true hp
        have e1 : sumAcc (s + l.getD k 0) (l.drop (k + 1)) = sumAcc 0 l := by
          rw [← HA.out, drop_getD l k (by rw [HL.out]; exact hlt), sumAcc_yes _ hp]
        have E1 := Lib.hid e1
        have E2 := Lib.hid hh.2.2
        have b1 := isB_true hh.1
        have b2 := isB_true hh.2.1
        have b3 := isB_true hh.2.2
        clear hp hh e1
        generalize l.getD k 0 = z at *
        obtain ⟨b11, b12⟩ := b1
        obtain ⟨b21, b22⟩ := b2
        obtain ⟨b31, b32⟩ := b3
        go_wp2_with (go_at_call 7; refine (plus_yes _ _ _ (by omega) (by omega) (by omega) (by omega) (by omega)).mono ?_; rintro e w' ⟨rfl, rfl⟩)
        go_round
        case rel => exact ⟨k + 1, _, by omega, by go_num, rfl, E2.out, E1.out⟩
        case measure => simp [intOf]; omega
      · have hp' : plusB s (l.getD k 0) = false := by simpa using hp
        have e1 : sumAcc 0 l = none := by
          rw [← HA.out, drop_getD l k (by rw [HL.out]; exact hlt), sumAcc_no _ hp']
        have E1 := Lib.hid e1
        have HP := Lib.hid hp'
        clear hp hp' e1
        generalize l.getD k 0 = z at *
        go_wp2_with (go_at_call 7; refine (plus_any _ _ _).mono ?_; rw [HP.out, show plusV s z = 0 from by simp [plusV, HP.out]]; rintro e w' ⟨rfl, rfl⟩)
        go_ret2
        exact ⟨ret2 (by simp [sumV, E1.out]) (by simp [sumB, E1.out]), rfl⟩
    · have e1 : sumAcc 0 l = some s := by
        rw [← HA.out, List.drop_of_length_le (by rw [HL.out]; omega)]; rfl
      have E1 := Lib.hid e1
      clear e1
      go_wp2
      go_ret2
      exact ⟨ret2 (by simp [sumV, E1.out]) (by simp [sumB, E1.out]), rfl⟩

theorem sum_any (a : Option Addr) (len cap : Nat) (l : List Int) (w : World) (hs : Sees w a len l) :
    Calls Try.prog 9 #[.slice a len cap] w fun e w' => e = .returned (.tuple #[.int .i64 (sumV l), .bool (sumB l)]) ∧ w = w' := by
  obtain ⟨hl, hm, h0 | ⟨b, off, rfl, hc⟩⟩ := hs
  · subst h0
    obtain rfl := List.length_eq_zero_iff.1 hl
    exact sum_nil a cap w
  · exact sum_some b off len cap l w hl hm hc

set_option maxHeartbeats 400000 in
theorem rsum_nil (a : Option Addr) (cap : Nat) (w : World) :
    Calls Try.prog 8 #[.slice a 0 cap] w fun e w' => e = .returned (.tuple #[.int .i64 0, .bool true]) ∧ w = w' := by
  go_enter Try.func8, Try.ntmps8
  go_wp2
  go_loop [4, 5] (fun t i => t = .int .i64 0 ∧ i = .int .i64 0) (fun _ _ => 0)
  case atStart => exact ⟨rfl, rfl⟩
  case round =>
    obtain ⟨rfl, rfl⟩ := hrel
    go_wp2
    go_ret2
    exact ⟨rfl, rfl⟩

set_option maxHeartbeats 1000000 in
theorem rsum_some (b off len cap : Nat) (l : List Int) (w : World) (hl : l.length = len) (hm : len ≤ 9223372036854775807)
    (hc : ∀ k, k < len → w.cell? ⟨b, off + k, none⟩ = some (.int .i64 (l.getD k 0))) :
    Calls Try.prog 8 #[.slice (some ⟨b, off, none⟩) len cap] w fun e w' => e = .returned (.tuple #[.int .i64 (sumV l), .bool (sumB l)]) ∧ w = w' := by
  have HL := Lib.hid hl
  have HC := Lib.hid hc
  clear hl hc
  go_enter Try.func8, Try.ntmps8
  go_wp2
  go_loop [4, 5] (fun t i => ∃ (k : Nat) (s : Int), k ≤ len ∧ i = .int .i64 k ∧ t = .int .i64 s ∧ isB s = true ∧ sumAcc s (l.drop k) = sumAcc 0 l) (fun _ i => len - (intOf i).toNat)
  case atStart => exact ⟨0, 0, Nat.zero_le _, rfl, rfl, isB_zero, rfl⟩
  case round =>
    obtain ⟨k, s, hk, rfl, rfl, hs, hacc⟩ := hrel
    have hsb := isB_true hs
    obtain ⟨hs1, hs2⟩ := hsb
    have hpr := plusB_ref (n := l.getD k 0) hs
    have HS := Lib.hid hs
    have HA := Lib.hid hacc
    have HP := Lib.hid hpr
    clear hs hacc hpr
    by_cases hlt : k < len
    · have hcell := HC.out k hlt
      by_cases hp : plusB s (l.getD k 0) = true
      · have hh := plusB_true hp
        have e1 : sumAcc (s + l.getD k 0) (l.drop (k + 1)) = sumAcc 0 l := by
          rw [← HA.out, drop_getD l k (by rw [HL.out]; exact hlt), sumAcc_yes _ hp]
        have E1 := Lib.hid e1
        have E2 := Lib.hid hh.2.2
        have b2 := isB_true hh.2.1
        have b3 := isB_true hh.2.2
        clear hp hh e1 HP
        generalize l.getD k 0 = z at *
        obtain ⟨b21, b22⟩ := b2
        obtain ⟨b31, b32⟩ := b3
        have hn : decide (1099511627776 - s < z) = false := by simp; omega
        go_wp2_with (go_at_call 11; refine (size_yes _ _ (by omega) (by omega)).mono ?_; rintro e w' ⟨rfl, rfl⟩)
        go_round
        case rel => exact ⟨k + 1, _, by omega, by go_num, rfl, E2.out, E1.out⟩
        case measure => simp [intOf]; omega
      · have hp' : plusB s (l.getD k 0) = false := by simpa using hp
        have e1 : sumAcc 0 l = none := by
          rw [← HA.out, drop_getD l k (by rw [HL.out]; exact hlt), sumAcc_no _ hp']
        have E1 := Lib.hid e1
        have hp2 := HP.out
        rw [hp'] at hp2
        clear hp hp' e1 HP
        generalize l.getD k 0 = z at *
        by_cases hz : isB z = true
        · have hzz := isB_true hz
          obtain ⟨hz1, hz2⟩ := hzz
          have hgt : 1099511627776 - s < z := by
            rw [hz] at hp2; simp at hp2; exact hp2
          clear hp2 hz
          go_wp2_with (go_at_call 11; refine (size_yes _ _ (by omega) (by omega)).mono ?_; rintro e w' ⟨rfl, rfl⟩)
          go_ret2
          exact ⟨ret2 (by simp [sumV, E1.out]) (by simp [sumB, E1.out]), rfl⟩
        · have hz' : isB z = false := by simpa using hz
          have hzz := isB_false hz'
          clear hp2 hz hz'
          go_wp2_with (go_at_call 11; refine (size_no _ _ hzz).mono ?_; rintro e w' ⟨rfl, rfl⟩)
          go_ret2
          exact ⟨ret2 (by simp [sumV, E1.out]) (by simp [sumB, E1.out]), rfl⟩
    · have e1 : sumAcc 0 l = some s := by
        rw [← HA.out, List.drop_of_length_le (by rw [HL.out]; omega)]; rfl
      have E1 := Lib.hid e1
      clear e1 HP
      go_wp2
      go_ret2
      exact ⟨ret2 (by simp [sumV, E1.out]) (by simp [sumB, E1.out]), rfl⟩

theorem rsum_any (a : Option Addr) (len cap : Nat) (l : List Int) (w : World) (hs : Sees w a len l) :
    Calls Try.prog 8 #[.slice a len cap] w fun e w' => e = .returned (.tuple #[.int .i64 (sumV l), .bool (sumB l)]) ∧ w = w' := by
  obtain ⟨hl, hm, h0 | ⟨b, off, rfl, hc⟩⟩ := hs
  · subst h0
    obtain rfl := List.length_eq_zero_iff.1 hl
    exact rsum_nil a cap w
  · exact rsum_some b off len cap l w hl hm hc
end Go.Proofs.Ytgoeljfofmnldaa
