/-
  The walks of vary.Take and the reference's Take.
-/
import Derived.Test.YtnjnlbcbdhdipaaVaryPut
namespace Go.Proofs.Ytnjnlbcbdhdipaa
open Go.RowKit StrM VaryM

/-- What Take returns. -/
def takeE (l : List UInt8) : Ending := .returned (.tuple #[.int .u64 ((takeL l).1 : Int), .int .i64 ((takeL l).2.1 : Int), .int .i64 ((takeL l).2.2 : Int)])
theorem takeE_of {l : List UInt8} {u x e : Nat} {u' x' e' : Int} (h : takeL l = (u, x, e)) (hu : u' = (u : Int)) (hx : x' = (x : Int)) (he : e' = (e : Int)) : Ending.returned (.tuple #[.int .u64 u', .int .i64 x', .int .i64 e']) = takeE l := by
  subst hu hx he
  rw [takeE, h]

theorem or_fits {n c k : Nat} (hn : n < 128 ^ k) (hf : n + c % 128 * 128 ^ k < 18446744073709551616) :
    bits .or .u64 (n : Int) (IntKind.u64.wrap ((c : Int) % 128 * 2 ^ (7 * k))) = ((n + c % 128 * 128 ^ k : Nat) : Int) := by
  have e : (128 : Nat) ^ k = 2 ^ (7 * k) := by rw [Nat.pow_mul]
  have e1 : (c : Int) % 128 * 2 ^ (7 * k) = ((c % 128 * 128 ^ k : Nat) : Int) := by rw [e]; simp
  rw [e1]
  generalize hy : c % 128 * 128 ^ k = y at *
  have hy' : n ||| y = n + y := by rw [← hy]; exact or_add hn
  rw [wrap_u64_mod, show (y : Int) % 18446744073709551616 = (y : Int) by omega]
  show IntKind.u64.wrap (((BitVec.ofInt 64 (n : Int) ||| BitVec.ofInt 64 (y : Int)).toNat : Nat) : Int) = _
  rw [ofInt_nat, ofInt_nat, BitVec.toNat_or, BitVec.toNat_ofNat, BitVec.toNat_ofNat, Nat.mod_eq_of_lt (by omega : n < 2 ^ 64), Nat.mod_eq_of_lt (by omega : y < 2 ^ 64), hy', wrap_u64_mod]
  omega

set_option maxHeartbeats 800000 in
set_option maxRecDepth 100000 in
theorem vtake_all (v : Value) (l : List UInt8) (w : World) (hs : SeesV w v (bys l)) :
    Calls Try.prog 23 #[v] w fun e w' => e = takeE l ∧ w = w' := by
  obtain ⟨len, hn⟩ : ∃ len, len = l.length := ⟨_, rfl⟩
  obtain ⟨a, cap, rfl, -⟩ := id hs
  have HS := Lib.hid hs
  rw [bys_len] at HS ⊢
  rw [← hn] at HS ⊢
  have HN := Lib.hid hn
  clear hs hn
  go_enter Try.func23, Try.ntmps23
  go_wp2_with fail
  go_loopw [5, 10] (fun x i wr => ∃ k n : Nat, k ≤ len ∧ i = .int .i64 (k : Int) ∧ x = .int .u64 (n : Int) ∧ TakeAt l k n ∧ w = wr) (fun _ i _ => len - (intOf i).toNat)
  case atStart => exact ⟨0, 0, Nat.zero_le _, rfl, rfl, TakeAt.start l, rfl⟩
  case round =>
    obtain ⟨k, n, hk, rfl, rfl, hT, rfl⟩ := hrel
    have hk9 := hT.1
    have HT := Lib.hid hT
    clear hT
    by_cases hlt : k < len
    · have hkl : k < l.length := by rw [← HN.out]; exact hlt
      obtain ⟨g, off, rfl, hg, hc⟩ := HS.out.cell hkl
      obtain ⟨c, hcc⟩ : ∃ c, c = l[k] := ⟨_, rfl⟩
      rw [← hcc] at hc
      have HC := Lib.hid hcc
      have hb := c.toNat_lt
      have HW := Lib.hid (fun w => wrong_any k c w)
      cases hbad : bad k c.toNat with
      | true =>
        have HF := Lib.hid (HT.out.wrong hkl (by rw [← hcc]; exact hbad))
        rw [hbad] at HW
        clear hbad hcc
        go_wp2_with fail
        refine (HW.out _).mono ?_
        rintro e w' ⟨rfl, rfl⟩
        go_wp2_with fail
        go_ret3
        exact ⟨takeE_of HF.out rfl rfl rfl, rfl⟩
      | false =>
        have HOR := Lib.hid (or_fits HT.out.2.1 (HT.out.fits hbad))
        have HB := Lib.hid hbad
        rw [hbad] at HW
        clear hbad hcc
        by_cases hc7 : c.toNat < 128
        · have hc7' : (c.toNat : Int) < 128 := by omega
          have HF := Lib.hid (HT.out.last hkl (by rw [← HC.out]; exact HB.out) (by rw [← HC.out]; exact hc7))
          clear hc7
          go_wp2_with fail
          refine (HW.out _).mono ?_
          rintro e w' ⟨rfl, rfl⟩
          go_wp2_with fail
          go_ret3
          refine ⟨takeE_of HF.out ?_ (by go_num) rfl, rfl⟩
          rw [← HC.out]; exact HOR.out
        · have hc7' : decide ((c.toNat : Int) < 128) = false := by simp; omega
          have HF := Lib.hid (HT.out.next hkl (by rw [← HC.out]; exact HB.out) (by rw [← HC.out]; exact hc7))
          rw [← HC.out] at HF
          clear hc7
          go_wp2_with fail
          refine (HW.out _).mono ?_
          rintro e w' ⟨rfl, rfl⟩
          go_wp2_with fail
          go_roundw
          case rel => exact ⟨k + 1, n + c.toNat % 128 * 128 ^ k, by omega, by go_num, by rw [HOR.out], HF.out, trivial⟩
          case measure => simp [intOf]; omega
    · have HF := Lib.hid (HT.out.done (by have := HN.out; omega))
      go_wp2_with fail
      go_ret3
      exact ⟨takeE_of HF.out rfl rfl rfl, rfl⟩

theorem vtake_any (v : Value) (l : List UInt8) (w : World) (hs : SeesV w v (bys l)) (_hl : l.length ≤ 1000000) :
    Calls Try.prog 23 #[v] w fun e w' => e = takeE l ∧ w = w' := vtake_all v l w hs

/-- The four ways in which a byte with the index k is told. -/
theorem told (k c : Nat) : (bad k c = true ∧ ((k = 9 ∧ 1 < c) ∨ (k = 9 ∧ c = 0) ∨ (k ≠ 9 ∧ 0 < k ∧ c = 0))) ∨ (bad k c = false ∧ ((k = 9 ∧ c = 1) ∨ k = 0 ∨ (k ≠ 9 ∧ 0 < k ∧ c ≠ 0))) := by
  cases h : bad k c with
  | true => left; refine ⟨rfl, ?_⟩; simp [bad] at h; omega
  | false => right; refine ⟨rfl, ?_⟩; simp [bad] at h; omega

set_option maxHeartbeats 2000000 in
set_option maxRecDepth 100000 in
theorem rvtake_any (v : Value) (l : List UInt8) (w : World) (hs : SeesV w v (bys l)) (hl : l.length ≤ 1000000) :
    Calls Try.prog 25 #[v] w fun e w' => e = takeE l ∧ w = w' := by
  obtain ⟨len, hn⟩ : ∃ len, len = l.length := ⟨_, rfl⟩
  obtain ⟨a, cap, rfl, -⟩ := id hs
  have HS := Lib.hid hs
  rw [bys_len] at HS ⊢
  rw [← hn] at HS hl ⊢
  have HN := Lib.hid hn
  clear hs hn
  go_enter Try.func25, Try.ntmps25
  go_wp2_with fail
  go_loopw [5, 6, 7] (fun x y i wr => ∃ k n p : Nat, k ≤ len ∧ i = .int .i64 (k : Int) ∧ x = .int .u64 (n : Int) ∧ y = .int .u64 (p : Int) ∧ p = 128 ^ k ∧ TakeAt l k n ∧ w = wr) (fun _ _ i _ => len - (intOf i).toNat)
  case atStart => exact ⟨0, 0, 1, Nat.zero_le _, rfl, rfl, rfl, rfl, TakeAt.start l, rfl⟩
  case round =>
    obtain ⟨k, n, p, hk, rfl, rfl, rfl, hp, hT, rfl⟩ := hrel
    have hk9 := hT.1
    have HT := Lib.hid hT
    have HP := Lib.hid hp
    clear hT hp
    by_cases hlt : k < len
    · have hkl : k < l.length := by rw [← HN.out]; exact hlt
      obtain ⟨g, off, rfl, hg, hc⟩ := HS.out.cell hkl
      obtain ⟨c, hcc⟩ : ∃ c, c = l[k].toNat := ⟨_, rfl⟩
      rw [← hcc] at hc
      have hb := l[k].toNat_lt
      rw [← hcc] at hb
      rcases told k c with ⟨hbad, hways⟩ | ⟨hbad, hways⟩
      · have HF := Lib.hid (HT.out.wrong hkl (by rw [← hcc]; exact hbad))
        clear hbad hcc
        rcases hways with ⟨h9, h1⟩ | ⟨h9, h1⟩ | ⟨h9, h0, h1⟩
        · have e9 : (k : Int) = 9 := by omega
          have hc9 : w.cell? ⟨g, off + 9, none⟩ = some (.int .u8 (c : Int)) := by rw [← hc, h9]
          have hl9 : 9 < len := by omega
          have e1 : (1 : Int) < (c : Int) := by omega
          clear h9 h1
          go_wp2_with fail
          go_ret3
          exact ⟨takeE_of HF.out rfl rfl rfl, rfl⟩
        · have e9 : (k : Int) = 9 := by omega
          have hc9 : w.cell? ⟨g, off + 9, none⟩ = some (.int .u8 (c : Int)) := by rw [← hc, h9]
          have hl9 : 9 < len := by omega
          have e1 : (c : Int) = 0 := by omega
          clear h9 h1
          go_wp2_with fail
          go_ret3
          exact ⟨takeE_of HF.out rfl rfl rfl, rfl⟩
        · have e9 : ((k : Int) == 9) = false := by simp; omega
          have e0 : (0 : Int) < (k : Int) := by omega
          have e1 : (c : Int) = 0 := by omega
          clear h9 h1 h0
          go_wp2_with fail
          go_ret3
          exact ⟨takeE_of HF.out rfl rfl rfl, rfl⟩
      · have hfit := HT.out.fits hbad
        obtain ⟨y, hy⟩ : ∃ y, y = c % 128 := ⟨_, rfl⟩
        obtain ⟨m, hm⟩ : ∃ m, m = p * y := ⟨_, rfl⟩
        have hm' : (p : Int) * (y : Int) = (m : Int) := by rw [hm]; simp
        have hy' : (c : Int) % 128 = (y : Int) := by omega
        have hfit' : n + m < 18446744073709551616 := by rw [hm, HP.out, hy, Nat.mul_comm]; exact hfit
        have HM := Lib.hid (show n + c % 128 * 128 ^ k = n + m by rw [hm, HP.out, hy, Nat.mul_comm])
        have HB := Lib.hid hbad
        have HC := Lib.hid hcc
        clear hfit hy hm hbad hcc
        by_cases hc7 : c < 128
        · have HF := Lib.hid (HT.out.last hkl (by rw [← HC.out]; exact HB.out) (by rw [← HC.out]; exact hc7))
          rw [← HC.out, HM.out] at HF
          have hc7' : (c : Int) < 128 := by omega
          clear hc7
          rcases hways with ⟨h9, h1⟩ | h0 | ⟨h9, h0, h1⟩
          · have e9 : (k : Int) = 9 := by omega
            have hc9 : w.cell? ⟨g, off + 9, none⟩ = some (.int .u8 (c : Int)) := by rw [← hc, h9]
            have hl9 : 9 < len := by omega
            have e1 : decide ((1 : Int) < (c : Int)) = false := by simp; omega
            have e2 : ((c : Int) == 0) = false := by simp; omega
            clear h9 h1
            go_wp2_with fail
            go_ret3
            exact ⟨takeE_of HF.out (by go_num) (by go_num) rfl, rfl⟩
          · have e0 : (k : Int) = 0 := by omega
            have hc0 : w.cell? ⟨g, off, none⟩ = some (.int .u8 (c : Int)) := by rw [← hc, h0]; rfl
            have hl0 : 0 < len := by omega
            clear h0
            go_wp2_with fail
            go_ret3
            exact ⟨takeE_of HF.out (by go_num) (by go_num) rfl, rfl⟩
          · have e9 : ((k : Int) == 9) = false := by simp; omega
            have e0 : (0 : Int) < (k : Int) := by omega
            have e1 : ((c : Int) == 0) = false := by simp; omega
            clear h9 h1 h0
            go_wp2_with fail
            go_ret3
            exact ⟨takeE_of HF.out (by go_num) (by go_num) rfl, rfl⟩
        · have hk8 := bad_on hk9 HB.out hc7
          have HF := Lib.hid (HT.out.next hkl (by rw [← HC.out]; exact HB.out) (by rw [← HC.out]; exact hc7))
          rw [← HC.out, HM.out] at HF
          have hp2 : p * 128 ≤ 9223372036854775808 := by
            have h3 : 128 ^ (k + 1) ≤ 128 ^ 9 := Nat.pow_le_pow_right (by decide) hk8
            rw [Nat.pow_succ, ← HP.out] at h3
            exact h3
          have HP2 := Lib.hid (show p * 128 = 128 ^ (k + 1) by rw [Nat.pow_succ, HP.out])
          have hc7' : decide ((c : Int) < 128) = false := by simp; omega
          clear hc7
          rcases hways with ⟨h9, h1⟩ | h0 | ⟨h9, h0, h1⟩
          · exfalso; omega
          · have e0 : (k : Int) = 0 := by omega
            have hc0 : w.cell? ⟨g, off, none⟩ = some (.int .u8 (c : Int)) := by rw [← hc, h0]; rfl
            have hl0 : 0 < len := by omega
            clear h0
            go_wp2_with fail
            go_roundw
            case rel => exact ⟨k + 1, n + m, p * 128, by omega, by go_num, by go_num, by go_num, HP2.out, HF.out, trivial⟩
            case measure => simp [intOf]; omega
          · have e9 : ((k : Int) == 9) = false := by simp; omega
            have e0 : (0 : Int) < (k : Int) := by omega
            have e1 : ((c : Int) == 0) = false := by simp; omega
            clear h9 h1 h0
            go_wp2_with fail
            go_roundw
            case rel => exact ⟨k + 1, n + m, p * 128, by omega, by go_num, by go_num, by go_num, HP2.out, HF.out, trivial⟩
            case measure => simp [intOf]; omega
    · have HF := Lib.hid (HT.out.done (by have := HN.out; omega))
      go_wp2_with fail
      go_ret3
      exact ⟨takeE_of HF.out rfl rfl rfl, rfl⟩
end Go.Proofs.Ytnjnlbcbdhdipaa
