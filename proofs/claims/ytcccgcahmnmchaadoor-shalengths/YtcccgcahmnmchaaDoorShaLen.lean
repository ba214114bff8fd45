/-
  The walk of the law on lengths.
-/
import Derived.Test.YtcccgcahmnmchaaDoorShaLaw
namespace Go.Proofs.YtcccgcahmnmchaaDoor
open Go.RowKit StrM ShaM

theorem byte_arg {n : Int} (h : (Lit.int .u8 n).wf = true) : ∃ c : UInt8, n = (c.toNat : Int) := by
  have hb : 0 ≤ n ∧ n ≤ 255 := by
    simp [Lit.wf, IntKind.min, IntKind.max, IntKind.signed, IntKind.bits] at h
    omega
  exact ⟨UInt8.ofNat n.toNat, by rw [UInt8.toNat_ofNat']; omega⟩
theorem u16_arg {n : Int} (h : (Lit.int .u16 n).wf = true) : ∃ k : Nat, n = (k : Int) ∧ k < 65536 := by
  have hb : 0 ≤ n ∧ n ≤ 65535 := by
    simp [Lit.wf, IntKind.min, IntKind.max, IntKind.signed, IntKind.bits] at h
    omega
  exact ⟨n.toNat, by omega, by omega⟩

set_option maxHeartbeats 800000 in
set_option maxRecDepth 100000 in
theorem lengths_walk (n : Nat) (c : UInt8) (w : World) (hn : n < 65536) (hT : Tabs w) :
    Calls Tryd.prog 4 #[.int .u16 (n : Int), .int .u8 (c.toNat : Int)] w fun e w' => e = .returned (.bool true) ∧ Below w.heap.size w w' := by
  obtain ⟨m, hm⟩ : ∃ m, m = n % 200 := ⟨_, rfl⟩
  have hm2 : (n : Int) % 200 = (m : Int) := by omega
  have hm3 : m < 200 := by omega
  have H0 := Lib.hid (show ERel w (.slice (some ⟨w.heap.size, 0, none⟩) 0 0) [] (w.alloc (.cells #[] 5)) from ⟨own_made w _, below_made w _⟩)
  have HT := Lib.hid hT
  clear hm hT
  go_enter Tryd.func4, Tryd.ntmps4
  go_wp2_with fail
  go_loopw [6, 5] (fun x v wr => ∃ i : Nat, i ≤ m ∧ x = .int .i64 (i : Int) ∧ ERel w v (List.replicate i c) wr) (fun x _ _ => m - (intOf x).toNat)
  case atStart => exact ⟨0, Nat.zero_le _, rfl, H0.out⟩
  case round =>
    obtain ⟨i, hi, rfl, hE⟩ := hrel
    clear H0
    obtain ⟨A1, cap1, hx, hcap⟩ := own_slice hE.1
    subst hx
    have HE := Lib.hid hE
    have hz := hE.2.size
    rw [List.length_replicate] at hcap ⊢
    clear hE
    by_cases hlt : i < m
    · have t1 : (i : Int) < (m : Int) := by omega
      go_wp2_with (at_builtin; refine append_one oneByte rfl _ _ rfl w.heap.size _ i _ rfl (by have := HE.out.1; rwa [List.length_replicate] at this) (.int .u8 (c.toNat : Int)) rfl rfl ?a1 ?a2 ?a3 ?_)
      case a1 => omega
      case a2 => unfold maxLen; omega
      case a3 => exact hz
      intro v' w2 ho hb
      have HE2 := Lib.hid (show ERel w v' (List.replicate (i + 1) c) w2 by
        have := HE.out.step (c := c) rfl (by rw [List.length_replicate]; exact ho) hb
        rwa [← List.replicate_succ'] at this)
      clear ho hb
      go_wp2_with fail
      go_roundw
      case rel => exact ⟨i + 1, by omega, by go_num, HE2.out⟩
      case measure => simp [intOf]; omega
    · have t1 : ¬ (i : Int) < (m : Int) := by omega
      have hle : i ≤ 1000000 := by omega
      have hown := HE.out.1
      rw [List.length_replicate] at hown
      have hsee := SeesV.of_own hown
      have hB := HE.out.2
      have hT := HT.out.below hB HT.out.two
      obtain ⟨rs, hrs⟩ : ∃ rs, rs = bys (sumL (List.replicate i c)) := ⟨_, rfl⟩
      have heq : ∀ W, (binOp .eql 24 (.agg rs.toArray) (.agg rs.toArray)).run Tryd.prog W = .ok (.bool true) W := fun W => by rw [hrs]; exact eql32 _ rfl W
      have hgd : ∀ x y W, (eqGuard .eql 24 x y (.agg rs.toArray) (.agg rs.toArray)).run Tryd.prog W = .ok () W := fun x y W => guard32 x y _ _ W
      obtain ⟨wA, rfl⟩ : ∃ wA, wA = wr := ⟨_, rfl⟩
      have C1 := Lib.hid (show ∀ W, Below wA.heap.size wA W → Calls Tryd.prog 6 #[.slice A1 i cap1] W fun e w' => e = .returned (.agg rs.toArray) ∧ Below wA.heap.size wA w' from fun W hb => by
        rw [hrs]; exact (sum_any A1 i cap1 _ W (hsee.later hb) hcap hle (hT.below hb hT.two)).mono fun _ _ h => ⟨h.1, hb.trans (h.2.mono hb.size)⟩)
      have C2 := Lib.hid (show ∀ W, Below wA.heap.size wA W → Calls Tryd.prog 7 #[.slice A1 i cap1] W fun e w' => e = .returned (.agg rs.toArray) ∧ Below wA.heap.size wA w' from fun W hb => by
        rw [hrs]; exact (rsum_any A1 i cap1 _ W (hsee.later hb) hle).mono fun _ _ h => ⟨h.1, hb.trans (h.2.mono hb.size)⟩)
      have C5 := Lib.hid (show ∀ W, Below wA.heap.size wA W → Calls Tryd.prog 5 #[] W fun e w' => e = .returned (.bool true) ∧ Below wA.heap.size wA w' from fun W hb =>
        (awake_any W (hT.below hb hT.two)).mono fun _ _ h => ⟨h.1, hb.trans (h.2.mono hb.size)⟩)
      have HB := Lib.hid hB
      clear hrs hT hsee hown hB
      go_wp2_with fail
      refine (C1.out _ (Below.refl _ _)).mono ?_
      rintro e w1 ⟨rfl, hb1⟩
      have B1 := Lib.hid hb1
      clear hb1
      go_wp2_with fail
      refine (C2.out _ B1.out).mono ?_
      rintro e w2 ⟨rfl, hb2⟩
      have B2 := Lib.hid hb2
      clear hb2
      go_wp2_with fail
      refine (C5.out _ B2.out).mono ?_
      rintro e w5 ⟨rfl, hb5⟩
      have B5 := Lib.hid (HB.out.trans (hb5.mono hz))
      clear hb5
      go_wp2_with fail
      go_ret
      exact ⟨rfl, B5.out⟩
end Go.Proofs.YtcccgcahmnmchaaDoor
