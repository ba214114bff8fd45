/-
  The walks of the two laws on sha.
-/
import Derived.Test.YtcccgcahmnmchaaDoorShaLaid
namespace Go.Proofs.YtcccgcahmnmchaaDoor
open Go.RowKit StrM ShaM

theorem eql32 (l : List UInt8) (hl : l.length = 32) (w : World) : (binOp .eql 24 (.agg (bys l).toArray) (.agg (bys l).toArray)).run Tryd.prog w = .ok (.bool true) w := by
  rw [run_eql_struct, eq_bytes l hl w]; rfl
theorem guard32 (x y : Operand) (a b : Array Value) (w : World) : (eqGuard .eql 24 x y (.agg a) (.agg b)).run Tryd.prog w = .ok () w := by
  have h : Tryd.prog.eqGuardType Tryd.prog.depth 24 = false := by kernel_rfl
  unfold eqGuard
  simp [h]

theorem slice_len {w : World} {A : Option Addr} {len cap : Nat} {l : List UInt8} (hv : SeesV w (.slice A len cap) (bys l)) : l.length = len := by
  obtain ⟨_, _, e, _⟩ := hv; injection e with _ e _; rw [e, bys_len]

set_option maxHeartbeats 800000 in
set_option maxRecDepth 100000 in
theorem sums_walk (A : Option Addr) (len cap : Nat) (l : List UInt8) (w : World) (hv : SeesV w (.slice A len cap) (bys l)) (hcap : len ≤ cap) (hT : Tabs w) :
    Calls Tryd.prog 3 #[.slice A len cap] w fun e w' => e = .returned (.bool true) ∧ Below w.heap.size w w' := by
  by_cases hbig : 600 < len
  · have HA := Lib.hid (awake_any w hT)
    have t1 : (600 : Int) < (len : Int) := by omega
    clear hT hv hcap
    go_enter Tryd.func3, Tryd.ntmps3
    go_wp2_with fail
    refine HA.out.mono ?_
    rintro e w1 ⟨rfl, hb1⟩
    have B1 := Lib.hid hb1
    clear hb1
    go_wp2_with fail
    go_ret
    exact ⟨rfl, B1.out⟩
  · have hm : len ≤ 1000000 := by omega
    have t1 : ¬ (600 : Int) < (len : Int) := by omega
    obtain ⟨rs, hrs⟩ : ∃ rs, rs = bys (sumL l) := ⟨_, rfl⟩
    obtain ⟨T, hTx⟩ : ∃ T, T = hexS (sumL l) := ⟨_, rfl⟩
    have heq : ∀ W, (binOp .eql 24 (.agg rs.toArray) (.agg rs.toArray)).run Tryd.prog W = .ok (.bool true) W := fun W => by rw [hrs]; exact eql32 _ rfl W
    have hgd : ∀ x y W, (eqGuard .eql 24 x y (.agg rs.toArray) (.agg rs.toArray)).run Tryd.prog W = .ok () W := fun x y W => guard32 x y _ _ W
    have C1 := Lib.hid (show ∀ W, Below w.heap.size w W → Calls Tryd.prog 6 #[.slice A len cap] W fun e w' => e = .returned (.agg rs.toArray) ∧ Below w.heap.size w w' from fun W hb => by
      rw [hrs]; exact (sum_any A len cap l W (hv.later hb) hcap hm (hT.below hb hT.two)).mono fun _ _ h => ⟨h.1, hb.trans (h.2.mono hb.size)⟩)
    have C2 := Lib.hid (show ∀ W, Below w.heap.size w W → Calls Tryd.prog 7 #[.slice A len cap] W fun e w' => e = .returned (.agg rs.toArray) ∧ Below w.heap.size w w' from fun W hb => by
      rw [hrs]; exact (rsum_any A len cap l W (hv.later hb) hm).mono fun _ _ h => ⟨h.1, hb.trans (h.2.mono hb.size)⟩)
    have C3 := Lib.hid (show ∀ W, Below w.heap.size w W → Calls Tryd.prog 8 #[.slice A len cap] W fun e w' => e = .returned (.string T) ∧ Below w.heap.size w w' from fun W hb => by
      rw [hTx]; exact (hex_any A len cap l W (hv.later hb) hcap hm (hT.below hb hT.two)).mono fun _ _ h => ⟨h.1, hb.trans (h.2.mono hb.size)⟩)
    have C4 := Lib.hid (show ∀ W, Below w.heap.size w W → Calls Tryd.prog 9 #[.slice A len cap] W fun e w' => e = .returned (.string T) ∧ Below w.heap.size w w' from fun W hb => by
      rw [hTx]; exact (rhex_any A len cap l W (hv.later hb) hm).mono fun _ _ h => ⟨h.1, hb.trans (h.2.mono hb.size)⟩)
    have C5 := Lib.hid (show ∀ W, Below w.heap.size w W → Calls Tryd.prog 5 #[] W fun e w' => e = .returned (.bool true) ∧ Below w.heap.size w w' from fun W hb =>
      (awake_any W (hT.below hb hT.two)).mono fun _ _ h => ⟨h.1, hb.trans (h.2.mono hb.size)⟩)
    clear hrs hTx hT hv hcap
    go_enter Tryd.func3, Tryd.ntmps3
    go_wp2_with fail
    refine (C1.out _ (Below.refl _ _)).mono ?_
    rintro e w1 ⟨rfl, hb1⟩
    have B1 := Lib.hid hb1
    clear hb1
    go_wp2_with fail
    refine (C2.out _ B1.out).mono ?_
    rintro e w2 ⟨rfl, hb2⟩
    have B2 := Lib.hid hb2
    clear hb2
    go_wp2_with fail
    refine (C3.out _ B2.out).mono ?_
    rintro e w3 ⟨rfl, hb3⟩
    have B3 := Lib.hid hb3
    clear hb3
    go_wp2_with fail
    refine (C4.out _ B3.out).mono ?_
    rintro e w4 ⟨rfl, hb4⟩
    have B4 := Lib.hid hb4
    clear hb4
    go_wp2_with fail
    refine (C5.out _ B4.out).mono ?_
    rintro e w5 ⟨rfl, hb5⟩
    have B5 := Lib.hid hb5
    clear hb5
    go_wp2_with fail
    go_ret
    exact ⟨rfl, B5.out⟩
end Go.Proofs.YtcccgcahmnmchaaDoor
