/-
  Proved: for every l the call CodePuts(l) returns true and leaves its argument as it was (no condition).
  The frame of the proof follows the one that the guide's program lays for slices of integers; the opening of a slice of values (CodeOpen) and the walk are by hand.
-/
import Derived.Test.YtnjnlbcbdhdipaaRows
import Derived.WalkKit
import Derived.ProofKit
import Derived.OpenShut
import Derived.ShutString
import Derived.ChangeOld
import Derived.Below
import Derived.Test.YtnjnlbcbdhdipaaCodeAwake
import Derived.Test.YtnjnlbcbdhdipaaCodeRefPut
import Derived.Test.YtnjnlbcbdhdipaaCodeOpen
namespace Go.Proofs.Ytnjnlbcbdhdipaa.codePuts
open Go.ChangeShapes Go.WideShapes Go.ChangeAt Go.RowKit
open Go.ChangeMaps (open_string shut_string)
open CodeM
set_option linter.unusedVariables false

theorem own : ownKnob Try.prog.godebug = none := by kernel_rfl
theorem laidOut : laidOutB Try.prog = true := by kernel_rfl

/-! ### STEP 1: THE WALK -/
set_option maxHeartbeats 2000000 in
set_option maxRecDepth 100000 in
theorem walk (a0 : Option Addr) (len0 cap0 : Nat) (l : List V) (w : World) (hl : l.length = len0) (hs : SeesS w (.slice a0 len0 cap0) l) (hf : ∀ v ∈ l, Fits v) :
    Calls Try.prog 3 #[.slice a0 len0 cap0] w fun e w' => e = .returned (.bool true) ∧ Below w.heap.size w w' := by
  have LO := Lib.hid (long_any _ l w hs)
  have PU := Lib.hid (puts_any _ l w hs hf)
  have RR := Lib.hid (fun (hL : l.length ≤ 1010) W (hb : Below w.heap.size w W) => rrights_any _ l W (hs.later hb) (by omega))
  have RI := Lib.hid (fun W (hb : Below w.heap.size w W) => rights_any _ l W (hs.later hb))
  have RP := Lib.hid (fun (hR : right l = true) W (hb : Below w.heap.size w W) => rputs_any _ l W (hs.later hb) hf hR)
  clear hs hf hl
  go_enter Try.func3, Try.ntmps3
  go_wp2_with fail
  refine (LO.out).mono ?_
  rintro e w' ⟨⟨bl, rfl, hbl⟩, rfl⟩
  cases bl with
  | true =>
    clear hbl
    go_wp2_with fail
    refine (cawake_any _).mono ?_
    rintro e w' ⟨rfl, hb⟩
    go_wp2_with fail
    go_ret
    exact ⟨rfl, hb⟩
  | false =>
    have HL := Lib.hid (hbl rfl)
    clear hbl
    unfold PutPost at PU
    cases hR : right l with
    | false =>
      rw [hR] at RI RR PU
      simp only [Bool.false_eq_true, if_false] at PU
      clear hR RP
      go_wp2_with fail
      refine (PU.out).mono ?_
      rintro e wa ⟨va, rfl, rfl, hba⟩
      have BA := Lib.hid hba
      clear hba
      go_wp2_with fail
      refine (RR.out HL.out _ BA.out).mono ?_
      rintro e wb ⟨rfl, hbb⟩
      have BB := Lib.hid (BA.out.trans (hbb.mono BA.out.size))
      clear hbb BA
      go_wp2_with fail
      refine (RI.out _ BB.out).mono ?_
      rintro e wc ⟨rfl, hbc⟩
      have BC := Lib.hid (BB.out.trans (hbc.mono BB.out.size))
      clear hbc BB
      go_wp2_with fail
      refine (cawake_any _).mono ?_
      rintro e we ⟨rfl, hbe⟩
      have BE := Lib.hid (BC.out.trans (hbe.mono BC.out.size))
      clear hbe
      go_wp2_with fail
      go_ret
      exact ⟨rfl, BE.out⟩
    | true =>
      have HR := Lib.hid hR
      rw [hR] at RI RR PU
      simp only [if_true] at PU
      clear hR
      go_wp2_with fail
      refine (PU.out).mono ?_
      rintro e wa ⟨va, rfl, hoa, hba⟩
      have SA := Lib.hid (SeesV.of_own hoa)
      have BA := Lib.hid hba
      clear hba hoa
      go_wp2_with fail
      refine (RR.out HL.out _ BA.out).mono ?_
      rintro e wb ⟨rfl, hbb⟩
      have BB := Lib.hid (BA.out.trans (hbb.mono BA.out.size))
      have SB := Lib.hid (SA.out.later hbb)
      clear hbb BA SA
      go_wp2_with fail
      refine (RI.out _ BB.out).mono ?_
      rintro e wc ⟨rfl, hbc⟩
      have BC := Lib.hid (BB.out.trans (hbc.mono BB.out.size))
      have SC := Lib.hid (SB.out.later hbc)
      clear hbc BB SB
      go_wp2_with fail
      refine (RP.out HR.out _ BC.out).mono ?_
      rintro e wd ⟨vd, rfl, hod, hbd⟩
      have BD := Lib.hid (BC.out.trans (hbd.mono BC.out.size))
      have SD := Lib.hid (SC.out.later hbd)
      have TD := Lib.hid (SeesV.of_own hod)
      clear hbd hod BC SC
      go_wp2_with fail
      refine (bytes_same' _ _ (put l) _ SD.out TD.out).mono ?_
      rintro e wf ⟨rfl, hbf⟩
      have BF := Lib.hid (BD.out.trans (hbf.mono BD.out.size))
      clear hbf BD SD TD
      go_wp2_with fail
      refine (cawake_any _).mono ?_
      rintro e we ⟨rfl, hbe⟩
      have BE := Lib.hid (BF.out.trans (hbe.mono BF.out.size))
      clear hbe
      go_wp2_with fail
      go_ret
      exact ⟨rfl, BE.out⟩

/-! ### THE ROW's STEP: WRITTEN OUT: LEAVE IT -/
set_option maxRecDepth 100000 in
theorem lifted (os : Os) (started : os.Started) (H : Type) (enc : TypeId × Value → H) :
    ReturnsInHanded {} Try.checked os 3 .any (Rows.codePutsSpec.pre6 enc Try.prog Try.f3 Rows.codePutsRow.domain false) (Rows.codePutsSpec.post enc Try.prog Try.f3 false true false false) := by
  refine returnsInHanded_of_change (C := Try.checked) own started (by kernel_rfl) Try.func3
    (ChangeSpec.witness6 (enc := enc) (C := Try.checked) false ⟨#[], #[.slice none 0 0], []⟩ 8 (by kernel_rfl) (by kernel_rfl) (by kernel_rfl) (by kernel_rfl)) ?_
  intro W base args ds gs before hval0 hW hcnd _
  have hval : ∀ (j : Nat) t v, Try.f3.params[j]? = some t → args[j]? = some v → Value.okWide Try.prog W .any base t v := hval0
  have hW' := hW
  obtain ⟨p, q, hA0, hV, rfl, hfz, hnd⟩ := hW
  have hA : DataW.TrodAll enc Try.prog W 0 (fun _ => true) true Try.f3.params.toList args.toList ds p := hA0
  rw [Try.params3] at hA hval
  obtain ⟨v0, vs0, d0, ds0, p0, q0, hargs, rfl, rfl, h0, r0⟩ := trodAll_cons hA
  obtain ⟨rfl, rfl, rfl⟩ := trodAll_nil r0
  obtain rfl : args = #[v0] := by cases args; simp_all
  obtain ⟨rfl, rfl⟩ := trodVars_none hV
  obtain ⟨a0, len0, cap0, rfl⟩ := okWide_slice Try.underlying22 (hval 0 22 v0 rfl rfl)
  have k0 := h0
  have lt0 : ∀ x ∈ p0, x.block < W.heap.size := by obtain ⟨m, hm⟩ := k0; exact DataW.trod_lt m _ _ _ hm
  obtain ⟨l0, hl0, hs0, hf0⟩ : ∃ l : List V, l.length = len0 ∧ SeesS W (.slice a0 len0 cap0) l ∧ ∀ v ∈ l, Fits v := by
    obtain ⟨fuel, hf⟩ := h0
    exact SeesS.of_arg hf
  clear hA0 hval0
  refine (walk a0 len0 cap0 l0 W hl0 hs0 hf0).mono fun e W' ⟨he, bel⟩ => ?_
  subst he
  exact ⟨_, rfl, _, _, _, [], _, [], hW', trodAll_mk1 (shut_bool Try.underlying4 _), (trodAll_cons_mk (Below.trod laidOut (by kernel_rfl) (of_decide_eq_true (by kernel_rfl)) k0 bel lt0) trodAll_mk0), rfl, bel.frame _, fun h => by cases h⟩

theorem over : Rows.codePutsRow.holds Try.pinned (OpenSpec.ofChange Rows.codePutsSpec) :=
  OpenClaim.holds_of_wide 3 Try.f3 rfl rfl rfl rfl rfl rfl rfl ⟨rfl, rfl, rfl, rfl, rfl⟩ rfl rfl rfl rfl rfl (by kernel_rfl) Try.func3 (by kernel_rfl)
    (of_decide_eq_true (by kernel_rfl)) (by unfold Func.isWrapper; first | (rw [if_pos (by decide +kernel)]; kernel_rfl) | (rw [if_neg (by decide +kernel)]; exact ⟨rfl, rfl⟩))
    (fun os started H enc _ => lifted os started H enc)

/-- ████ THE STATEMENT ████ -/
theorem proved : Rows.CodePutsSaid := over
#print axioms proved
end Go.Proofs.Ytnjnlbcbdhdipaa.codePuts
