/-
  Proved: for every act x the call DiskNil(x) returns true and leaves its argument as it was (no condition).
  The frame of the proof follows the one that the guide's program lays for slices of integers; the opening of the argument (DiskOpen) and the walk (DiskNilW) are by hand.
-/
import Derived.Test.YtaklilhnikmmfaaGreatRows
import Derived.WalkKit
import Derived.ProofKit
import Derived.OpenShut
import Derived.ShutString
import Derived.ChangeOld
import Derived.Below
import Derived.Test.YtaklilhnikmmfaaGreatDiskNilW
import Derived.Test.YtaklilhnikmmfaaGreatDiskOpen
namespace Go.Proofs.YtaklilhnikmmfaaGreat.diskNil
open Go.ChangeShapes Go.WideShapes Go.ChangeAt Go.RowKit
open StrM DirM DiskM
set_option linter.unusedVariables false

theorem own : ownKnob Tryz.prog.godebug = none := by kernel_rfl
theorem laidOut : laidOutB Tryz.prog = true := by kernel_rfl

/-! ### THE ROW's STEP: WRITTEN OUT: LEAVE IT -/
set_option maxRecDepth 100000 in
theorem lifted (os : Os) (started : os.Started) (H : Type) (enc : TypeId × Value → H) :
    ReturnsInHanded {} Tryz.checked os 5 .any (Rows.diskNilSpec.pre6 enc Tryz.prog Tryz.f5 Rows.diskNilRow.domain false) (Rows.diskNilSpec.post enc Tryz.prog Tryz.f5 false true false false) := by
  refine returnsInHanded_of_change (C := Tryz.checked) own started (by kernel_rfl) Tryz.func5
    (ChangeSpec.witness6 (enc := enc) (C := Tryz.checked) false ⟨#[], #[.agg #[.int .i64 0, .string ⟨#[]⟩, .string ⟨#[]⟩, .int .i64 0, .slice none 0 0, .slice none 0 0]], []⟩ 8 (by kernel_rfl) (by kernel_rfl) (by kernel_rfl) (by kernel_rfl)) ?_
  intro W base args ds gs before hval0 hW hcnd _
  have hval : ∀ (j : Nat) t v, Tryz.f5.params[j]? = some t → args[j]? = some v → Value.okWide Tryz.prog W .any base t v := hval0
  have hW' := hW
  obtain ⟨p, q, hA0, hV, rfl, hfz, hnd⟩ := hW
  have hA : DataW.TrodAll enc Tryz.prog W 0 (fun _ => true) true Tryz.f5.params.toList args.toList ds p := hA0
  rw [Tryz.params5] at hA hval
  obtain ⟨v0, vs0, d0, ds0, p0, q0, hargs, rfl, rfl, h0, r0⟩ := trodAll_cons hA
  obtain ⟨rfl, rfl, rfl⟩ := trodAll_nil r0
  obtain rfl : args = #[v0] := by cases args; simp_all
  obtain ⟨rfl, rfl⟩ := trodVars_none hV
  obtain ⟨x0, x1, x2, x3, x4, x5, rfl⟩ := okWide_act (hval 0 41 v0 rfl rfl)
  have k0 := h0
  have lt0 : ∀ x ∈ p0, x.block < W.heap.size := by obtain ⟨m, hm⟩ := k0; exact DataW.trod_lt m _ _ _ hm
  obtain ⟨u, hu, hok⟩ : ∃ u : AX, [x0, x1, x2, x3, x4, x5] = axc u ∧ AXok W u := by
    obtain ⟨fuel, hf⟩ := h0
    exact kact_cells _ _ _ hf
  obtain ⟨⟨kd, nm, ds, nd, bl, tl⟩, B, T⟩ := u
  obtain ⟨A, cb, hB, -⟩ := hok.b
  obtain ⟨Ab, cbb, hT, -⟩ := hok.t
  simp only at hB hT
  subst hB hT
  simp only [axc, List.cons.injEq, and_true] at hu
  obtain ⟨e0, e1, e2, e3, e4, e5⟩ := hu
  subst e0 e1 e2 e3 e4 e5
  clear hA0 hval0
  refine (knil_walk kd nm ds nd A bl.length cb Ab tl.length cbb W).mono fun e W' ⟨he, bel⟩ => ?_
  subst he
  exact ⟨_, rfl, _, _, _, [], _, [], hW', trodAll_mk1 (shut_bool Tryz.underlying4 _), (trodAll_cons_mk (Below.trod laidOut (by kernel_rfl) (of_decide_eq_true (by kernel_rfl)) k0 bel lt0) trodAll_mk0), rfl, bel.frame _, fun h => by cases h⟩

theorem over : Rows.diskNilRow.holds Tryz.pinned (OpenSpec.ofChange Rows.diskNilSpec) :=
  OpenClaim.holds_of_wide 5 Tryz.f5 rfl rfl rfl rfl rfl rfl rfl ⟨rfl, rfl, rfl, rfl, rfl⟩ rfl rfl rfl rfl rfl (by kernel_rfl) Tryz.func5 (by kernel_rfl)
    (of_decide_eq_true (by kernel_rfl)) (by unfold Func.isWrapper; first | (rw [if_pos (by decide +kernel)]; kernel_rfl) | (rw [if_neg (by decide +kernel)]; exact ⟨rfl, rfl⟩))
    (fun os started H enc _ => lifted os started H enc)

/-- ████ THE STATEMENT ████ -/
theorem proved : Rows.DiskNilSaid := over
#print axioms proved
end Go.Proofs.YtaklilhnikmmfaaGreat.diskNil
