/-
  What the two package variables hold when a call begins.
-/
import Derived.Test.YtcccgcahmnmchaaDoorShaEq
import Derived.ProofKit
import Derived.LaidMore
import Derived.OpenShut
import Derived.Stop.Joined
import Derived.Lib.LaidTab
namespace Go.Proofs.YtcccgcahmnmchaaDoor
open Go.ChangeShapes Go.WideShapes Go.ChangeAt Go.RowKit StrM ShaM

def laidL : List (String × DataW Unit) := [("newsreel/sha.initial", Rows.laid_newsreel_sha_initial), ("newsreel/sha.constants", Rows.laid_newsreel_sha_constants)]
theorem gInit : Tryd.prog.globalNamed "newsreel/sha.initial" = some 0 := by kernel_rfl
theorem gCons : Tryd.prog.globalNamed "newsreel/sha.constants" = some 1 := by kernel_rfl
theorem tInit : (Tryd.prog.globals[0]?).map (·.type) = some 31 := by kernel_rfl
theorem tCons : (Tryd.prog.globals[1]?).map (·.type) = some 41 := by kernel_rfl
theorem cell1 : Tryd.prog.cellsOf 30 = 1 := by kernel_rfl
theorem cell8 : Tryd.prog.cellsOf 31 = 8 := by kernel_rfl
theorem cell64 : Tryd.prog.cellsOf 41 = 64 := by kernel_rfl

/-- The heap that the program's own initialisers leave meets the condition. -/
theorem door_met (os : Os) (args : Array Value) : laidMetH Tryd.prog laidL ((World.doorLaid Tryd.prog 400 os).forCall (fun _ _ => 0) ⟨#[], args, []⟩).memory :=
  laidMetH_of_parts3 (fuel := 8) (laidMet_of_run' 8 (by kernel_rfl) (by kernel_rfl)) (by kernel_rfl) (by kernel_rfl)

theorem tabs_of_laid {W : World} (h : laidMetH Tryd.prog laidL W) : Tabs W := by
  rw [MakeChecks.laidMetH_plain _ _ _ (by kernel_rfl)] at h
  obtain ⟨ps, ⟨g0, t0, cs0, f0, p0, q0, hg0, ht0, hv0, hd0, ⟨g1, t1, cs1, f1, p1, q1, hg1, ht1, hv1, hd1, _, _⟩, _⟩, _, _⟩ := h
  obtain rfl := Option.some.inj (gInit.symm.trans hg0)
  obtain rfl := Option.some.inj (gCons.symm.trans hg1)
  obtain rfl := Option.some.inj (tInit.symm.trans ht0)
  obtain rfl := Option.some.inj (tCons.symm.trans ht1)
  have e0 := Lib.cells_of_tab (k := .u32) (zs := (words8 init).map fun (n : Nat) => (n : Int)) Tryd.underlying31 Tryd.underlying30 cell1 cell8 hd0
  have e1 := Lib.cells_of_tab (k := .u32) (zs := K.map fun (n : Nat) => (n : Int)) Tryd.underlying41 Tryd.underlying30 cell1 cell64 hd1
  constructor
  · intro j hj
    rw [World.var?_cell hg0 hv0 j, ← Array.getElem?_toList, e0]
    have : j < (words8 init).length := hj
    simp [this]
  · intro j hj
    rw [World.var?_cell hg1 hv1 j, ← Array.getElem?_toList, e1]
    have : j < K.length := hj
    simp [this]
end Go.Proofs.YtcccgcahmnmchaaDoor
