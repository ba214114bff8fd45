/-
  The walk of perform: a counted operation.
-/
import Derived.Test.YtaklilhnikmmfaaGreatDiskLeaf
import Derived.Deep.RegionHeld3
import Derived.BigQuiet
namespace Go.Proofs.YtaklilhnikmmfaaGreat
open Go.RowKit StrM BlockM FileM DirM DiskM

theorem setCell_same' {w : World} {p i : Nat} {cs : Array Value} {t : TypeId} {v : Value} (h : w.heap[p]? = some (.cells cs t (0, 0))) (hv : cs[i]? = some v) : w.setCell ⟨p, i, none⟩ v = w := by
  have hc : cs.setIfInBounds i v = cs := by
    apply Array.ext_getElem?
    intro j
    rw [Array.getElem?_setIfInBounds]
    split
    · next e =>
      subst e
      split
      · exact hv.symm
      · next hlt =>
        rw [Array.getElem?_eq_none (by omega)] at hv
        cases hv
    · rfl
  have hh : (w.setCell ⟨p, i, none⟩ v).heap = w.heap := by
    apply Array.ext_getElem?
    intro k
    by_cases e : k = p
    · subst e
      rw [heap_setCell_same w k i cs t v h, hc, h]
    · exact Below.heap_setCell w ⟨p, i, none⟩ v k e
  show { w with heap := (w.setCell ⟨p, i, none⟩ v).heap } = w
  rw [hh]
/-- reached, whatever the number. -/
theorem reached_at (p i : Nat) (n : Int) (w : World) (hc : w.cell? ⟨p, i, none⟩ = some (.int .i64 n)) (hf : w.frozen? ⟨p, i, none⟩ = false) (h1 : n ≤ 9223372036854775807) (hs : w.setCell ⟨p, i, none⟩ (.int .i64 n) = w) :
    Calls Tryz.prog 80 #[.pointer (some ⟨p, i, none⟩)] w fun e w' => e = .returned (.bool (decide (n = 1))) ∧ w' = w.setCell ⟨p, i, none⟩ (.int .i64 (tick n)) := by
  refine (reached_any p i n w hc hf h1).mono ?_
  rintro e w' ⟨rfl, hw⟩
  refine ⟨rfl, ?_⟩
  unfold tick
  rw [hw]
  split
  · exact hs.symm
  · rfl

def tickR (r : Raw) : Raw := { r with ops := r.ops + 1, trip := tick r.trip, stop := tick r.stop }
/-- What perform returns: R is what is so where the change was made. -/
def PerfEnd (p : Nat) (r : Raw) (R : World → Prop) (w : World) (e : Ending) (w' : World) : Prop :=
  (r.stop = 1 → e = .returned (.int .i64 9) ∧ KBox w' p { tickR r with down := true } ∧ Veer false p p w w') ∧
  (¬ r.stop = 1 → r.trip = 1 → e = .returned (.int .i64 8) ∧ KBox w' p (tickR r) ∧ Veer false p p w w') ∧
  (¬ r.stop = 1 → ¬ r.trip = 1 → e = .returned (.int .i64 0) ∧ R w')

theorem reached7 (p : Nat) (r : Raw) (w : World) (h : KBox w p r) (ht : r.trip ≤ 9223372036854775807) :
    Calls Tryz.prog 80 #[.pointer (some ⟨p, 7, none⟩)] w fun e w' => e = .returned (.bool (decide (r.trip = 1))) ∧ KBox w' p { r with trip := tick r.trip } ∧ Veer false p p w w' := by
  obtain ⟨-, -, -, -, -, -, -, c7, -⟩ := h.cells
  refine (reached_at p 7 r.trip w c7 (h.soft 7) ht (setCell_same' h rfl)).mono ?_
  rintro e w' ⟨rfl, rfl⟩
  exact ⟨rfl, h.setTrip _, (Veer.refl _ _ _ _).set (Nat.le_refl p) _ _⟩
theorem reached8 (p : Nat) (r : Raw) (w : World) (h : KBox w p r) (ht : r.stop ≤ 9223372036854775807) :
    Calls Tryz.prog 80 #[.pointer (some ⟨p, 8, none⟩)] w fun e w' => e = .returned (.bool (decide (r.stop = 1))) ∧ KBox w' p { r with stop := tick r.stop } ∧ Veer false p p w w' := by
  obtain ⟨-, -, -, -, -, -, -, -, c8, -⟩ := h.cells
  refine (reached_at p 8 r.stop w c8 (h.soft 8) ht (setCell_same' h rfl)).mono ?_
  rintro e w' ⟨rfl, rfl⟩
  exact ⟨rfl, h.setStop _, (Veer.refl _ _ _ _).set (Nat.le_refl p) _ _⟩

set_option maxHeartbeats 2000000 in
set_option maxRecDepth 100000 in
theorem perform_any (p : Nat) (r : Raw) (f : Nat) (cs : Array Value) (w : World) (R : World → Prop) (h : KBox w p r) (h0 : 0 ≤ r.ops) (h1 : r.ops ≤ 1000000) (ht : r.trip ≤ 9223372036854775807) (hs : r.stop ≤ 9223372036854775807)
    (he : ∀ W, (callFunc f cs).run Tryz.prog W = .ok (.enter f cs) W)
    (HF : ¬ r.stop = 1 → ¬ r.trip = 1 → ∀ W, KBox W p (tickR r) → Veer false p p w W → Calls Tryz.prog f cs W fun e w' => e = .returned (.tuple #[]) ∧ R w') :
    Calls Tryz.prog 49 #[.pointer (some ⟨p, 0, none⟩), .func (.func f) #[] cs] w (PerfEnd p r R w) := by
  obtain ⟨-, -, -, -, -, -, c6, -⟩ := h.cells
  have f6 := h.soft 6
  have K1 := Lib.hid (h.setOps (r.ops + 1))
  have V1 := Lib.hid ((Veer.refl false p p w).set (Nat.le_refl p) 6 (.int .i64 (r.ops + 1)))
  have HG := Lib.hid HF
  clear HF
  unfold PerfEnd
  obtain ⟨room, N, S, V, m, last, n6, n7, n8, dn⟩ := r
  dsimp only at *
  clear h
  have R7 := Lib.hid (fun W (k : KBox W p ⟨room, N, S, V, m, last, n6 + 1, n7, n8, dn⟩) => reached7 p _ W k ht)
  have R8 := Lib.hid (fun W (k : KBox W p ⟨room, N, S, V, m, last, n6 + 1, tick n7, n8, dn⟩) => reached8 p _ W k hs)
  obtain ⟨b7, e7⟩ : ∃ b, b = decide (n7 = 1) := ⟨_, rfl⟩
  obtain ⟨b8, e8⟩ : ∃ b, b = decide (n8 = 1) := ⟨_, rfl⟩
  rw [← e7] at R7
  rw [← e8] at R8
  have E7 := Lib.hid e7
  have E8 := Lib.hid e8
  clear e7 e8 ht hs
  go_enter Tryz.func49, Tryz.ntmps49
  go_wp2_with fail
  generalize w.setCell ⟨p, 6, none⟩ (.int .i64 (n6 + 1)) = w1 at *
  have K1 := Lib.hid K1.out.drew
  have V1 := Lib.hid V1.out.drew
  clear c6 f6
  go_region_held3 (fun _ => True) (first | exact trivial)
    (first
      | (go_at_call 80; (with_reducible refine (R7.out _ K1.out).mono ?_); rintro e w2 ⟨rfl, k2, v2⟩)
      | (go_at_call 80; (with_reducible refine (R8.out _ k2).mono ?_); rintro e w3 ⟨rfl, k3, v3⟩))
  all_goals
    have K3 := Lib.hid k3
    have V3 := Lib.hid (V1.out.trans (v2.trans v3))
    clear k3 k2 v2 v3 K1 V1 R7 R8
    cases b8 with
    | true =>
      have h8 : n8 = 1 := by have := E8.out; simpa using this.symm
      obtain ⟨-, -, -, -, -, -, -, -, -, c9⟩ := K3.out.cells
      have f9 := K3.out.soft 9
      have KF := Lib.hid (K3.out.setDown true)
      have VF := Lib.hid (V3.out.set (Nat.le_refl p) 9 (.bool true))
      have H8 := Lib.hid h8
      clear h8 HG
      go_wp2_with fail
      go_ret
      exact ⟨fun _ => ⟨rfl, KF.out, VF.out⟩, fun h => absurd H8.out h, fun h => absurd H8.out h⟩
    | false =>
      have H8 := Lib.hid (show ¬ n8 = 1 by have := E8.out; simpa using this.symm)
      cases b7 with
      | true =>
        have H7 := Lib.hid (show n7 = 1 by have := E7.out; simpa using this.symm)
        clear HG
        go_wp2_with fail
        go_ret
        exact ⟨fun h => absurd h H8.out, fun _ _ => ⟨rfl, K3.out, V3.out⟩, fun _ h => absurd H7.out h⟩
      | false =>
        have H7 := Lib.hid (show ¬ n7 = 1 by have := E7.out; simpa using this.symm)
        have HC := Lib.hid (HG.out H8.out H7.out _ K3.out V3.out)
        clear HG
        go_wp2_with fail
        refine HC.out.mono ?_
        rintro e w4 ⟨rfl, hr⟩
        have HR := Lib.hid hr
        clear hr HC K3 V3
        go_wp2_with fail
        go_ret
        exact ⟨fun h => absurd h H8.out, fun _ h => absurd h H7.out, fun _ _ => ⟨rfl, HR.out⟩⟩
end Go.Proofs.YtaklilhnikmmfaaGreat
