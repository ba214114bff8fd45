/-
  The walk of DiskNil.
-/
import Derived.Test.YtaklilhnikmmfaaGreatDiskDo
namespace Go.Proofs.YtaklilhnikmmfaaGreat
open Go.RowKit StrM BlockM FileM DirM DiskM

def NilR (w : World) (kd : Int) (er : Int) (W : World) : Prop := (0 ≤ kd ∧ kd < 6 → er = 10) ∧ Below w.heap.size w W
theorem do_dead (v : Value) (kd : Int) (nm dst : ByteArray) (q : Int) (A : Option Addr) (lb cb : Nat) (Ab : Option Addr) (nb cbb : Nat) (w : World) (h : Dead w v) :
    Calls Tryz.prog 10 #[v, .agg (xv kd nm dst q A lb cb Ab nb cbb)] w (DoPost (NilR w kd)) := by
  have hb := below_made w (.cells (xv kd nm dst q A lb cb Ab nb cbb) 41)
  have h' := h.later hb
  have ends : ∀ e W', DeadEnd (w.alloc (.cells (xv kd nm dst q A lb cb Ab nb cbb) 41)) e W' → DoPost (NilR w kd) e W' :=
    fun e W' ⟨he, hw⟩ => ⟨10, he, fun _ => rfl, hb.trans (hw.mono hb.size)⟩
  refine do_walk v kd nm dst q A lb cb Ab nb cbb w (NilR w kd) ?_ ?_ ?_ ?_ ?_ ?_ ?_ ?_ ?_ ?_
  · exact fun _ => (create_dead v nm _ h').mono ends
  · exact fun _ => (write_dead v nm q A lb cb _ h').mono ends
  · exact fun _ => (sync_dead v nm _ h').mono ends
  · exact fun _ => (syncdir_dead v _ h').mono ends
  · exact fun _ => (move_dead v nm dst _ h').mono ends
  · exact fun _ => (remove_dead v nm _ h').mono ends
  · exact fun hk => (trip_dead v q _ h').mono fun e W' ⟨he, hw⟩ => ⟨he, fun h => by omega, hw ▸ hb⟩
  · exact fun hk => (stop_dead v q _ h').mono fun e W' ⟨he, hw⟩ => ⟨he, fun h => by omega, hw ▸ hb⟩
  · exact fun hk => (reboot_dead v _ q _ h').mono fun e W' ⟨he, hw⟩ => ⟨he, fun h => by omega, hw ▸ hb⟩
  · exact fun hk => ⟨fun h => by omega, hb⟩

set_option maxHeartbeats 4000000 in
set_option maxRecDepth 100000 in
theorem knil_walk (kd : Int) (nm dst : ByteArray) (q : Int) (A : Option Addr) (lb cb : Nat) (Ab : Option Addr) (nb cbb : Nat) (w : World) :
    Calls Tryz.prog 5 #[.agg (xv kd nm dst q A lb cb Ab nb cbb)] w fun e w' => e = .returned (.bool true) ∧ Below w.heap.size w w' := by
  have X0 := Lib.hid (Blk.made w (xv kd nm dst q A lb cb Ab nb cbb) 41)
  have B0 := Lib.hid (below_made w (.cells (xv kd nm dst q A lb cb Ab nb cbb) 41))
  have AW := Lib.hid (fun W => kawake_any W)
  unfold xv at *
  go_enter Tryz.func5, Tryz.ntmps5
  go_wp2_with fail
  have LX := Lib.hid (show w.heap.size < _ from X0.out.lt)
  generalize hw0 : World.alloc _ _ = w0 at *
  clear hw0
  go_loopw [3, 4] (fun d i wr => ∃ k : Nat, k ≤ 2 ∧ i = .int .i64 (k : Int) ∧ Dead wr d ∧ Below w0.heap.size w0 wr) (fun d i _ => 2 - (intOf i).toNat)
  case atStart => exact ⟨0, by omega, rfl, .inl rfl, Below.refl _ _⟩
  case round =>
    obtain ⟨k, hk, rfl, hd, hb⟩ := hrel
    have HD := Lib.hid hd
    have HB := Lib.hid hb
    clear hd hb
    by_cases hk2 : k < 2
    · have hcb : decide ((k : Int) < 2) = true := by simp; omega
      have X1 := Lib.hid (X0.out.later HB.out)
      obtain ⟨c0, c1, c2, c3, c4, c5⟩ := xv_cells X1.out
      have hv : u3.oneCell' = true := by rcases HD.out with rfl | ⟨p, rfl, _⟩ <;> rfl
      obtain ⟨a, rfl⟩ : ∃ a, u3 = .pointer a := by rcases HD.out with rfl | ⟨p, rfl, _⟩ <;> exact ⟨_, rfl⟩
      clear hv
      go_wp2_with fail
      refine (do_dead _ _ _ _ _ _ _ _ _ _ _ _ HD.out).mono ?_
      rintro e w1 ⟨er, rfl, hz, hb⟩
      have HZ := Lib.hid hz
      have D1 := Lib.hid (HD.out.later hb)
      have B1 := Lib.hid (HB.out.trans (hb.mono HB.out.size))
      clear hz hb c0 c1 c2 c3 c4 c5
      obtain ⟨c0, c1, c2, c3, c4, c5⟩ := xv_cells (X0.out.later B1.out)
      go_wp2_with fail
      refine (read_dead _ nm _ D1.out).mono ?_
      rintro e w2 ⟨rfl, rfl⟩
      have hcase : kd < 0 ∨ (0 ≤ kd ∧ kd < 6) ∨ 6 ≤ kd := by omega
      rcases hcase with hc | hc | hc
      case' inl => have g0 : decide (0 ≤ kd) = false := by simp; omega
      case' inr.inl =>
        have g0 : decide (0 ≤ kd) = true := by simp; omega
        have g1 : decide (kd < 6) = true := by simp; omega
        have g2 := HZ.out hc
        subst g2
      case' inr.inr =>
        have g0 : decide (0 ≤ kd) = true := by simp; omega
        have g1 : decide (kd < 6) = false := by simp; omega
      all_goals
        clear HZ hc
        go_wp2_with fail
        refine (list_dead _ _ D1.out).mono ?_
        rintro e w2 ⟨rfl, rfl⟩
        go_wp2_with fail
        refine (used_dead _ _ D1.out).mono ?_
        rintro e w2 ⟨rfl, rfl⟩
        go_wp2_with fail
        refine (ops_dead _ _ D1.out).mono ?_
        rintro e w2 ⟨rfl, rfl⟩
        go_wp2_with fail
        refine (down_dead _ _ D1.out).mono ?_
        rintro e w2 ⟨rfl, rfl⟩
        have B2 := Lib.hid (B1.out.trans ((below_made w1 (.cells #[.int .i64 0, .slice none 0 0, .slice none 0 0, .slice none 0 0, .map none, .int .i64 0, .int .i64 0, .int .i64 0, .int .i64 0, .bool false] 59)).mono B1.out.size))
        have Z2 := Lib.hid (show ZBox (w1.alloc (.cells #[.int .i64 0, .slice none 0 0, .slice none 0 0, .slice none 0 0, .map none, .int .i64 0, .int .i64 0, .int .i64 0, .int .i64 0, .bool false] 59)) w1.heap.size from heap_alloc_new w1 _)
        clear D1 B1 HD HB c0 c1 c2 c3 c4 c5
        go_wp2_with fail
        go_roundw
        case rel => exact ⟨k + 1, by omega, by go_num, .inr ⟨_, rfl, Z2.out⟩, B2.out⟩
        case measure => simp [intOf]; omega
    · have hcb : decide ((k : Int) < 2) = false := by simp; omega
      go_wp2_with fail
      refine (AW.out _).mono ?_
      rintro e w1 ⟨rfl, hb⟩
      have HB1 := Lib.hid (HB.out.trans (hb.mono HB.out.size))
      clear hb HB HD AW
      go_wp2_with fail
      go_ret
      exact ⟨rfl, B0.out.trans (HB1.out.mono B0.out.size)⟩
end Go.Proofs.YtaklilhnikmmfaaGreat
