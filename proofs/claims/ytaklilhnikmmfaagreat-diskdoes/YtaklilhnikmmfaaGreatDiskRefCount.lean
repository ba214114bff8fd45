/-
  The reference's count: a thing that counts.
-/
import Derived.Test.YtaklilhnikmmfaaGreatDiskRefBox
namespace Go.Proofs.YtaklilhnikmmfaaGreat
open Go.RowKit StrM BlockM FileM DirM DiskM

set_option maxHeartbeats 4000000 in
set_option maxRecDepth 100000 in
theorem rcount_any (N q i : Nat) (s : S) (w : World) (h : RD N q s w) (hI : Inv i s) (hi : i ≤ 100) (hd : s.down = false) :
    Calls Tryz.prog 61 #[.pointer (some ⟨q, 0, none⟩)] w (REnd N q (hit s) (ticked s) w) := by
  obtain ⟨r, H⟩ := h
  have FIN := Lib.hid (show ∀ w' r' er, er = hit s → RBox w' q r' → Veer false N q w w' → r'.N = r.N → r'.S = r.S → r'.V = r.V → r'.F = r.F → r'.room = r.room → r'.ops = r.ops + 1 → r'.trip = (if r.trip > 0 then r.trip - 1 else r.trip) → r'.stop = (if r.stop > 0 then r.stop - 1 else r.stop) → r'.down = decide (r.stop = 1) → REnd N q (hit s) (ticked s) w (.returned (.int .i64 er)) w' from by
    intro w' r' er he hb hv e0 e1 e2 e3 e4 e5 e6 e7 e8
    subst he
    refine ⟨rfl, ⟨r', H.turned hI.fine hv hb e0 e1 e2 e3 rfl rfl (e4.trans H.room) ?_ ?_ ?_ ?_⟩, hv⟩
    · rw [e5, H.ops]; rfl
    · rw [e6, H.trip]; exact (tick_max _).symm
    · rw [e7, H.stop]; exact (tick_max _).symm
    · rw [e8, H.stop]
      show _ = decide (s.stop = 1)
      have := max_one s.stop
      simp only [this])
  have HT := Lib.hid (show hit s = if r.stop = 1 then 9 else if r.trip = 1 then 8 else 0 by
    rw [H.stop, H.trip]
    unfold hit
    have h1 := max_one s.stop
    have h2 := max_one s.trip
    simp only [h1, h2])
  have HB := Lib.hid H.box
  have HN := Lib.hid H.base
  obtain ⟨c0, c1, c2, c3, c4, c5, c6, c7, c8⟩ := H.box.cells
  have f5 := H.box.soft 5
  have f6 := H.box.soft 6
  have f7 := H.box.soft 7
  have f8 := H.box.soft 8
  have o0 : 0 ≤ r.ops := by rw [H.ops]; exact hI.ops0
  have o1 : r.ops ≤ 1000 := by rw [H.ops]; have := hI.opsI; omega
  have t0 : 0 ≤ r.trip := by rw [H.trip]; omega
  have t1 : r.trip ≤ 9223372036854775807 := by rw [H.trip]; have := hI.trip1; omega
  have p0 : 0 ≤ r.stop := by rw [H.stop]; omega
  have p1 : r.stop ≤ 9223372036854775807 := by rw [H.stop]; have := hI.stop1; omega
  have dn0 : r.down = false := by rw [H.down]; exact hd
  clear H hI hd
  obtain ⟨room, N', S', V', F', n5, n6, n7, dn⟩ := r
  dsimp only at *
  subst dn0
  clear c0 c1 c2 c3 c4
  have K1 := Lib.hid (HB.out.setOps (n5 + 1))
  have V1 := Lib.hid ((Veer.refl false N q w).set HN.out 5 (.int .i64 (n5 + 1)))
  clear c6 c7 c8 f6 f7 f8
  go_enter Tryz.func61, Tryz.ntmps61
  go_wp2_with fail
  generalize w.setCell ⟨q, 5, none⟩ (.int .i64 (n5 + 1)) = w1 at *
  obtain ⟨-, -, -, -, -, -, c6, c7, -⟩ := K1.out.cells
  dsimp only at c6 c7
  clear c5 f5
  go_quiet (fail)
  have K2 := Lib.hid (show RBox (w1.drewN nq) q _ from K1.out)
  have V2 := Lib.hid (show Veer false N q w (w1.drewN nq) from ⟨⟨V1.out.below.os, V1.out.below.tape, V1.out.below.output, V1.out.below.size, V1.out.below.block⟩, V1.out.keep⟩)
  clear c6 c7 K1 V1
  generalize w1.drewN nq = w2 at *
  obtain ⟨-, -, -, -, -, -, c6, c7, c8⟩ := K2.out.cells
  dsimp only at c6 c7 c8
  have f6 := K2.out.soft 6
  have f7 := K2.out.soft 7
  have f8 := K2.out.soft 8
  have s7 : n7 = 0 ∨ n7 = 1 ∨ 2 ≤ n7 := by omega
  have s6 : n6 = 0 ∨ n6 = 1 ∨ 2 ≤ n6 := by omega
  rcases s7 with e7 | e7 | e7 <;> rcases s6 with e6 | e6 | e6
  · have HT' := HT.out
    have HX := Lib.hid (show (0 : Int) = hit s by rw [HT.out]; rw [if_neg (by omega), if_neg (by omega)])
    clear HT' HT
    subst e7
    subst e6
    go_wp2_with fail
    go_ret
    exact FIN.out _ _ _ HX.out (K2.out) (V2.out) rfl rfl rfl rfl rfl rfl (by first | rfl | (simp; done) | (dsimp only; rw [if_pos (by omega)])) (by first | rfl | (simp; done) | (dsimp only; rw [if_pos (by omega)])) (by first | rfl | (simp; done) | (simp; omega))
  · have HT' := HT.out
    have HX := Lib.hid (show (8 : Int) = hit s by rw [HT.out]; rw [if_neg (by omega), if_pos (by omega)])
    clear HT' HT
    subst e7
    subst e6
    go_wp2_with fail
    go_ret
    exact FIN.out _ _ _ HX.out ((K2.out).setTrip _) ((V2.out.set HN.out 6 _)) rfl rfl rfl rfl rfl rfl (by first | rfl | (simp; done) | (dsimp only; rw [if_pos (by omega)])) (by first | rfl | (simp; done) | (dsimp only; rw [if_pos (by omega)])) (by first | rfl | (simp; done) | (simp; omega))
  · have HT' := HT.out
    have HX := Lib.hid (show (0 : Int) = hit s by rw [HT.out]; rw [if_neg (by omega), if_neg (by omega)])
    clear HT' HT
    subst e7
    have a6 : (n6 == 1) = false := by simp; omega
    have b6 : decide (n6 = 1) = false := by simp; omega
    have d6 : decide (0 < n6) = true := by simp; omega
    go_wp2_with fail
    go_ret
    exact FIN.out _ _ _ HX.out ((K2.out).setTrip _) ((V2.out.set HN.out 6 _)) rfl rfl rfl rfl rfl rfl (by first | rfl | (simp; done) | (dsimp only; rw [if_pos (by omega)])) (by first | rfl | (simp; done) | (dsimp only; rw [if_pos (by omega)])) (by first | rfl | (simp; done) | (simp; omega))
  · have HT' := HT.out
    have HX := Lib.hid (show (9 : Int) = hit s by rw [HT.out]; rw [if_pos (by omega)])
    clear HT' HT
    subst e7
    subst e6
    go_wp2_with fail
    go_ret
    exact FIN.out _ _ _ HX.out (((K2.out).setStop _).setDown _) (((V2.out.set HN.out 7 _).set HN.out 8 _)) rfl rfl rfl rfl rfl rfl (by first | rfl | (simp; done) | (dsimp only; rw [if_pos (by omega)])) (by first | rfl | (simp; done) | (dsimp only; rw [if_pos (by omega)])) (by first | rfl | (simp; done) | (simp; omega))
  · have HT' := HT.out
    have HX := Lib.hid (show (9 : Int) = hit s by rw [HT.out]; rw [if_pos (by omega)])
    clear HT' HT
    subst e7
    subst e6
    go_wp2_with fail
    go_ret
    exact FIN.out _ _ _ HX.out ((((K2.out).setStop _).setTrip _).setDown _) ((((V2.out.set HN.out 7 _).set HN.out 6 _).set HN.out 8 _)) rfl rfl rfl rfl rfl rfl (by first | rfl | (simp; done) | (dsimp only; rw [if_pos (by omega)])) (by first | rfl | (simp; done) | (dsimp only; rw [if_pos (by omega)])) (by first | rfl | (simp; done) | (simp; omega))
  · have HT' := HT.out
    have HX := Lib.hid (show (9 : Int) = hit s by rw [HT.out]; rw [if_pos (by omega)])
    clear HT' HT
    subst e7
    have a6 : (n6 == 1) = false := by simp; omega
    have b6 : decide (n6 = 1) = false := by simp; omega
    have d6 : decide (0 < n6) = true := by simp; omega
    go_wp2_with fail
    go_ret
    exact FIN.out _ _ _ HX.out ((((K2.out).setStop _).setTrip _).setDown _) ((((V2.out.set HN.out 7 _).set HN.out 6 _).set HN.out 8 _)) rfl rfl rfl rfl rfl rfl (by first | rfl | (simp; done) | (dsimp only; rw [if_pos (by omega)])) (by first | rfl | (simp; done) | (dsimp only; rw [if_pos (by omega)])) (by first | rfl | (simp; done) | (simp; omega))
  · have HT' := HT.out
    have HX := Lib.hid (show (0 : Int) = hit s by rw [HT.out]; rw [if_neg (by omega), if_neg (by omega)])
    clear HT' HT
    have a7 : (n7 == 1) = false := by simp; omega
    have b7 : decide (n7 = 1) = false := by simp; omega
    have d7 : decide (0 < n7) = true := by simp; omega
    subst e6
    go_wp2_with fail
    go_ret
    exact FIN.out _ _ _ HX.out ((K2.out).setStop _) ((V2.out.set HN.out 7 _)) rfl rfl rfl rfl rfl rfl (by first | rfl | (simp; done) | (dsimp only; rw [if_pos (by omega)])) (by first | rfl | (simp; done) | (dsimp only; rw [if_pos (by omega)])) (by first | rfl | (simp; done) | (simp; omega))
  · have HT' := HT.out
    have HX := Lib.hid (show (8 : Int) = hit s by rw [HT.out]; rw [if_neg (by omega), if_pos (by omega)])
    clear HT' HT
    have a7 : (n7 == 1) = false := by simp; omega
    have b7 : decide (n7 = 1) = false := by simp; omega
    have d7 : decide (0 < n7) = true := by simp; omega
    subst e6
    go_wp2_with fail
    go_ret
    exact FIN.out _ _ _ HX.out (((K2.out).setStop _).setTrip _) (((V2.out.set HN.out 7 _).set HN.out 6 _)) rfl rfl rfl rfl rfl rfl (by first | rfl | (simp; done) | (dsimp only; rw [if_pos (by omega)])) (by first | rfl | (simp; done) | (dsimp only; rw [if_pos (by omega)])) (by first | rfl | (simp; done) | (simp; omega))
  · have HT' := HT.out
    have HX := Lib.hid (show (0 : Int) = hit s by rw [HT.out]; rw [if_neg (by omega), if_neg (by omega)])
    clear HT' HT
    have a7 : (n7 == 1) = false := by simp; omega
    have b7 : decide (n7 = 1) = false := by simp; omega
    have d7 : decide (0 < n7) = true := by simp; omega
    have a6 : (n6 == 1) = false := by simp; omega
    have b6 : decide (n6 = 1) = false := by simp; omega
    have d6 : decide (0 < n6) = true := by simp; omega
    go_wp2_with fail
    go_ret
    exact FIN.out _ _ _ HX.out (((K2.out).setStop _).setTrip _) (((V2.out.set HN.out 7 _).set HN.out 6 _)) rfl rfl rfl rfl rfl rfl (by first | rfl | (simp; done) | (dsimp only; rw [if_pos (by omega)])) (by first | rfl | (simp; done) | (dsimp only; rw [if_pos (by omega)])) (by first | rfl | (simp; done) | (simp; omega))
end Go.Proofs.YtaklilhnikmmfaaGreat
