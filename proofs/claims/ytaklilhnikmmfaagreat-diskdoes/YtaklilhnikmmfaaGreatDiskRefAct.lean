/-
  The walk of the reference's Do: what each kind of act calls.
-/
import Derived.Test.YtaklilhnikmmfaaGreatDiskDo
import Derived.Test.YtaklilhnikmmfaaGreatDiskRefWrite
namespace Go.Proofs.YtaklilhnikmmfaaGreat
open Go.RowKit StrM BlockM FileM DirM DiskM

theorem max_run (a : Int) (W : World) : (Builtin.max_ #[3, 3] 3 #[.int .i64 a, .int .i64 0]).run Tryz.prog W = .ok (.int .i64 (max a 0)) W := by
  rw [run_max_int2]
  congr 2
  split <;> omega

set_option maxHeartbeats 4000000 in
set_option maxRecDepth 100000 in
theorem rdo_walk (q0 : Nat) (kd : Int) (nm dst : ByteArray) (q : Int) (A : Option Addr) (lb cb : Nat) (Ab : Option Addr) (nb cbb : Nat) (w : World) (R : Int → World → Prop) (hq : q0 < w.heap.size) {n6 n7 : Int} (e6 : w.cell? ⟨q0, 6, none⟩ = some (.int .i64 n6)) (e7 : w.cell? ⟨q0, 7, none⟩ = some (.int .i64 n7)) (f6 : w.frozen? ⟨q0, 6, none⟩ = false) (f7 : w.frozen? ⟨q0, 7, none⟩ = false)
    (h0 : kd = 0 → Calls Tryz.prog 32 #[.pointer (some ⟨q0, 0, none⟩), .agg #[.int .i64 1, .string nm, .string ⟨#[]⟩, .int .i64 0]] (w.alloc (.cells (xv kd nm dst q A lb cb Ab nb cbb) 41)) (DoPost R))
    (h1 : kd = 1 → Calls Tryz.prog 33 #[.pointer (some ⟨q0, 0, none⟩), .string nm, .int .i64 q, .slice A lb cb] (w.alloc (.cells (xv kd nm dst q A lb cb Ab nb cbb) 41)) (DoPost R))
    (h2 : kd = 2 → Calls Tryz.prog 34 #[.pointer (some ⟨q0, 0, none⟩), .string nm] (w.alloc (.cells (xv kd nm dst q A lb cb Ab nb cbb) 41)) (DoPost R))
    (h3 : kd = 3 → Calls Tryz.prog 35 #[.pointer (some ⟨q0, 0, none⟩)] (w.alloc (.cells (xv kd nm dst q A lb cb Ab nb cbb) 41)) (DoPost R))
    (h4 : kd = 4 → Calls Tryz.prog 32 #[.pointer (some ⟨q0, 0, none⟩), .agg #[.int .i64 2, .string nm, .string dst, .int .i64 0]] (w.alloc (.cells (xv kd nm dst q A lb cb Ab nb cbb) 41)) (DoPost R))
    (h5 : kd = 5 → Calls Tryz.prog 32 #[.pointer (some ⟨q0, 0, none⟩), .agg #[.int .i64 3, .string nm, .string ⟨#[]⟩, .int .i64 0]] (w.alloc (.cells (xv kd nm dst q A lb cb Ab nb cbb) 41)) (DoPost R))
    (h6 : kd = 6 → R 0 ((w.setCell ⟨q0, 6, none⟩ (.int .i64 (max q 0))).alloc (.cells (xv kd nm dst q A lb cb Ab nb cbb) 41)))
    (h7 : kd = 7 → R 0 ((w.setCell ⟨q0, 7, none⟩ (.int .i64 (max q 0))).alloc (.cells (xv kd nm dst q A lb cb Ab nb cbb) 41)))
    (h8 : kd = 8 → Calls Tryz.prog 36 #[.pointer (some ⟨q0, 0, none⟩), .slice Ab nb cbb, .int .i64 q] (w.alloc (.cells (xv kd nm dst q A lb cb Ab nb cbb) 41)) (VoPost R))
    (h9 : kd < 0 ∨ 8 < kd → R 0 (w.alloc (.cells (xv kd nm dst q A lb cb Ab nb cbb) 41))) :
    Calls Tryz.prog 11 #[.pointer (some ⟨q0, 0, none⟩), .agg (xv kd nm dst q A lb cb Ab nb cbb)] w (DoPost R) := by
  have X0 := Lib.hid (Blk.made w (xv kd nm dst q A lb cb Ab nb cbb) 41)
  have H0 := Lib.hid h0
  have H1 := Lib.hid h1
  have H2 := Lib.hid h2
  have H3 := Lib.hid h3
  have H4 := Lib.hid h4
  have H5 := Lib.hid h5
  have H6 := Lib.hid h6
  have H7 := Lib.hid h7
  have H8 := Lib.hid h8
  have H9 := Lib.hid h9
  clear h0 h1 h2 h3 h4 h5 h6 h7 h8 h9
  unfold xv at *
  go_enter Tryz.func11, Tryz.ntmps11
  rcases (show kd = 0 ∨ kd = 1 ∨ kd = 2 ∨ kd = 3 ∨ kd = 4 ∨ kd = 5 ∨ kd = 6 ∨ kd = 7 ∨ kd = 8 ∨ (kd < 0 ∨ 8 < kd) by omega) with hk | hk | hk | hk | hk | hk | hk | hk | hk | hk
  · have C := Lib.hid (H0.out hk)
    subst hk
    obtain ⟨c0, c1, c2, c3, c4, c5⟩ := xv_cells X0.out
    clear H0 H1 H2 H3 H4 H5 H6 H7 H8 H9 X0
    go_wp2_with fail
    refine C.out.mono ?_
    rintro e w' ⟨er, rfl, hr⟩
    have HR := Lib.hid hr
    clear C hr c0 c1 c2 c3 c4 c5
    go_wp2_with fail
    go_ret
    exact ⟨_, rfl, HR.out⟩
  · have C := Lib.hid (H1.out hk)
    subst hk
    obtain ⟨c0, c1, c2, c3, c4, c5⟩ := xv_cells X0.out
    clear H0 H1 H2 H3 H4 H5 H6 H7 H8 H9 X0
    go_wp2_with fail
    refine C.out.mono ?_
    rintro e w' ⟨er, rfl, hr⟩
    have HR := Lib.hid hr
    clear C hr c0 c1 c2 c3 c4 c5
    go_wp2_with fail
    go_ret
    exact ⟨_, rfl, HR.out⟩
  · have C := Lib.hid (H2.out hk)
    subst hk
    obtain ⟨c0, c1, c2, c3, c4, c5⟩ := xv_cells X0.out
    clear H0 H1 H2 H3 H4 H5 H6 H7 H8 H9 X0
    go_wp2_with fail
    refine C.out.mono ?_
    rintro e w' ⟨er, rfl, hr⟩
    have HR := Lib.hid hr
    clear C hr c0 c1 c2 c3 c4 c5
    go_wp2_with fail
    go_ret
    exact ⟨_, rfl, HR.out⟩
  · have C := Lib.hid (H3.out hk)
    subst hk
    obtain ⟨c0, c1, c2, c3, c4, c5⟩ := xv_cells X0.out
    clear H0 H1 H2 H3 H4 H5 H6 H7 H8 H9 X0
    go_wp2_with fail
    refine C.out.mono ?_
    rintro e w' ⟨er, rfl, hr⟩
    have HR := Lib.hid hr
    clear C hr c0 c1 c2 c3 c4 c5
    go_wp2_with fail
    go_ret
    exact ⟨_, rfl, HR.out⟩
  · have C := Lib.hid (H4.out hk)
    subst hk
    obtain ⟨c0, c1, c2, c3, c4, c5⟩ := xv_cells X0.out
    clear H0 H1 H2 H3 H4 H5 H6 H7 H8 H9 X0
    go_wp2_with fail
    refine C.out.mono ?_
    rintro e w' ⟨er, rfl, hr⟩
    have HR := Lib.hid hr
    clear C hr c0 c1 c2 c3 c4 c5
    go_wp2_with fail
    go_ret
    exact ⟨_, rfl, HR.out⟩
  · have C := Lib.hid (H5.out hk)
    subst hk
    obtain ⟨c0, c1, c2, c3, c4, c5⟩ := xv_cells X0.out
    clear H0 H1 H2 H3 H4 H5 H6 H7 H8 H9 X0
    go_wp2_with fail
    refine C.out.mono ?_
    rintro e w' ⟨er, rfl, hr⟩
    have HR := Lib.hid hr
    clear C hr c0 c1 c2 c3 c4 c5
    go_wp2_with fail
    go_ret
    exact ⟨_, rfl, HR.out⟩
  · have HR := Lib.hid (H6.out hk)
    subst hk
    obtain ⟨c0, c1, c2, c3, c4, c5⟩ := xv_cells X0.out
    have MX := fun W => max_run q W
    have d6 := (below_made w (.cells #[.int .i64 6, .string nm, .string dst, .int .i64 q, .slice A lb cb, .slice Ab nb cbb] 41)).cell (p := ⟨q0, 6, none⟩) hq
    rw [e6] at d6
    clear H0 H1 H2 H3 H4 H5 H6 H7 H8 H9 X0
    go_wp2_with fail
    go_ret
    exact ⟨_, rfl, HR.out⟩
  · have HR := Lib.hid (H7.out hk)
    subst hk
    obtain ⟨c0, c1, c2, c3, c4, c5⟩ := xv_cells X0.out
    have MX := fun W => max_run q W
    have d7 := (below_made w (.cells #[.int .i64 7, .string nm, .string dst, .int .i64 q, .slice A lb cb, .slice Ab nb cbb] 41)).cell (p := ⟨q0, 7, none⟩) hq
    rw [e7] at d7
    clear H0 H1 H2 H3 H4 H5 H6 H7 H8 H9 X0
    go_wp2_with fail
    go_ret
    exact ⟨_, rfl, HR.out⟩
  · have C := Lib.hid (H8.out hk)
    subst hk
    obtain ⟨c0, c1, c2, c3, c4, c5⟩ := xv_cells X0.out
    clear H0 H1 H2 H3 H4 H5 H6 H7 H8 H9 X0
    go_wp2_with fail
    refine C.out.mono ?_
    rintro e w' ⟨rfl, hr⟩
    have HR := Lib.hid hr
    clear C hr c0 c1 c2 c3 c4 c5
    go_wp2_with fail
    go_ret
    exact ⟨_, rfl, HR.out⟩
  · have HR := Lib.hid (H9.out hk)
    obtain ⟨c0, c1, c2, c3, c4, c5⟩ := xv_cells X0.out
    have k0 : (kd == 0) = false := by simp; omega
    have k1 : (kd == 1) = false := by simp; omega
    have k2 : (kd == 2) = false := by simp; omega
    have k3 : (kd == 3) = false := by simp; omega
    have k4 : (kd == 4) = false := by simp; omega
    have k5 : (kd == 5) = false := by simp; omega
    have k6 : (kd == 6) = false := by simp; omega
    have k7 : (kd == 7) = false := by simp; omega
    have k8 : (kd == 8) = false := by simp; omega
    have d0 : decide (kd = 0) = false := by simp; omega
    have d1 : decide (kd = 1) = false := by simp; omega
    have d2 : decide (kd = 2) = false := by simp; omega
    have d3 : decide (kd = 3) = false := by simp; omega
    have d4 : decide (kd = 4) = false := by simp; omega
    have d5 : decide (kd = 5) = false := by simp; omega
    have d6 : decide (kd = 6) = false := by simp; omega
    have d7 : decide (kd = 7) = false := by simp; omega
    have d8 : decide (kd = 8) = false := by simp; omega
    clear hk H0 H1 H2 H3 H4 H5 H6 H7 H8 H9 X0
    go_wp2_with fail
    go_ret
    exact ⟨_, rfl, HR.out⟩
end Go.Proofs.YtaklilhnikmmfaaGreat
