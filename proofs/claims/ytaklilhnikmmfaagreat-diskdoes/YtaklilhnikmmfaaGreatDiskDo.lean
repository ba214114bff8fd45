/-
  The walk of the laws' Do: what each kind of act calls; with a disk that New did not create, and with one that it did.
-/
import Derived.Test.YtaklilhnikmmfaaGreatDiskWoke
namespace Go.Proofs.YtaklilhnikmmfaaGreat
open Go.RowKit StrM BlockM FileM DirM DiskM

/-- An act as the program holds it. -/
def xv (kd : Int) (nm dst : ByteArray) (q : Int) (A : Option Addr) (lb cb : Nat) (Ab : Option Addr) (nb cbb : Nat) : Array Value :=
  #[.int .i64 kd, .string nm, .string dst, .int .i64 q, .slice A lb cb, .slice Ab nb cbb]
def Blk6 (w : World) (p : Nat) (us : Array Value) : Prop := w.heap[p]? = some (.cells us 41)
theorem xv_cells {w : World} {p : Nat} {kd : Int} {nm dst : ByteArray} {q : Int} {A : Option Addr} {lb cb : Nat} {Ab : Option Addr} {nb cbb : Nat} (h : Blk w p (xv kd nm dst q A lb cb Ab nb cbb) 41) :
    w.cell? ⟨p, 0, none⟩ = some (.int .i64 kd) ∧ w.cell? ⟨p, 1, none⟩ = some (.string nm) ∧ w.cell? ⟨p, 2, none⟩ = some (.string dst) ∧ w.cell? ⟨p, 3, none⟩ = some (.int .i64 q) ∧ w.cell? ⟨p, 4, none⟩ = some (.slice A lb cb) ∧ w.cell? ⟨p, 5, none⟩ = some (.slice Ab nb cbb) := by
  unfold Blk at h
  refine ⟨?_, ?_, ?_, ?_, ?_, ?_⟩ <;> (rw [cell_of_row w p _ _ _ (0, 0) h]; rfl)

def DoPost (R : Int → World → Prop) (e : Ending) (w' : World) : Prop := ∃ er, e = .returned (.int .i64 er) ∧ R er w'
def VoPost (R : Int → World → Prop) (e : Ending) (w' : World) : Prop := e = .returned (.tuple #[]) ∧ R 0 w'

set_option maxHeartbeats 4000000 in
set_option maxRecDepth 100000 in
theorem do_walk (v : Value) (kd : Int) (nm dst : ByteArray) (q : Int) (A : Option Addr) (lb cb : Nat) (Ab : Option Addr) (nb cbb : Nat) (w : World) (R : Int → World → Prop)
    (h0 : kd = 0 → Calls Tryz.prog 23 #[v, .string nm] (w.alloc (.cells (xv kd nm dst q A lb cb Ab nb cbb) 41)) (DoPost R))
    (h1 : kd = 1 → Calls Tryz.prog 24 #[v, .string nm, .int .i64 q, .slice A lb cb] (w.alloc (.cells (xv kd nm dst q A lb cb Ab nb cbb) 41)) (DoPost R))
    (h2 : kd = 2 → Calls Tryz.prog 25 #[v, .string nm] (w.alloc (.cells (xv kd nm dst q A lb cb Ab nb cbb) 41)) (DoPost R))
    (h3 : kd = 3 → Calls Tryz.prog 26 #[v] (w.alloc (.cells (xv kd nm dst q A lb cb Ab nb cbb) 41)) (DoPost R))
    (h4 : kd = 4 → Calls Tryz.prog 29 #[v, .string nm, .string dst] (w.alloc (.cells (xv kd nm dst q A lb cb Ab nb cbb) 41)) (DoPost R))
    (h5 : kd = 5 → Calls Tryz.prog 30 #[v, .string nm] (w.alloc (.cells (xv kd nm dst q A lb cb Ab nb cbb) 41)) (DoPost R))
    (h6 : kd = 6 → Calls Tryz.prog 31 #[v, .int .i64 q] (w.alloc (.cells (xv kd nm dst q A lb cb Ab nb cbb) 41)) (VoPost R))
    (h7 : kd = 7 → Calls Tryz.prog 27 #[v, .int .i64 q] (w.alloc (.cells (xv kd nm dst q A lb cb Ab nb cbb) 41)) (VoPost R))
    (h8 : kd = 8 → Calls Tryz.prog 22 #[v, .slice Ab nb cbb, .int .i64 q] (w.alloc (.cells (xv kd nm dst q A lb cb Ab nb cbb) 41)) (VoPost R))
    (h9 : kd < 0 ∨ 8 < kd → R 0 (w.alloc (.cells (xv kd nm dst q A lb cb Ab nb cbb) 41))) :
    Calls Tryz.prog 10 #[v, .agg (xv kd nm dst q A lb cb Ab nb cbb)] w (DoPost R) := by
  have X0 := Lib.hid (Blk.made w (xv kd nm dst q A lb cb Ab nb cbb) 41)
  have H0 := Lib.hid h0
  have H1 := Lib.hid h1
  have H2 := Lib.hid h2
  have H3 := Lib.hid h3
  have H4 := Lib.hid h4
  have H5 := Lib.hid h5
  have H6 := Lib.hid h6
  have H7 := Lib.hid h7
  have H8 := Lib.hid h8
  have H9 := Lib.hid h9
  clear h0 h1 h2 h3 h4 h5 h6 h7 h8 h9
  unfold xv at *
  go_enter Tryz.func10, Tryz.ntmps10
  rcases (show kd = 0 ∨ kd = 1 ∨ kd = 2 ∨ kd = 3 ∨ kd = 4 ∨ kd = 5 ∨ kd = 6 ∨ kd = 7 ∨ kd = 8 ∨ (kd < 0 ∨ 8 < kd) by omega) with hk | hk | hk | hk | hk | hk | hk | hk | hk | hk
  · have C := Lib.hid (H0.out hk)
    subst hk
    obtain ⟨c0, c1, c2, c3, c4, c5⟩ := xv_cells X0.out
    clear H0 H1 H2 H3 H4 H5 H6 H7 H8 H9 X0
    go_wp2_with fail
    refine C.out.mono ?_
    rintro e w' ⟨er, rfl, hr⟩
    have HR := Lib.hid hr
    clear C hr c0 c1 c2 c3 c4 c5
    go_wp2_with fail
    go_ret
    exact ⟨_, rfl, HR.out⟩
  · have C := Lib.hid (H1.out hk)
    subst hk
    obtain ⟨c0, c1, c2, c3, c4, c5⟩ := xv_cells X0.out
    clear H0 H1 H2 H3 H4 H5 H6 H7 H8 H9 X0
    go_wp2_with fail
    refine C.out.mono ?_
    rintro e w' ⟨er, rfl, hr⟩
    have HR := Lib.hid hr
    clear C hr c0 c1 c2 c3 c4 c5
    go_wp2_with fail
    go_ret
    exact ⟨_, rfl, HR.out⟩
  · have C := Lib.hid (H2.out hk)
    subst hk
    obtain ⟨c0, c1, c2, c3, c4, c5⟩ := xv_cells X0.out
    clear H0 H1 H2 H3 H4 H5 H6 H7 H8 H9 X0
    go_wp2_with fail
    refine C.out.mono ?_
    rintro e w' ⟨er, rfl, hr⟩
    have HR := Lib.hid hr
    clear C hr c0 c1 c2 c3 c4 c5
    go_wp2_with fail
    go_ret
    exact ⟨_, rfl, HR.out⟩
  · have C := Lib.hid (H3.out hk)
    subst hk
    obtain ⟨c0, c1, c2, c3, c4, c5⟩ := xv_cells X0.out
    clear H0 H1 H2 H3 H4 H5 H6 H7 H8 H9 X0
    go_wp2_with fail
    refine C.out.mono ?_
    rintro e w' ⟨er, rfl, hr⟩
    have HR := Lib.hid hr
    clear C hr c0 c1 c2 c3 c4 c5
    go_wp2_with fail
    go_ret
    exact ⟨_, rfl, HR.out⟩
  · have C := Lib.hid (H4.out hk)
    subst hk
    obtain ⟨c0, c1, c2, c3, c4, c5⟩ := xv_cells X0.out
    clear H0 H1 H2 H3 H4 H5 H6 H7 H8 H9 X0
    go_wp2_with fail
    refine C.out.mono ?_
    rintro e w' ⟨er, rfl, hr⟩
    have HR := Lib.hid hr
    clear C hr c0 c1 c2 c3 c4 c5
    go_wp2_with fail
    go_ret
    exact ⟨_, rfl, HR.out⟩
  · have C := Lib.hid (H5.out hk)
    subst hk
    obtain ⟨c0, c1, c2, c3, c4, c5⟩ := xv_cells X0.out
    clear H0 H1 H2 H3 H4 H5 H6 H7 H8 H9 X0
    go_wp2_with fail
    refine C.out.mono ?_
    rintro e w' ⟨er, rfl, hr⟩
    have HR := Lib.hid hr
    clear C hr c0 c1 c2 c3 c4 c5
    go_wp2_with fail
    go_ret
    exact ⟨_, rfl, HR.out⟩
  · have C := Lib.hid (H6.out hk)
    subst hk
    obtain ⟨c0, c1, c2, c3, c4, c5⟩ := xv_cells X0.out
    clear H0 H1 H2 H3 H4 H5 H6 H7 H8 H9 X0
    go_wp2_with fail
    refine C.out.mono ?_
    rintro e w' ⟨rfl, hr⟩
    have HR := Lib.hid hr
    clear C hr c0 c1 c2 c3 c4 c5
    go_wp2_with fail
    go_ret
    exact ⟨_, rfl, HR.out⟩
  · have C := Lib.hid (H7.out hk)
    subst hk
    obtain ⟨c0, c1, c2, c3, c4, c5⟩ := xv_cells X0.out
    clear H0 H1 H2 H3 H4 H5 H6 H7 H8 H9 X0
    go_wp2_with fail
    refine C.out.mono ?_
    rintro e w' ⟨rfl, hr⟩
    have HR := Lib.hid hr
    clear C hr c0 c1 c2 c3 c4 c5
    go_wp2_with fail
    go_ret
    exact ⟨_, rfl, HR.out⟩
  · have C := Lib.hid (H8.out hk)
    subst hk
    obtain ⟨c0, c1, c2, c3, c4, c5⟩ := xv_cells X0.out
    clear H0 H1 H2 H3 H4 H5 H6 H7 H8 H9 X0
    go_wp2_with fail
    refine C.out.mono ?_
    rintro e w' ⟨rfl, hr⟩
    have HR := Lib.hid hr
    clear C hr c0 c1 c2 c3 c4 c5
    go_wp2_with fail
    go_ret
    exact ⟨_, rfl, HR.out⟩
  · have HR := Lib.hid (H9.out hk)
    obtain ⟨c0, c1, c2, c3, c4, c5⟩ := xv_cells X0.out
    have k0 : (kd == 0) = false := by simp; omega
    have k1 : (kd == 1) = false := by simp; omega
    have k2 : (kd == 2) = false := by simp; omega
    have k3 : (kd == 3) = false := by simp; omega
    have k4 : (kd == 4) = false := by simp; omega
    have k5 : (kd == 5) = false := by simp; omega
    have k6 : (kd == 6) = false := by simp; omega
    have k7 : (kd == 7) = false := by simp; omega
    have k8 : (kd == 8) = false := by simp; omega
    have d0 : decide (kd = 0) = false := by simp; omega
    have d1 : decide (kd = 1) = false := by simp; omega
    have d2 : decide (kd = 2) = false := by simp; omega
    have d3 : decide (kd = 3) = false := by simp; omega
    have d4 : decide (kd = 4) = false := by simp; omega
    have d5 : decide (kd = 5) = false := by simp; omega
    have d6 : decide (kd = 6) = false := by simp; omega
    have d7 : decide (kd = 7) = false := by simp; omega
    have d8 : decide (kd = 8) = false := by simp; omega
    clear hk H0 H1 H2 H3 H4 H5 H6 H7 H8 H9 X0
    go_wp2_with fail
    go_ret
    exact ⟨_, rfl, HR.out⟩
end Go.Proofs.YtaklilhnikmmfaaGreat
