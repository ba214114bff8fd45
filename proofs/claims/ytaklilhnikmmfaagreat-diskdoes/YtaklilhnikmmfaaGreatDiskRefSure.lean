/-
  What a thing done to the reference's disk leaves: common lemmas; its SyncDir.
-/
import Derived.Test.YtaklilhnikmmfaaGreatDiskRefCount
namespace Go.Proofs.YtaklilhnikmmfaaGreat
open Go.RowKit StrM BlockM FileM DirM DiskM

theorem name_small {s : ByteArray} (h : nameOk s = true) : s.size ≤ maxLen := by
  unfold nameOk at h
  simp at h
  unfold maxLen
  omega
theorem dsz_of {i : Nat} {s : S} (hI : Inv i s) (hi : i ≤ 100) : DSz s.dir := by
  have h := (valid_iff.1 hI.dirs).1
  exact ⟨by have := h.few; omega, by have := hI.pend; omega, fun x hx => name_small (h.names x hx), hI.ops⟩
theorem RHeld.low {w : World} {N q : Nat} {s : S} {r : RR} (h : RHeld w N q s r) (hv : ∀ f ∈ s.files, FileM.valid f = true) (w0 : World) (h0 : Veer false N q w0 w) :
    RD N q (low s) (w.setCell ⟨q, 5, none⟩ (.int .i64 (r.ops + 1))) ∧ Veer false N q w0 (w.setCell ⟨q, 5, none⟩ (.int .i64 (r.ops + 1))) := by
  have hw := (Veer.refl false N q w).set h.base 5 (.int .i64 (r.ops + 1))
  exact ⟨⟨_, h.turned hv hw (h.box.setOps _) rfl rfl rfl rfl rfl rfl h.room (by show r.ops + 1 = s.ops + 1; rw [h.ops]) h.trip h.stop h.down⟩, h0.set h.base 5 _⟩
theorem RHeld.setDir {w w0 : World} {N q : Nat} {s : S} {r : RR} {d : DirM.D} {A B C : Value} (h : RHeld w N q s r) (hv : ∀ f ∈ s.files, FileM.valid f = true) (hd : SeesD w (.agg #[A, B, C]) d) (h0 : Veer false N q w0 w) :
    RD N q { s with dir := d } (((w.setCell ⟨q, 1, none⟩ A).setCell ⟨q, 2, none⟩ B).setCell ⟨q, 3, none⟩ C) ∧ Veer false N q w0 (((w.setCell ⟨q, 1, none⟩ A).setCell ⟨q, 2, none⟩ B).setCell ⟨q, 3, none⟩ C) := by
  have hw := (((Veer.refl false N q w).set h.base 1 A).set h.base 2 B).set h.base 3 C
  have hs := h.shell
  exact ⟨⟨_, { h with box := h.box.setN A B C, dir := hd.veer hw hs, files := h.files.veer hv hw hs h.box (by decide) }⟩, ((h0.set h.base 1 A).set h.base 2 B).set h.base 3 C⟩
theorem RHeld.setFiles {w w0 : World} {N q : Nat} {s : S} {r : RR} {fs : List Fl} {F : Value} (h : RHeld w N q s r) (hv : ∀ f ∈ fs, FileM.valid f = true) (hf : FsIn w F fs) (h0 : Veer false N q w0 w) :
    RD N q { s with files := fs } (w.setCell ⟨q, 4, none⟩ F) ∧ Veer false N q w0 (w.setCell ⟨q, 4, none⟩ F) := by
  have hw := (Veer.refl false N q w).set h.base 4 F
  have hs := h.shell
  exact ⟨⟨_, { h with box := h.box.setF F, dir := h.dir.veer hw hs, files := hf.veer hv hw hs h.box (by decide) }⟩, h0.set h.base 4 F⟩
theorem RD.later {w w' : World} {N q : Nat} {s : S} (h : RD N q s w) (hb : Below w.heap.size w w') : RD N q s w' := by
  obtain ⟨r, H⟩ := h
  exact ⟨r, H.later hb⟩
theorem RD.baseW {w : World} {N q : Nat} {s : S} (h : RD N q s w) : N ≤ w.heap.size := by
  obtain ⟨r, H⟩ := h
  exact H.baseW

set_option maxHeartbeats 4000000 in
set_option maxRecDepth 100000 in
theorem rsyncdir_any (N q i : Nat) (s : S) (w : World) (h : RD N q s w) (hI : Inv i s) (hi : i ≤ 100) :
    Calls Tryz.prog 35 #[.pointer (some ⟨q, 0, none⟩)] w (REnd N q (syncDE s) (syncDS s) w) := by
  cases hd : s.down
  case' true =>
    obtain ⟨r, H⟩ := h
    have LO := Lib.hid (H.low hI.fine w (Veer.refl _ _ _ _))
    have o0 : 0 ≤ r.ops := by rw [H.ops]; exact hI.ops0
    have o1 : r.ops ≤ 1000 := by rw [H.ops]; have := hI.opsI; omega
    have E1 : syncDE s = 9 := by unfold syncDE; rw [hd]; rfl
    have E2 : syncDS s = low s := by unfold syncDS; rw [hd]; rfl
    rw [E1, E2]
    obtain ⟨-, -, -, -, -, c5, -, -, c8⟩ := H.box.cells
    rw [H.down, hd] at c8
    have f5 := H.box.soft 5
    generalize r.ops = n5 at *
    clear H hI hd E1 E2
    go_enter Tryz.func35, Tryz.ntmps35
    go_wp2_with fail
    go_ret
    exact ⟨rfl, LO.out.1, LO.out.2⟩
  case' false =>
    have CT := Lib.hid (rcount_any N q i s w h hI hi hd)
    have HI := Lib.hid hI
    have HZ := Lib.hid (dsz_of hI hi)
    have E1 : syncDE s = hit s := by unfold syncDE; rw [hd]; rfl
    have E2 : syncDS s = if hit s = 0 then { ticked s with dir := syn s.dir } else ticked s := by unfold syncDS; rw [hd]; rfl
    have HE2 := Lib.hid E2
    rw [E1]
    clear E1 E2
    have ED := Lib.hid (show (ticked s).dir = s.dir from rfl)
    have EF := Lib.hid (show (ticked s).files = s.files from rfl)
    obtain ⟨r, H⟩ := h
    obtain ⟨-, -, -, -, -, -, -, -, c8⟩ := H.box.cells
    rw [H.down, hd] at c8
    clear H hI hd
    generalize syncDS s = s' at *
    generalize ticked s = st at *
    generalize hit s = er at *
    go_enter Tryz.func35, Tryz.ntmps35
    go_wp2_with fail
    refine CT.out.mono ?_
    rintro e w1 ⟨rfl, hR, hV⟩
    have V1 := Lib.hid hV
    clear hV c8 CT
    by_cases ht : er = 0
    · have HX := Lib.hid (show s' = { st with dir := syn s.dir } by rw [HE2.out, if_pos ht])
      subst ht
      obtain ⟨r1, H1⟩ := hR
      have R1 := Lib.hid H1
      obtain ⟨A0, n0, c0, A1, n1, c1, A2, n2, c2, f0, f1, f2, -⟩ := H1.entries
      obtain ⟨-, x1, x2, x3, -⟩ := H1.box.cells
      rw [f0] at x1
      rw [f1] at x2
      rw [f2] at x3
      have SY := Lib.hid (rdsync_any (.agg #[.slice A0 n0 c0, .slice A1 n1 c1, .slice A2 n2 c2]) s.dir w1 (by have := H1.dir; rwa [f0, f1, f2, ED.out] at this) HZ.out)
      clear H1 f0 f1 f2 HE2
      go_wp2_with fail
      refine SY.out.mono ?_
      rintro e w2 ⟨v, rfl, hs, hb⟩
      obtain ⟨B0, d0, B1, d1, B2, d2, rfl, -, -, -⟩ := hs.slices
      have R2 := Lib.hid (R1.out.later hb)
      have FIN := Lib.hid (R2.out.setDir (by rw [EF.out]; exact HI.out.fine) hs (V1.out.trans (Veer.of_below hb R1.out.baseW)))
      obtain ⟨-, x1, x2, x3, -⟩ := R2.out.box.cells
      have f1 := R2.out.box.soft 1
      have f2 := R2.out.box.soft 2
      have f3 := R2.out.box.soft 3
      rw [← HX.out] at FIN
      generalize (syn s.dir).now.length = m0 at *
      generalize (syn s.dir).sure.length = m1 at *
      generalize (syn s.dir).pend.length = m2 at *
      clear hs hb SY R1 R2 V1
      go_wp2_with fail
      go_ret
      exact ⟨rfl, FIN.out.1, FIN.out.2⟩
    · have HX := Lib.hid (show s' = st by rw [HE2.out, if_neg ht])
      have a1 : (er == 0) = false := by simpa using ht
      have a2 : decide (er = 0) = false := by simpa using ht
      have R1 := Lib.hid hR
      clear hR ht
      go_wp2_with fail
      go_ret
      exact ⟨rfl, by rw [HX.out]; exact R1.out, V1.out⟩
end Go.Proofs.YtaklilhnikmmfaaGreat
