/-
  The walk of the example that the statements of layer 11 share: awake returns true, and makes only new memory.
-/
import Derived.Test.YtaklilhnikmmfaaGreatDiskEnds
namespace Go.Proofs.YtaklilhnikmmfaaGreat
open Go.RowKit StrM BlockM FileM DirM DiskM

theorem iv0 : Inv 0 t0 := init_inv (by decide) (by decide)
theorem ok_na : na.size ≤ 60 := by decide
theorem ok_link : OkO ⟨1, na, ⟨#[]⟩, 0⟩ := small_ok ok_na (by decide) _ _
theorem iv1 : Inv 1 t1 := by have := iv0.dirS ok_link; rwa [st1.2] at this
theorem iv2 : Inv 2 t2 := by
  have h := iv1.newF na 0 (b := [1, 2]) (by decide)
  have := iv1.fS (nm := na) (e := wE t1 na 0 [1, 2]) h.1 h.2
  rwa [st2.2] at this
theorem iv3 : Inv 3 t3 := by
  have := iv2.fS (nm := na) (e := 0) (f := FileM.syn (DiskM.file t2 na)) (FileM.valid_syn _) (by rw [DiskM.pend_syn]; exact Nat.zero_le _)
  rwa [st3.2] at this
theorem iv4 : Inv 4 t4 := by have := iv3.syncDS; rwa [st4.2] at this
theorem iv5 : Inv 5 t5 := by
  have h := iv4.newF na 1 (b := [9]) (by decide)
  have := iv4.fS (nm := na) (e := wE t4 na 1 [9]) h.1 h.2
  rwa [st5.2] at this
theorem iv6 : Inv 5 t6 := { iv5 with stop0 := by decide, stop1 := by decide }
theorem iv7 : Inv 6 t7 := by
  have h := iv6.newF na 0 (b := [7]) (by decide)
  have := iv6.fS (nm := na) (e := wE t6 na 0 [7]) h.1 h.2
  rwa [st7.2] at this
theorem iv8 : Inv 6 t8 := by have := iv7.reboot [] 0; rwa [st8] at this

theorem aw1 (N p : Nat) (w : World) (h : CD N p 0 t0 w) : Calls Tryz.prog 23 #[.pointer (some ⟨p, 0, none⟩), .string ⟨#[97]⟩] w (KEnd N p 1 0 t1 w) := by
  have := create_any N p 0 t0 na w h iv0 (by decide)
  rw [st1.1, st1.2] at this
  exact this
theorem aw2 (N p : Nat) (w : World) (h : CD N p 1 t1 w) : Calls Tryz.prog 24 #[.pointer (some ⟨p, 0, none⟩), .string ⟨#[97]⟩, .int .i64 0, .slice (some ⟨w.heap.size, 0, none⟩) 2 2] (w.alloc (.cells #[.int .u8 1, .int .u8 2] 5)) (KEnd N p 2 0 t2 w) := by
  have hb := below_made w (.cells #[.int .u8 1, .int .u8 2] 5)
  have := write_any N p 1 t1 na 0 (some ⟨w.heap.size, 0, none⟩) 2 2 [1, 2] _ (h.later hb) iv1 (by decide) (SeesV.of_own (own_built w [1, 2] (by unfold maxLen; simp))) rfl (by decide) (by decide) (by decide)
  rw [st2.1, st2.2] at this
  exact this.mono fun e w' ⟨he, hc, hv⟩ => ⟨he, hc, (Veer.of_below hb h.baseW).trans hv⟩
theorem aw3 (N p : Nat) (w : World) (h : CD N p 2 t2 w) : Calls Tryz.prog 25 #[.pointer (some ⟨p, 0, none⟩), .string ⟨#[97]⟩] w (KEnd N p 3 0 t3 w) := by
  have := sync_any N p 2 t2 na w h iv2 (by decide)
  rw [st3.1, st3.2] at this
  exact this
theorem aw4 (N p : Nat) (w : World) (h : CD N p 3 t3 w) : Calls Tryz.prog 26 #[.pointer (some ⟨p, 0, none⟩)] w (KEnd N p 4 0 t4 w) := by
  have := syncdir_any N p 3 t3 w h iv3 (by decide)
  rw [st4.1, st4.2] at this
  exact this
theorem aw5 (N p : Nat) (w : World) (h : CD N p 4 t4 w) : Calls Tryz.prog 24 #[.pointer (some ⟨p, 0, none⟩), .string ⟨#[97]⟩, .int .i64 1, .slice (some ⟨w.heap.size, 0, none⟩) 1 1] (w.alloc (.cells #[.int .u8 9] 5)) (KEnd N p 5 0 t5 w) := by
  have hb := below_made w (.cells #[.int .u8 9] 5)
  have := write_any N p 4 t4 na 1 (some ⟨w.heap.size, 0, none⟩) 1 1 [9] _ (h.later hb) iv4 (by decide) (SeesV.of_own (own_built w [9] (by unfold maxLen; simp))) rfl (by decide) (by decide) (by decide)
  rw [st5.1, st5.2] at this
  exact this.mono fun e w' ⟨he, hc, hv⟩ => ⟨he, hc, (Veer.of_below hb h.baseW).trans hv⟩
theorem aw6 (N p : Nat) (w : World) (h : CD N p 5 t5 w) : Calls Tryz.prog 27 #[.pointer (some ⟨p, 0, none⟩), .int .i64 1] w fun e w' => e = .returned (.tuple #[]) ∧ CD N p 5 t6 w' ∧ Veer true N p w w' :=
  stop_any N p 5 t5 1 w h iv5
theorem aw7 (N p : Nat) (w : World) (h : CD N p 5 t6 w) : Calls Tryz.prog 24 #[.pointer (some ⟨p, 0, none⟩), .string ⟨#[97]⟩, .int .i64 0, .slice (some ⟨w.heap.size, 0, none⟩) 1 1] (w.alloc (.cells #[.int .u8 7] 5)) (KEnd N p 6 9 t7 w) := by
  have hb := below_made w (.cells #[.int .u8 7] 5)
  have := write_any N p 5 t6 na 0 (some ⟨w.heap.size, 0, none⟩) 1 1 [7] _ (h.later hb) iv6 (by decide) (SeesV.of_own (own_built w [7] (by unfold maxLen; simp))) rfl (by decide) (by decide) (by decide)
  rw [st7.1, st7.2] at this
  exact this.mono fun e w' ⟨he, hc, hv⟩ => ⟨he, hc, (Veer.of_below hb h.baseW).trans hv⟩
theorem aw8 (N p : Nat) (w : World) (h : CD N p 6 t7 w) : Calls Tryz.prog 22 #[.pointer (some ⟨p, 0, none⟩), .slice none 0 0, .int .i64 0] w fun e w' => e = .returned (.tuple #[]) ∧ CD N p 6 t8 w' ∧ Veer true N p w w' := by
  have := reboot_any N p 6 t7 0 [] none 0 0 w h iv7 (by decide) (fun W _ => ⟨none, 0, rfl, .inl rfl⟩) rfl (Nat.le_refl _) (by decide)
  rw [st8] at this
  exact this
theorem awR (N p : Nat) (w : World) (h : CD N p 6 t8 w) : Calls Tryz.prog 18 #[.pointer (some ⟨p, 0, none⟩), .string ⟨#[97]⟩] w (RPost [1, 2] 0 w) := by
  have := read_any N p 6 t8 na w h iv8 (by decide)
  rw [rd8.1, rd8.2] at this
  exact this
theorem aw9 (N p : Nat) (w : World) (h : CD N p 6 t8 w) : Calls Tryz.prog 24 #[.pointer (some ⟨p, 0, none⟩), .string ⟨#[97]⟩, .int .i64 99, .slice (some ⟨w.heap.size, 0, none⟩) 2 2] (w.alloc (.cells #[.int .u8 1, .int .u8 2] 5)) (KEnd N p 7 7 t8 w) := by
  have hb := below_made w (.cells #[.int .u8 1, .int .u8 2] 5)
  have := write_any N p 6 t8 na 99 (some ⟨w.heap.size, 0, none⟩) 2 2 [1, 2] _ (h.later hb) iv8 (by decide) (SeesV.of_own (own_built w [1, 2] (by unfold maxLen; simp))) rfl (by decide) (by decide) (by decide)
  rw [st9.1, st9.2] at this
  exact this.mono fun e w' ⟨he, hc, hv⟩ => ⟨he, hc, (Veer.of_below hb h.baseW).trans hv⟩
theorem CD.shell {N p i : Nat} {s : S} {w : World} (h : CD N p i s w) : Shell w p := by
  obtain ⟨r, k, g, H⟩ := h
  exact H.shell

set_option maxHeartbeats 4000000 in
set_option maxRecDepth 100000 in
theorem kawake_any (w : World) :
    Calls Tryz.prog 7 #[] w fun e w' => e = .returned (.bool true) ∧ Below w.heap.size w w' := by
  go_enter Tryz.func7, Tryz.ntmps7
  go_wp2_with fail
  refine (new_yes 100 _ (by omega) (by omega)).mono ?_
  rintro e w1 ⟨rfl, hc, hb⟩
  have C := Lib.hid hc
  have HB := Lib.hid hb
  clear hc hb
  generalize w.heap.size + 1 = p at *
  go_wp2_with fail
  refine (aw1 _ _ _ C.out).mono ?_
  rintro e w2 ⟨rfl, hc, hv⟩
  replace C := Lib.hid hc
  replace HB := Lib.hid (HB.out.trans hv.below)
  clear hc hv
  go_wp2_with fail
  refine (aw2 _ _ _ C.out).mono ?_
  rintro e w3 ⟨rfl, hc, hv⟩
  replace C := Lib.hid hc
  replace HB := Lib.hid (HB.out.trans hv.below)
  clear hc hv
  go_wp2_with fail
  refine (aw3 _ _ _ C.out).mono ?_
  rintro e w4 ⟨rfl, hc, hv⟩
  replace C := Lib.hid hc
  replace HB := Lib.hid (HB.out.trans hv.below)
  clear hc hv
  go_wp2_with fail
  refine (aw4 _ _ _ C.out).mono ?_
  rintro e w5 ⟨rfl, hc, hv⟩
  replace C := Lib.hid hc
  replace HB := Lib.hid (HB.out.trans hv.below)
  clear hc hv
  go_wp2_with fail
  refine (aw5 _ _ _ C.out).mono ?_
  rintro e w6 ⟨rfl, hc, hv⟩
  replace C := Lib.hid hc
  replace HB := Lib.hid (HB.out.trans hv.below)
  clear hc hv
  go_wp2_with fail
  refine (aw6 _ _ _ C.out).mono ?_
  rintro e w7 ⟨rfl, hc, hv⟩
  replace C := Lib.hid hc
  replace HB := Lib.hid (HB.out.trans hv.below)
  clear hc hv
  go_wp2_with fail
  refine (aw7 _ _ _ C.out).mono ?_
  rintro e w8 ⟨rfl, hc, hv⟩
  replace C := Lib.hid hc
  replace HB := Lib.hid (HB.out.trans hv.below)
  clear hc hv
  go_wp2_with fail
  refine (down_any _ _ _ t7 _ C.out).mono ?_
  rintro e w9 ⟨rfl, hb⟩
  replace HB := Lib.hid (HB.out.trans (hb.mono C.out.baseW))
  replace C := Lib.hid (C.out.later hb)
  clear hb
  go_wp2_with fail
  refine (aw8 _ _ _ C.out).mono ?_
  rintro e w10 ⟨rfl, hc, hv⟩
  replace C := Lib.hid hc
  replace HB := Lib.hid (HB.out.trans hv.below)
  clear hc hv
  go_wp2_with fail
  refine (awR _ _ _ C.out).mono ?_
  rintro e w11 ⟨v, rfl, hs, hb⟩
  replace HB := Lib.hid (HB.out.trans (hb.mono C.out.baseW))
  replace C := Lib.hid (C.out.later hb)
  have SV := Lib.hid hs
  clear hb hs
  go_wp2_with fail
  refine (aw9 _ _ _ C.out).mono ?_
  rintro e w12 ⟨rfl, hc, hv⟩
  replace SV := Lib.hid (SV.out.veer hv C.out.shell)
  replace C := Lib.hid hc
  replace HB := Lib.hid (HB.out.trans hv.below)
  clear hc hv
  go_wp2_with fail
  refine (down_any _ _ _ t8 _ C.out).mono ?_
  rintro e w13 ⟨rfl, hb⟩
  replace SV := Lib.hid (SV.out.later hb)
  replace HB := Lib.hid (HB.out.trans (hb.mono C.out.baseW))
  replace C := Lib.hid (C.out.later hb)
  clear hb
  go_wp2_with fail
  refine (bytes_same' _ _ [1, 2] _ (SV.out.later (below_made _ _)) (SeesV.of_own (own_built _ [1, 2] (by unfold maxLen; simp)))).mono ?_
  rintro e w14 ⟨rfl, hb⟩
  have hb' := (below_made w13 (.cells #[.int .u8 1, .int .u8 2] 5)).trans (hb.mono (below_made w13 (.cells #[.int .u8 1, .int .u8 2] 5)).size)
  replace HB := Lib.hid (HB.out.trans (hb'.mono C.out.baseW))
  replace C := Lib.hid (C.out.later hb')
  clear hb hb' SV
  go_wp2_with fail
  refine (used_any _ _ _ t8 _ C.out (iv8.mono (by decide)) (by decide)).mono ?_
  rintro e w15 ⟨rfl, hb⟩
  replace HB := Lib.hid (HB.out.trans (hb.mono C.out.baseW))
  replace C := Lib.hid (C.out.later hb)
  clear hb
  go_wp2_with fail
  refine (ops_any _ _ _ t8 _ C.out).mono ?_
  rintro e w16 ⟨rfl, hb⟩
  replace HB := Lib.hid (HB.out.trans (hb.mono C.out.baseW))
  replace C := Lib.hid (C.out.later hb)
  clear hb
  go_wp2_with fail
  refine (list_any _ _ _ t8 _ C.out (iv8.mono (by decide))).mono ?_
  rintro e w17 ⟨v, rfl, hs, hb⟩
  replace HB := Lib.hid (HB.out.trans (hb.mono C.out.baseW))
  obtain ⟨A, c, rfl, -⟩ := hs
  have hl : (strs (nms (if t8.down = true then [] else t8.dir.now))).length = 1 := by kernel_rfl
  rw [hl]
  clear hb hl
  go_wp2_with fail
  go_ret
  exact ⟨rfl, HB.out⟩
end Go.Proofs.YtaklilhnikmmfaaGreat
