/-
  The walks of Sync, Write and of the function literal that Write hands to alter.
-/
import Derived.Test.YtaklilhnikmmfaaGreatDiskAlter
import Derived.IntWalk
namespace Go.Proofs.YtaklilhnikmmfaaGreat
open Go.RowKit StrM BlockM FileM DirM DiskM

theorem sz_of {i : Nat} {s : S} (hI : Inv i s) (hi : i ≤ 100) (nm : ByteArray) : Sz (file s nm) := by
  have hv := hI.file nm
  have hp := hI.filePend nm
  exact ⟨by have := FileM.valid_now hv; omega, by have := FileM.valid_sure hv; omega, by omega, fun x hx => by have := (FileM.valid_pend hv x hx).1; omega⟩
theorem enter_sync (u : Value) (W : World) : (callFunc 55 (#[u] ++ #[])).run Tryz.prog W = .ok (.enter 55 (#[u] ++ #[])) W := enters_of Tryz.func55 (by kernel_rfl) rfl _ W
theorem enter_write (u : Value) (cs : Array Value) (W : World) : (callFunc 52 (#[u] ++ cs)).run Tryz.prog W = .ok (.enter 52 (#[u] ++ cs)) W := enters_of Tryz.func52 (by kernel_rfl) rfl _ W

theorem sync_any (N p i : Nat) (s : S) (nm : ByteArray) (w : World) (h : CD N p i s w) (hI : Inv i s) (hi : i ≤ 100) :
    Calls Tryz.prog 25 #[.pointer (some ⟨p, 0, none⟩), .string nm] w (KEnd N p (i + 1) (fE s nm 0) (fS s nm 0 (syn (file s nm))) w) := by
  have AL := Lib.hid (alter_any N p i s nm 55 #[] 0 (syn (file s nm)) w h hI hi (FileM.valid_syn _) enter_sync fun _ _ W u hb hF => by
    have := sync1_any u (file s nm) W hF.1 (sz_of hI hi nm)
    simp only [Array.append_empty]
    refine this.mono ?_
    rintro e w' ⟨v, rfl, hs, hb⟩
    exact ⟨v, _, rfl, SeesG.of_nil hs (DiskM.pend_syn _), fun _ => rfl, hb⟩)
  clear h hI
  go_enter Tryz.func25, Tryz.ntmps25
  go_wp2_with fail
  refine AL.out.mono ?_
  rintro e w' ⟨rfl, hk⟩
  have HK := Lib.hid hk
  clear hk AL
  go_wp2_with fail
  go_ret
  exact ⟨rfl, HK.out⟩

set_option maxHeartbeats 8000000 in
set_option maxRecDepth 100000 in
theorem write1_any (N p i x y z : Nat) (s : S) (nm : ByteArray) (q : Int) (A : Option Addr) (lb cb : Nat) (b : List UInt8) (u : Value) (W : World) (h : CD N p i s W) (hI : Inv i s) (hi : i ≤ 100) (hd : s.down = false)
    (hu : SeesG W u (file s nm)) (hx : Blk W x #[.int .i64 q] 3) (hy : Blk W y #[.slice A lb cb] 38) (hz : Blk W z #[.pointer (some ⟨p, 0, none⟩)] 25)
    (hb : SeesV W (.slice A lb cb) (bys b)) (hlb : b.length = lb) (hcb : lb ≤ cb) (hmax : lb ≤ 300) (hq : q ≤ 9223372036854775807) :
    Calls Tryz.prog 52 #[u, .pointer (some ⟨x, 0, none⟩), .pointer (some ⟨y, 0, none⟩), .pointer (some ⟨z, 0, none⟩)] W (APost (wE s nm q b) (newF s nm q b) W) := by
  obtain ⟨r, k, g, H⟩ := h
  obtain ⟨a0, d0, a1, d1, a2, d2, rfl, -⟩ := hu.1.slices
  have PI := Lib.hid (fun W' (hB : Below W.heap.size W W') => pieces_any q A lb cb b W' (hb.later hB) hlb hcb (by omega) hq)
  have WR := Lib.hid (fun W' v (hB : Below W.heap.size W W') (hP : SeesP W' v (pList q b)) => written_any _ v (file s nm) (pList q b) W' (hu.later hB) (by have := FileM.valid_now (hI.file nm); omega) (by have := hI.filePend nm; omega) hP (pList_places q b) (by have := pList_len q b; omega))
  have UL := Lib.hid (fun W' (hB : Below W.heap.size W W') => used_live N p i s W' ⟨r, k, g, H.later hB⟩ hI hi hd)
  have HR := Lib.hid (fun W' (hB : Below W.heap.size W W') => (show W'.cell? ⟨p, 0, none⟩ = some (.int .i64 s.room) by have := (H.later hB).box.cells.1; rwa [H.room] at this))
  have HB := Lib.hid (fun W' (hB : Below W.heap.size W W') => And.intro (hx.later hB) (And.intro (hy.later hB) (hz.later hB)))
  have us := hI.used
  have nl := FileM.valid_now (hI.file nm)
  have nl2 := FileM.valid_now (hI.newF nm q (b := b) (by omega)).1
  have rm0 := hI.room0
  have rm1 := hI.room1
  unfold PiecesPost at PI
  unfold GPost at WR
  rw [hlb] at PI
  have EN := Lib.hid (show newF s nm q b = wrote (file s nm) (pList q b) from rfl)
  rw [← EN.out] at WR
  have FU := Lib.hid (show full s nm q b = decide (s.room < (used s : Int) - ((file s nm).now.length : Int) + ((newF s nm q b).now.length : Int)) from rfl)
  have EW := Lib.hid (show (pErr q lb = 0 → wE s nm q b = if full s nm q b then 7 else 0) ∧ (¬ pErr q lb = 0 → wE s nm q b = pErr q lb) by
    unfold wE; rw [hlb]; exact ⟨fun h => if_pos h, fun h => if_neg h⟩)
  have B0 := Lib.hid ((below_made W (.cells #[.slice a0 (file s nm).now.length d0, .slice a1 (file s nm).sure.length d1, .slice a2 (file s nm).pend.length d2] 70)).alloc (below_made W _).size (.cells #[.slice none 0 0, .slice none 0 0, .slice none 0 0] 70))
  have X0 := Lib.hid ((FBox.made W (.slice a0 (file s nm).now.length d0) (.slice a1 (file s nm).sure.length d1) (.slice a2 (file s nm).pend.length d2)).later (below_made _ (.cells #[.slice none 0 0, .slice none 0 0, .slice none 0 0] 70)))
  have Y0 := Lib.hid (show FBox _ (W.heap.size + 1) _ _ _ by simpa using FBox.made (W.alloc (.cells #[.slice a0 (file s nm).now.length d0, .slice a1 (file s nm).sure.length d1, .slice a2 (file s nm).pend.length d2] 70)) (.slice none 0 0) (.slice none 0 0) (.slice none 0 0))
  generalize newF s nm q b = fw at *
  generalize (file s nm).now.length = m0 at *
  generalize (file s nm).sure.length = m1 at *
  generalize (file s nm).pend.length = m2 at *
  generalize wE s nm q b = er at *
  generalize full s nm q b = bf at *
  generalize used s = U at *
  generalize s.room = R at *
  clear H hI hd hu hx hy hz hb hcb hmax hq EN
  have x0 := (HB.out _ B0.out).1.cell (i := 0) rfl
  have y0 := (HB.out _ B0.out).2.1.cell (i := 0) rfl
  simp only [List.getElem_toArray, List.getElem_cons_zero] at x0 y0
  go_enter Tryz.func52, Tryz.ntmps52
  go_wp2_with fail
  generalize World.alloc (W.alloc _) _ = w0 at *
  refine (PI.out _ B0.out).mono ?_
  rintro e w1 ⟨v1, rfl, s1, hb1⟩
  obtain ⟨Al, cl, rfl, -⟩ := id s1
  have B1 := Lib.hid (B0.out.trans (hb1.mono B0.out.size))
  have X1 := Lib.hid (X0.out.later hb1)
  have Y1 := Lib.hid (Y0.out.later hb1)
  have S1 := Lib.hid s1
  clear hb1 s1 x0 y0 PI
  generalize (pList q b).length = np at *
  generalize pErr q lb = pe at *
  by_cases hpe : pe = 0
  · subst hpe
    have E1 := Lib.hid (EW.out.1 rfl)
    obtain ⟨x0, x1, x2⟩ := X1.out.cells
    clear EW
    go_wp2_with fail
    refine (WR.out _ _ B1.out S1.out).mono ?_
    rintro e w2 ⟨v2, rfl, s2, hb2⟩
    obtain ⟨e0, g0, e1, g1, e2, g2, rfl, -⟩ := s2.1.slices
    generalize fw.now.length = n0 at *
    generalize fw.sure.length = n1 at *
    generalize fw.pend.length = n2 at *
    have B2 := Lib.hid (B1.out.trans (hb2.mono B1.out.size))
    have X2 := Lib.hid (X1.out.later hb2)
    have Y2 := Lib.hid (Y1.out.later hb2)
    have S2 := Lib.hid s2
    have BN := Lib.hid (below_made w2 (.cells #[.slice e0 n0 g0, .slice e1 n1 g1, .slice e2 n2 g2] 70))
    have N3 := Lib.hid (FBox.made w2 (.slice e0 n0 g0) (.slice e1 n1 g1) (.slice e2 n2 g2))
    clear hb2 s2 x0 x1 x2 WR
    go_wp2_with fail
    have B3 := Lib.hid (B2.out.trans (BN.out.mono B2.out.size))
    have X3 := Lib.hid (X2.out.later BN.out)
    have Y3 := Lib.hid (Y2.out.later BN.out)
    have S3 := Lib.hid (S2.out.later BN.out)
    have LT := Lib.hid (show W.heap.size + 1 < w2.heap.size from Y2.out.lt)
    obtain ⟨t, ht⟩ : ∃ t, t = w2.heap.size := ⟨_, rfl⟩
    rw [← ht] at N3 LT ⊢
    clear ht
    generalize w2.alloc (.cells #[.slice e0 n0 g0, .slice e1 n1 g1, .slice e2 n2 g2] 70) = w3 at *
    have HC := Lib.hid (show ∀ W', Below w3.heap.size w3 W' → W'.cell? ⟨z, 0, none⟩ = some (.pointer (some ⟨p, 0, none⟩)) ∧ W'.cell? ⟨W.heap.size, 0, none⟩ = some (.slice a0 m0 d0) ∧ W'.cell? ⟨t, 0, none⟩ = some (.slice e0 n0 g0) ∧ W'.cell? ⟨p, 0, none⟩ = some (.int .i64 R) from
      fun W' hB => ⟨(HB.out _ (B3.out.trans (hB.mono B3.out.size))).2.2.cell rfl, (X3.out.later hB).cells.1, (N3.out.later hB).cells.1, HR.out _ (B3.out.trans (hB.mono B3.out.size))⟩)
    have US := Lib.hid (show ∀ W', Below w3.heap.size w3 W' → Calls Tryz.prog 21 #[.pointer (some ⟨p, 0, none⟩)] W' fun e W'' => e = .returned (.int .i64 (U : Int)) ∧ Below W'.heap.size W' W'' ∧ Below w3.heap.size w3 W'' from
      fun W' hB => (UL.out W' (B3.out.trans (hB.mono B3.out.size))).mono fun e W'' ⟨h1, h2⟩ => ⟨h1, h2, hB.trans (h2.mono hB.size)⟩)
    have KD : Below w3.heap.size w3 w3.drew := below_drew _ (Nat.le_refl _)
    have r1 : IntKind.i64.wrap ((U : Int) - (m0 : Int)) = (U : Int) - (m0 : Int) := IntWalk.i64_in _ (by omega)
    have r2 : IntKind.i64.wrap ((U : Int) - (m0 : Int) + (n0 : Int)) = (U : Int) - (m0 : Int) + (n0 : Int) := IntWalk.i64_in _ (by omega)
    obtain ⟨x0, x1, x2, x3⟩ := HC.out _ (Below.refl _ _)
    clear UL HR
    go_region_held3 (fun W' => W'.cell? ⟨z, 0, none⟩ = some (.pointer (some ⟨p, 0, none⟩)) ∧ W'.cell? ⟨W.heap.size, 0, none⟩ = some (.slice a0 m0 d0) ∧ W'.cell? ⟨t, 0, none⟩ = some (.slice e0 n0 g0) ∧ W'.cell? ⟨p, 0, none⟩ = some (.int .i64 R))
      (first | exact HC.out _ KD | exact HC.out _ k4)
      (first
        | (go_at_call 21; (with_reducible refine (US.out _ (by assumption)).mono ?_); rintro e w4 ⟨rfl, b4, k4⟩))
    have B4 := Lib.hid (B3.out.trans (k4.mono B3.out.size))
    have Y4 := Lib.hid (Y3.out.later k4)
    have N4 := Lib.hid (N3.out.later k4)
    have S4 := Lib.hid (S3.out.later k4)
    clear x0 x1 x2 x3 b4 k4 HC US KD r1 r2 HB
    obtain ⟨y0, y1, y2⟩ := Y4.out.cells
    obtain ⟨z0, z1, z2⟩ := Y4.out.soft
    by_cases hc : R < (U : Int) - (m0 : Int) + (n0 : Int)
    · have EB := Lib.hid (show er = 7 by rw [E1.out, FU.out, decide_eq_true hc]; rfl)
      have YF := Lib.hid (Y4.out.set (.slice none 0 0) (.slice none 0 0) (.slice none 0 0))
      have BF := Lib.hid (fset_below B4.out (show W.heap.size ≤ W.heap.size + 1 by omega) (.slice none 0 0) (.slice none 0 0) (.slice none 0 0))
      clear E1 FU
      go_wp2_with fail
      change bodyPost _ _ _ _ _ (fset w4 (W.heap.size + 1) (.slice none 0 0) (.slice none 0 0) (.slice none 0 0))
      generalize fset w4 (W.heap.size + 1) (.slice none 0 0) (.slice none 0 0) (.slice none 0 0) = w9 at *
      obtain ⟨t0, t1, t2⟩ := YF.out.cells
      exact bodyPost_ret (by simp [results, Tryz.results52, go_sem, t0, t1, t2]; rfl) rfl ⟨_, zf, by rw [EB.out]; rfl, SeesG.zero _, fun h => by rw [EB.out] at h; exact absurd h (by decide), BF.out⟩
    · have EB := Lib.hid (show er = 0 by rw [E1.out, FU.out, decide_eq_false hc]; rfl)
      have hc' : decide (R < (U : Int) - (m0 : Int) + (n0 : Int)) = false := decide_eq_false hc
      have YF := Lib.hid (Y4.out.set (.slice e0 n0 g0) (.slice e1 n1 g1) (.slice e2 n2 g2))
      have BF := Lib.hid (fset_below B4.out (show W.heap.size ≤ W.heap.size + 1 by omega) (.slice e0 n0 g0) (.slice e1 n1 g1) (.slice e2 n2 g2))
      have SF := Lib.hid (show SeesG (fset w4 (W.heap.size + 1) (.slice e0 n0 g0) (.slice e1 n1 g1) (.slice e2 n2 g2)) _ fw from ⟨S4.out.1.fset Y4.out (.slice e0 n0 g0) (.slice e1 n1 g1) (.slice e2 n2 g2), S4.out.2⟩)
      obtain ⟨n0', n1', n2'⟩ := N4.out.cells
      clear E1 FU
      go_wp2_with fail
      change bodyPost _ _ _ _ _ (fset w4 (W.heap.size + 1) (.slice e0 n0 g0) (.slice e1 n1 g1) (.slice e2 n2 g2))
      generalize fset w4 (W.heap.size + 1) (.slice e0 n0 g0) (.slice e1 n1 g1) (.slice e2 n2 g2) = w9 at *
      obtain ⟨t0, t1, t2⟩ := YF.out.cells
      exact bodyPost_ret (by simp [results, Tryz.results52, go_sem, t0, t1, t2]; rfl) rfl ⟨_, fw, by rw [EB.out], SF.out, fun _ => rfl, BF.out⟩
  · have E1 := Lib.hid (EW.out.2 hpe)
    have hpe' : decide (pe = 0) = false := by simpa using hpe
    have HZ := Lib.hid hpe
    obtain ⟨y0, y1, y2⟩ := Y1.out.cells
    obtain ⟨z0, z1, z2⟩ := Y1.out.soft
    have YF := Lib.hid (Y1.out.set (.slice none 0 0) (.slice none 0 0) (.slice none 0 0))
    have BF := Lib.hid (fset_below B1.out (show W.heap.size ≤ W.heap.size + 1 by omega) (.slice none 0 0) (.slice none 0 0) (.slice none 0 0))
    clear EW WR UL HR HB FU
    go_wp2_with fail
    change bodyPost _ _ _ _ _ (fset w1 (W.heap.size + 1) (.slice none 0 0) (.slice none 0 0) (.slice none 0 0))
    generalize fset w1 (W.heap.size + 1) (.slice none 0 0) (.slice none 0 0) (.slice none 0 0) = w9 at *
    obtain ⟨t0, t1, t2⟩ := YF.out.cells
    exact bodyPost_ret (by simp [results, Tryz.results52, go_sem, t0, t1, t2]; rfl) rfl ⟨_, zf, by rw [E1.out]; rfl, SeesG.zero _, fun h => by rw [E1.out] at h; exact absurd h HZ.out, BF.out⟩

theorem CD.later {N p i : Nat} {s : S} {w w' : World} (h : CD N p i s w) (hb : Below w.heap.size w w') : CD N p i s w' := by
  obtain ⟨r, k, g, h⟩ := h
  exact ⟨r, k, g, h.later hb⟩
theorem CD.baseW {N p i : Nat} {s : S} {w : World} (h : CD N p i s w) : N ≤ w.heap.size := by
  obtain ⟨r, k, g, h⟩ := h
  exact h.baseW

set_option maxRecDepth 100000 in
theorem write_any (N p i : Nat) (s : S) (nm : ByteArray) (q : Int) (A : Option Addr) (lb cb : Nat) (b : List UInt8) (w : World) (h : CD N p i s w) (hI : Inv i s) (hi : i ≤ 100)
    (hb : SeesV w (.slice A lb cb) (bys b)) (hlb : b.length = lb) (hcb : lb ≤ cb) (hmax : lb ≤ 300) (hq : q ≤ 9223372036854775807) :
    Calls Tryz.prog 24 #[.pointer (some ⟨p, 0, none⟩), .string nm, .int .i64 q, .slice A lb cb] w (KEnd N p (i + 1) (fE s nm (wE s nm q b)) (fS s nm (wE s nm q b) (newF s nm q b)) w) := by
  have B1 := Lib.hid (below_made w (.cells #[.pointer (some ⟨p, 0, none⟩)] 25))
  have B2 := Lib.hid (below_made (w.alloc (.cells #[.pointer (some ⟨p, 0, none⟩)] 25)) (.cells #[.int .i64 q] 3))
  have B3 := Lib.hid (below_made ((w.alloc (.cells #[.pointer (some ⟨p, 0, none⟩)] 25)).alloc (.cells #[.int .i64 q] 3)) (.cells #[.slice A lb cb] 38))
  have B0 := Lib.hid ((B1.out.trans (B2.out.mono B1.out.size)).trans (B3.out.mono (Nat.le_trans B1.out.size B2.out.size)))
  have Z0 := Lib.hid (((Blk.made w #[.pointer (some ⟨p, 0, none⟩)] 25).later B2.out).later B3.out)
  have X0 := Lib.hid (show Blk _ (w.heap.size + 1) _ _ from by simpa using ((Blk.made (w.alloc (.cells #[.pointer (some ⟨p, 0, none⟩)] 25)) #[.int .i64 q] 3).later B3.out))
  have Y0 := Lib.hid (show Blk _ (w.heap.size + 2) _ _ from by simpa using (Blk.made ((w.alloc (.cells #[.pointer (some ⟨p, 0, none⟩)] 25)).alloc (.cells #[.int .i64 q] 3)) #[.slice A lb cb] 38))
  have VB := Lib.hid (hb.later B0.out)
  have CW := Lib.hid (h.later B0.out)
  have AL := Lib.hid (alter_any N p i s nm 52 #[.pointer (some ⟨w.heap.size + 1, 0, none⟩), .pointer (some ⟨w.heap.size + 2, 0, none⟩), .pointer (some ⟨w.heap.size, 0, none⟩)] (wE s nm q b) (newF s nm q b) _ CW.out hI hi (hI.newF nm q (b := b) (by omega)).1 (fun u W => enter_write u _ W)
    fun hd _ W u hbW hF => by
      have := write1_any N p i (w.heap.size + 1) (w.heap.size + 2) w.heap.size s nm q A lb cb b u W (CW.out.later hbW) hI hi hd hF (X0.out.later hbW) (Y0.out.later hbW) (Z0.out.later hbW) (VB.out.later hbW) hlb hcb hmax hq
      simpa using this)
  have HV := Lib.hid (show Veer true N p w _ from Veer.of_below B0.out h.baseW)
  clear h hI hb B1 B2 B3 X0 Y0 Z0 VB CW B0
  go_enter Tryz.func24, Tryz.ntmps24
  go_wp2_with fail
  generalize World.alloc (World.alloc _ _) _ = w0 at *
  refine AL.out.mono ?_
  rintro e w' ⟨rfl, hk, hv⟩
  have HK := Lib.hid (And.intro hk (HV.out.trans hv))
  clear hk hv AL HV
  go_wp2_with fail
  go_ret
  exact ⟨rfl, HK.out.1, HK.out.2⟩
end Go.Proofs.YtaklilhnikmmfaaGreat
