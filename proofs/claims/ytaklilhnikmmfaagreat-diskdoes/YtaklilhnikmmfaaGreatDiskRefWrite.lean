/-
  The walk of the reference's Write.
-/
import Derived.Test.YtaklilhnikmmfaaGreatDiskRefFsync
namespace Go.Proofs.YtaklilhnikmmfaaGreat
open Go.RowKit StrM BlockM FileM DirM DiskM

theorem wrap_fits {x : Int} (h1 : -9223372036854775808 ≤ x) (h2 : x ≤ 9223372036854775807) : IntKind.i64.wrap x = x := by
  simp only [IntKind.wrap, IntKind.bits, IntKind.signed]
  simp
  omega

set_option maxHeartbeats 8000000 in
set_option maxRecDepth 100000 in
theorem rwrite_any (N q i : Nat) (s : S) (nm : ByteArray) (p : Int) (A : Option Addr) (lb cb : Nat) (b : List UInt8) (w : World) (h : RD N q s w) (hI : Inv i s) (hi : i ≤ 100)
    (hb : SeesV w (.slice A lb cb) (bys b)) (hlb : b.length = lb) (hmax : lb ≤ 300) :
    Calls Tryz.prog 33 #[.pointer (some ⟨q, 0, none⟩), .string nm, .int .i64 p, .slice A lb cb] w (REnd N q (fE s nm (wE s nm p b)) (fS s nm (wE s nm p b) (DiskM.newF s nm p b)) w) := by
  cases hd : s.down
  case' true =>
    obtain ⟨r, H⟩ := h
    have LO := Lib.hid (H.low hI.fine w (Veer.refl _ _ _ _))
    have o0 : 0 ≤ r.ops := by rw [H.ops]; exact hI.ops0
    have o1 : r.ops ≤ 1000 := by rw [H.ops]; have := hI.opsI; omega
    have E1 : fE s nm (wE s nm p b) = 9 := by unfold fE; rw [hd]; rfl
    have E2 : fS s nm (wE s nm p b) (DiskM.newF s nm p b) = low s := by unfold fS; rw [hd]; rfl
    rw [E1, E2]
    obtain ⟨-, -, -, -, -, c5, -, -, c8⟩ := H.box.cells
    rw [H.down, hd] at c8
    have f5 := H.box.soft 5
    generalize r.ops = n5 at *
    clear H hI hd E1 E2 hb
    go_enter Tryz.func33, Tryz.ntmps33
    go_wp2_with fail
    go_ret
    exact ⟨rfl, LO.out.1, LO.out.2⟩
  case' false =>
    have CT := Lib.hid (fun W (h : RD N q s W) => rcount_any N q i s W h hI hi hd)
    have HI := Lib.hid hI
    have RW := Lib.hid h
    obtain ⟨r, H⟩ := h
    obtain ⟨A0, n0, c0, f0, en, n0l, se⟩ := H.look hI
    have AT := Lib.hid (rat_any (.slice A0 n0 c0) s.dir.now nm w se (by rw [← en]; omega))
    obtain ⟨-, x1, -, -, -, -, -, -, c8⟩ := H.box.cells
    rw [H.down, hd] at c8
    rw [f0] at x1
    cases hh : has s.dir.now nm
    case' false =>
      rw [(av_none hh).1] at AT
      have E1 : fE s nm (wE s nm p b) = 5 := by unfold fE; rw [hd, hh]; rfl
      have E2 : fS s nm (wE s nm p b) (DiskM.newF s nm p b) = s := by unfold fS; rw [hd, hh]; rfl
      rw [E1, E2]
      clear H hI hd hh f0 en se E1 E2 CT hb
      go_enter Tryz.func33, Tryz.ntmps33
      go_wp2_with fail
      refine AT.out.mono ?_
      rintro e w' ⟨rfl, rfl⟩
      clear AT
      go_wp2_with fail
      go_ret
      exact ⟨rfl, RW.out, Veer.refl _ _ _ _⟩
    case' true =>
      obtain ⟨j, hkl, ej, hno, -⟩ := av_has hh
      have hnode : s.dir.now[j].node = DiskM.node s nm := hno
      have HND := Lib.hid hnode
      rw [ej] at AT
      have E1 : fE s nm (wE s nm p b) = if wE s nm p b = 0 then hit s else wE s nm p b := by unfold fE; rw [hd, hh]; rfl
      have E2 : fS s nm (wE s nm p b) (DiskM.newF s nm p b) = if wE s nm p b = 0 then (if hit s = 0 then DiskM.setF s nm (DiskM.newF s nm p b) else ticked s) else s := by unfold fS; rw [hd, hh]; rfl
      rw [E1, E2]
      have EW : wE s nm p b = if pErr p lb = 0 then (if DiskM.full s nm p b then 7 else 0) else pErr p lb := by unfold wE; rw [hlb]
      have PC := Lib.hid (rpieces_any p A lb cb b w hb hlb (by omega))
      have HSZ := Lib.hid (sz_of hI hi nm)
      have HVF := Lib.hid (hI.file nm)
      have HNF := Lib.hid (hI.newF nm p (b := b) (by omega)).1
      have HBB := Lib.hid (fun W (hB : Below w.heap.size w W) => hb.later hB)
      have HLB := Lib.hid hlb
      have HUS := Lib.hid (fun W (h : RD N q s W) => rused_any N q i s W h hI hi)
      have I1 := Lib.hid hI.ticked
      have hj0 : ¬ (j : Int) < 0 := by omega
      have hjn : (j : Int) < (n0 : Int) := by rw [en]; omega
      have HAL := Lib.hid (now_alive hI.dirs _ (List.getElem_mem hkl))
      unfold PiecesPost at PC
      rw [hlb] at PC
      clear hd hh hno hnode E1 E2 hb hlb
      by_cases hp : pErr p lb = 0
      · have WE := Lib.hid (show wE s nm p b = if DiskM.full s nm p b then 7 else 0 by rw [EW, if_pos hp])
        rw [hp] at PC
        have NF := Lib.hid (show wrF (DiskM.file s nm) p b = DiskM.newF s nm p b by unfold wrF DiskM.newF; rw [HVF.out, HLB.out, hp]; simp)
        have WR0 := Lib.hid (show wrE (DiskM.file s nm) p lb = 0 by unfold wrE; rw [HVF.out, hp]; rfl)
        clear EW hp HVF
        obtain ⟨Af, cf, ff, -⟩ := H.files.form
        obtain ⟨k, hk, g, B0, m0, d0, B1, m1, d1, B2, m2, d2, hnd, -, -, eAf, hg0, y0, y1, y2, hm0, -, hS⟩ := H.node hI ff HAL.out
        subst eAf
        obtain ⟨gb, off, rfl, hg, hc1, hc2⟩ := se.cells hkl
        rw [hnd] at hc2
        rw [HND.out] at hnd hm0 hS
        obtain ⟨-, -, -, -, x4, -⟩ := H.box.cells
        rw [ff] at x4
        obtain ⟨x0, -⟩ := H.box.cells
        rw [H.room] at x0
        have hqw := H.box.lt
        obtain ⟨n, hn⟩ : ∃ n, n = s.files.length := ⟨_, rfl⟩
        rw [← hn] at x4
        have HN := Lib.hid hn
        have hkn : k < n := by rw [hn]; exact hk
        have HK := Lib.hid hk
        have EK := Lib.hid (show (DiskM.node s nm).toNat - 1 = k by omega)
        have NL := Lib.hid (show n ≤ 100 by rw [hn]; have := hI.few; omega)
        have nl := NL.out
        have ek : (k : Int) + 1 - 1 = (k : Int) := by omega
        have hk100 : k ≤ 100 := by omega
        have HC0 := Lib.hid (show ∀ W, Below w.heap.size w W → W.cell? ⟨q, 0, none⟩ = some (.int .i64 s.room) ∧ W.cell? ⟨q, 1, none⟩ = some (.slice (some ⟨gb, off, none⟩) n0 c0) ∧ W.cell? ⟨q, 4, none⟩ = some (.slice (some ⟨g, 0, none⟩) n cf) ∧ W.cell? ⟨gb, off + j * 2 + 1, none⟩ = some (.int .i64 ((k : Int) + 1)) ∧ W.cell? ⟨g, k * 3, none⟩ = some (.slice B0 m0 d0) ∧ W.cell? ⟨g, k * 3 + 1, none⟩ = some (.slice B1 m1 d1) ∧ W.cell? ⟨g, k * 3 + 2, none⟩ = some (.slice B2 m2 d2) from
          fun W hB => ⟨(hBcell hB hqw).trans x0, (hBcell hB hqw).trans x1, (hBcell hB hqw).trans x4, (hBcell hB hg).trans hc2, (hBcell hB hg0).trans y0, (hBcell hB hg0).trans y1, (hBcell hB hg0).trans y2⟩)
        obtain ⟨M, hM⟩ : ∃ M, M = (DiskM.newF s nm p b).now.length := ⟨_, rfl⟩
        have WR := Lib.hid (show ∀ W, Below w.heap.size w W → Calls Tryz.prog 63 #[.agg #[.slice B0 m0 d0, .slice B1 m1 d1, .slice B2 m2 d2], .int .i64 p, .slice A lb cb] W fun e W' => ∃ C0 e0 C1 n1 e1 C2 n2 e2, e = .returned (.tuple #[.agg #[.slice C0 M e0, .slice C1 n1 e1, .slice C2 n2 e2], .int .i64 0]) ∧ SeesF W' (.agg #[.slice C0 M e0, .slice C1 n1 e1, .slice C2 n2 e2]) (DiskM.newF s nm p b) ∧ Below W.heap.size W W' from
          fun W hB => (rfwrite_any _ (DiskM.file s nm) p A lb cb b W (hS.later hB) HSZ.out (HBB.out W hB) HLB.out (by omega)).mono fun e W' ⟨v, he, hs, hb⟩ => by
            rw [NF.out] at hs
            rw [WR0.out] at he
            obtain ⟨C0, e0, C1, e1, C2, e2, rfl, -, -, -⟩ := hs.slices
            rw [← hM] at he hs
            exact ⟨C0, e0, C1, _, e1, C2, _, e2, he, hs, hb⟩)
        have U0 := hI.used
        have M0 := FileM.valid_now (hI.file nm)
        have M1 := FileM.valid_now HNF.out
        have em0 : m0 = (DiskM.file s nm).now.length := hm0
        rw [← em0] at M0
        rw [← hM] at M1
        have EFU := Lib.hid (show DiskM.full s nm p b = decide (s.room < (used s : Int) - (m0 : Int) + (M : Int)) by unfold DiskM.full; rw [← em0, ← hM])
        have rm0 := hI.room0
        have rm1 := hI.room1
        obtain ⟨er', hE⟩ : ∃ e, e = (if wE s nm p b = 0 then hit s else wE s nm p b) := ⟨_, rfl⟩
        obtain ⟨s', hS'⟩ : ∃ e, e = (if wE s nm p b = 0 then (if hit s = 0 then DiskM.setF s nm (DiskM.newF s nm p b) else ticked s) else s) := ⟨_, rfl⟩
        rw [← hE, ← hS']
        have X7 := Lib.hid (fun hf : s.room < (used s : Int) - (m0 : Int) + (M : Int) => (⟨by rw [hE, WE.out, EFU.out, decide_eq_true hf]; rfl, by rw [hS', WE.out, EFU.out, decide_eq_true hf]; rfl⟩ : er' = 7 ∧ s' = s))
        have X0 := Lib.hid (fun hf : ¬ s.room < (used s : Int) - (m0 : Int) + (M : Int) => (⟨by rw [hE, WE.out, EFU.out, decide_eq_false hf]; rfl, by rw [hS', WE.out, EFU.out, decide_eq_false hf]; rfl⟩ : er' = hit s ∧ s' = if hit s = 0 then DiskM.setF s nm (DiskM.newF s nm p b) else ticked s))
        clear hE hS'
        clear H hI f0 en se ff hnd hc1 hc2 y0 y1 y2 hm0 hS x4 x0 hn hk hM em0 WE NF WR0 EFU HSZ HAL HND HBB
        generalize used s = U at *
        generalize s.room = room at *
        go_enter Tryz.func33, Tryz.ntmps33
        go_wp2_with fail
        refine AT.out.mono ?_
        rintro e w' ⟨rfl, rfl⟩
        clear AT
        go_wp2_with fail
        refine PC.out.mono ?_
        rintro e w1 ⟨v, rfl, -, hb⟩
        have B1' := Lib.hid hb
        clear hb PC x1 c8
        obtain ⟨x0, x1, x4, xe, y0, y1, y2⟩ := HC0.out _ B1'.out
        go_wp2_with fail
        refine (WR.out _ B1'.out).mono ?_
        rintro e w3 ⟨C0, e0, C1, n1, e1, C2, n2, e2, rfl, hs, hb⟩
        have S3 := Lib.hid hs
        have B3 := Lib.hid (B1'.out.trans (hb.mono B1'.out.size))
        clear hs hb x0 x1 x4 xe y0 y1 y2 WR B1'
        have E4 := Lib.hid (Blk.made w3 #[.slice C0 M e0, .slice C1 n1 e1, .slice C2 n2 e2] 70)
        have S4 := Lib.hid (S3.out.later (below_made w3 (.cells #[.slice C0 M e0, .slice C1 n1 e1, .slice C2 n2 e2] 70)))
        have B4 := Lib.hid (B3.out.trans ((below_made w3 (.cells #[.slice C0 M e0, .slice C1 n1 e1, .slice C2 n2 e2] 70)).mono B3.out.size))
        have LZ := Lib.hid (show q < w3.heap.size from Nat.lt_of_lt_of_le hqw B3.out.size)
        go_wp2_with fail
        generalize w3.alloc (.cells #[.slice C0 M e0, .slice C1 n1 e1, .slice C2 n2 e2] 70) = w4 at *
        generalize w3.heap.size = z at *
        clear S3 B3
        have US := Lib.hid (show ∀ W, Below w4.heap.size w4 W → Calls Tryz.prog 17 #[.pointer (some ⟨q, 0, none⟩)] W fun e W' => e = .returned (.int .i64 (U : Int)) ∧ Below w4.heap.size w4 W' from
          fun W hB => (HUS.out W ((RW.out.later B4.out).later hB)).mono fun e W' ⟨he, hb⟩ => ⟨he, hB.trans (hb.mono hB.size)⟩)
        have HC := Lib.hid (show ∀ W, Below w4.heap.size w4 W → W.cell? ⟨q, 0, none⟩ = some (.int .i64 room) ∧ W.cell? ⟨q, 4, none⟩ = some (.slice (some ⟨g, 0, none⟩) n cf) ∧ W.cell? ⟨g, k * 3, none⟩ = some (.slice B0 m0 d0) ∧ W.cell? ⟨z, 0, none⟩ = some (.slice C0 M e0) from
          fun W hB => by
            obtain ⟨x0, x1, x4, xe, y0, y1, y2⟩ := HC0.out _ (B4.out.trans (hB.mono B4.out.size))
            exact ⟨x0, x4, y0, (E4.out.later hB).cell rfl⟩)
        have KD : Below w4.heap.size w4 w4.drew := below_drew _ (Nat.le_refl _)
        have ew1 : IntKind.i64.wrap ((U : Int) - (m0 : Int)) = (U : Int) - (m0 : Int) := wrap_fits (by omega) (by omega)
        have ew2 : IntKind.i64.wrap ((U : Int) - (m0 : Int) + (M : Int)) = (U : Int) - (m0 : Int) + (M : Int) := wrap_fits (by omega) (by omega)
        go_region_held3 (fun W => W.cell? ⟨q, 0, none⟩ = some (.int .i64 room) ∧ W.cell? ⟨q, 4, none⟩ = some (.slice (some ⟨g, 0, none⟩) n cf) ∧ W.cell? ⟨g, k * 3, none⟩ = some (.slice B0 m0 d0) ∧ W.cell? ⟨z, 0, none⟩ = some (.slice C0 M e0))
          (first | exact HC.out _ KD | exact HC.out _ k5)
          (first
            | (go_at_call 17; (with_reducible refine (US.out _ (by assumption)).mono ?_); rintro e w5 ⟨rfl, k5⟩))
        all_goals
          have B5 := Lib.hid (B4.out.trans (k5.mono B4.out.size))
          have E5 := Lib.hid (E4.out.later k5)
          have S5 := Lib.hid (S4.out.later k5)
          have R5 := Lib.hid (RW.out.later B5.out)
          have V5 := Lib.hid (show Veer false N q w w5 from Veer.of_below B5.out RW.out.baseW)
          clear k5 KD HC US E4 S4 HC0
          by_cases hfu : room < (U : Int) - (m0 : Int) + (M : Int)
          · obtain ⟨e1, e2⟩ := X7.out hfu
            subst e1 e2
            clear X7 X0 CT
            go_wp2_with fail
            go_ret
            exact ⟨rfl, R5.out, V5.out⟩
          · have XE := Lib.hid (X0.out (by omega)).1
            have XS := Lib.hid (X0.out (by omega)).2
            clear X7 X0
            go_wp2_with fail
            refine (CT.out _ R5.out).mono ?_
            rintro e w6 ⟨rfl, hR, hV⟩
            have V56 := Lib.hid hV
            clear hV CT
            generalize hit s = er at *
            by_cases ht : er = 0
            · have HX := Lib.hid (show s' = DiskM.setF s nm (DiskM.newF s nm p b) by rw [XS.out, if_pos ht])
              subst ht
              obtain ⟨r5, H5⟩ := R5.out
              have hzq : z ≠ q := by have := LZ.out; omega
              have E6 := Lib.hid (show Blk w6 z _ _ from V56.out.keep z _ E5.out hzq (fun _ es c hx => by cases hx))
              have S6 := Lib.hid (S5.out.veer HNF.out V56.out H5.shell)
              obtain ⟨r6, H6⟩ := hR
              have R6 := Lib.hid H6
              obtain ⟨Af, cf', ff, -⟩ := H6.files.form
              obtain ⟨us, hh1, hsn, -⟩ := H6.files.src
              obtain ⟨-, -, -, -, x4, -⟩ := H6.box.cells
              rw [ff] at x4 hsn
              have hq6 : q < w6.heap.size := H6.box.lt
              have HH1 := Lib.hid hh1
              have HSN := Lib.hid hsn
              have HNN := Lib.hid (show n = (ticked s).files.length from HN.out)
              rw [show (ticked s).files.length = n from HNN.out.symm] at x4
              have HSN' := Lib.hid (show SeesN w6 (.slice Af n cf') (ticked s).files.length (u3s us) by have := HSN.out; rwa [← HNN.out] at this ⊢)
              have HPOS := Lib.hid (show 0 < (ticked s).files.length by rw [← HNN.out]; omega)
              have hf6 : n ≤ 100 := nl
              clear H6 H5 ff hh1 hsn HSN XS
              go_wp2_with (at_builtin; refine append_files rfl (.tmp 96) (.tmp 100) rfl _ _ rfl rfl (HH1.out.later (below_made _ _)) (HSN'.out.later (below_made _ _)) HPOS.out (by rw [← HNN.out]; omega) ?_)
              intro cap w7 ho hsl hb
              have hgs : (w6.alloc (.cells #[] 70)).heap.size = w6.heap.size + 1 := by simp
              have LG := Lib.hid (show w6.heap.size ≤ w6.heap.size + 1 by omega)
              have CM := Lib.hid (Cp.made (R6.out.later (below_made _ _)) HI.out.fine (HH1.out.later (below_made _ _)) hgs ho hsl hb (show Veer false N q w6 _ from Veer.of_below (below_made _ _) R6.out.baseW))
              have RX := Lib.hid ((R6.out.later (below_made _ (.cells #[] 70))).later (by rw [hgs]; exact hb))
              clear ho hsl hb x4 HSN' hgs
              generalize w6.heap.size + 1 = g6 at *
              obtain ⟨-, -, -, -, x4, -⟩ := RX.out.box.cells
              have f4 := RX.out.box.soft 4
              rw [← HNN.out] at CM ⊢
              go_wp2_with fail
              generalize w7.setCell ⟨q, 4, none⟩ (.slice (some ⟨g6, 0, none⟩) n cap) = w8 at *
              have CP := Lib.hid CM.out.1
              have V68 := Lib.hid CM.out.2
              have E8 := Lib.hid (show Blk w8 z _ _ from V68.out.keep z _ E6.out hzq (fun _ es c hx => by cases hx))
              have S8 := Lib.hid (S6.out.veer HNF.out V68.out R6.out.shell)
              clear x4 f4 RX CM
              obtain ⟨D0, l0, q0, D1, l1, q1, D2, l2, q2, x4, y0, y1, y2, -⟩ := CP.out.cells (k := k) (by rw [← HNN.out]; exact hkn)
              have z0 := E8.out.cell (i := 0) rfl
              have z1 := E8.out.cell (i := 1) rfl
              have z2 := E8.out.cell (i := 2) rfl
              have f0 := CP.out.soft (k * 3)
              have f1 := CP.out.soft (k * 3 + 1)
              have f2 := CP.out.soft (k * 3 + 2)
              go_still_tail 7, (by kernel_rfl)
              change wpList _ _ _ _ _ w8.drew
              have CQ := Lib.hid (CP.out.later (below_drew _ (Nat.le_refl _)))
              have S9 := Lib.hid (S8.out.later (below_drew _ (Nat.le_refl _)))
              have V9 := Lib.hid ((V5.out.trans V56.out).trans (V68.out.more (below_drew _ (Nat.le_refl _)) CP.out.held.baseW))
              clear x4 y0 y1 y2 z0 z1 z2 f0 f1 f2 E8
              generalize w8.drew = wd at *
              obtain ⟨D0', l0', q0', D1', l1', q1', D2', l2', q2', x4, y0, y1, y2, -⟩ := CQ.out.cells (k := k) (by rw [← HNN.out]; exact hkn)
              have f0 := CQ.out.soft (k * 3)
              have f1 := CQ.out.soft (k * 3 + 1)
              have f2 := CQ.out.soft (k * 3 + 2)
              have FIN := Lib.hid (CQ.out.stored HI.out.fine S9.out HNF.out (by rw [← HNN.out]; exact hkn) V9.out (Nat.le_trans (V5.out.trans V56.out).size LG.out) (Nat.le_trans R6.out.baseW LG.out))
              have HS' := Lib.hid (show { ticked s with files := (ticked s).files.set k (DiskM.newF s nm p b) } = s' by rw [HX.out]; unfold DiskM.setF; rw [EK.out]; rfl)
              rw [HS'.out] at FIN
              go_wp2_with fail
              change bodyPost _ _ _ _ _ (set3 wd g6 k _ _ _)
              generalize set3 wd g6 k _ _ _ = w9 at *
              go_ret
              exact ⟨by rw [XE.out]; rfl, FIN.out.1, FIN.out.2⟩
            · have HX := Lib.hid (show s' = ticked s by rw [XS.out, if_neg ht])
              have a1 : (er == 0) = false := by simpa using ht
              have a2 : decide (er = 0) = false := by simpa using ht
              have R6 := Lib.hid hR
              clear hR ht XS
              go_wp2_with fail
              go_ret
              exact ⟨by rw [XE.out]; rfl, by rw [HX.out]; exact R6.out, V5.out.trans V56.out⟩
      · have WE := Lib.hid (show wE s nm p b = pErr p lb by rw [EW, if_neg hp])
        have hp' : ¬ wE s nm p b = 0 := by rw [WE.out]; exact hp
        rw [if_neg hp', if_neg hp', WE.out]
        generalize pErr p lb = er at *
        have a1 : (er == 0) = false := by simpa using hp
        have a2 : decide (er = 0) = false := by simpa using hp
        clear hp hp' EW WE H hI f0 en se
        go_enter Tryz.func33, Tryz.ntmps33
        go_wp2_with fail
        refine AT.out.mono ?_
        rintro e w' ⟨rfl, rfl⟩
        clear AT
        go_wp2_with fail
        refine PC.out.mono ?_
        rintro e w1 ⟨v, rfl, -, hb⟩
        have R1 := Lib.hid (RW.out.later hb)
        have V1 := Lib.hid (show Veer false N q w w1 from Veer.of_below hb RW.out.baseW)
        clear hb PC x1 c8
        go_wp2_with fail
        go_ret
        exact ⟨rfl, R1.out, V1.out⟩
end Go.Proofs.YtaklilhnikmmfaaGreat
