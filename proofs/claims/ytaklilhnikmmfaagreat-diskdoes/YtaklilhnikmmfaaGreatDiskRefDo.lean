/-
  The walk of the reference's Disk.Do: a thing done to the directory.
-/
import Derived.Test.YtaklilhnikmmfaaGreatDiskRefWrite
namespace Go.Proofs.YtaklilhnikmmfaaGreat
open Go.RowKit StrM BlockM FileM DirM DiskM

theorem FsIn.snoc {w : World} {v' : Value} {us : List U3} {fs : List Fl} {base : Nat} (hh : FsHas w us fs) (ho : w.ownsRow base 70 3 v' (fs.length + 1) (u3s us ++ u3 (.slice none 0 0, .slice none 0 0, .slice none 0 0))) : FsIn w v' (fs ++ [zf]) := by
  refine ⟨us ++ [(.slice none 0 0, .slice none 0 0, .slice none 0 0)], ⟨by simp [hh.len], fun k h1 h2 => ?_⟩, ?_⟩
  · by_cases hk : k < fs.length
    · have hu : k < us.length := by rw [hh.len]; exact hk
      have := hh.file k hu hk
      simpa [List.getElem_append_left hu, List.getElem_append_left hk] using this
    · have e1 : k = fs.length := by simp at h2; omega
      subst e1
      have e2 : fs.length = us.length := hh.len.symm
      simp only [List.getElem_concat_length]
      rw [List.getElem_append_right (by omega)]
      simp only [e2, Nat.sub_self, List.getElem_singleton]
      exact SeesF.zero w
  · rw [u3s_app, List.length_append]
    exact own_baseN ho (Nat.zero_le _)

set_option maxHeartbeats 8000000 in
set_option maxRecDepth 100000 in
theorem rdo_any (N q i : Nat) (s : S) (o : O) (w : World) (h : RD N q s w) (hI : Inv i s) (hi : i ≤ 100) (ho : OkO o) :
    Calls Tryz.prog 32 #[.pointer (some ⟨q, 0, none⟩), .agg #[.int .i64 o.kind, .string o.name, .string o.dst, .int .i64 o.node]] w (REnd N q (dirE s o) (dirS s o) w) := by
  cases hd : s.down
  case' true =>
    obtain ⟨r, H0⟩ := h
    have B0 := Lib.hid (below_made w (.cells #[.int .i64 o.kind, .string o.name, .string o.dst, .int .i64 o.node] 65))
    have LO := Lib.hid (H0.low hI.fine w (Veer.refl _ _ _ _))
    have HBW := Lib.hid H0.baseW
    have o0 : 0 ≤ r.ops := by rw [H0.ops]; exact hI.ops0
    have o1 : r.ops ≤ 1000 := by rw [H0.ops]; have := hI.opsI; omega
    have E1 : dirE s o = 9 := by unfold dirE; rw [hd]; rfl
    have E2 : dirS s o = low s := by unfold dirS; rw [hd]; rfl
    rw [E1, E2]
    have hq := H0.box.lt
    obtain ⟨-, -, -, -, -, c5, -, -, c8⟩ := H0.box.cells
    rw [H0.down, hd] at c8
    have f5 := H0.box.soft 5
    generalize r.ops = n5 at *
    clear H0 hI hd E1 E2
    go_enter Tryz.func32, Tryz.ntmps32
    go_wp2_with fail
    go_ret
    exact ⟨rfl, LO.out.1.later (below_made _ _), LO.out.2.more (below_made _ _) (Nat.le_trans HBW.out LO.out.2.size)⟩
  case' false =>
    have CT := Lib.hid (fun W (h : RD N q s W) => rcount_any N q i s W h hI hi hd)
    have HI := Lib.hid hI
    have HZ := Lib.hid (dsz_of hI hi)
    have RW := Lib.hid h
    have EE : dirE s o = if doE s.dir (opOf s o) = 0 then hit s else doE s.dir (opOf s o) := by unfold dirE; rw [hd]; rfl
    have ES : dirS s o = if doE s.dir (opOf s o) = 0 then (if hit s = 0 then grown s o else ticked s) else s := by unfold dirS; rw [hd]; rfl
    generalize dirE s o = er' at *
    generalize dirS s o = s' at *
    have XE := Lib.hid (fun h : ¬ doE s.dir (opOf s o) = 0 => (⟨by rw [EE, if_neg h], by rw [ES, if_neg h]⟩ : er' = doE s.dir (opOf s o) ∧ s' = s))
    have XH := Lib.hid (fun (h : doE s.dir (opOf s o) = 0) (h2 : ¬ hit s = 0) => (⟨by rw [EE, if_pos h], by rw [ES, if_pos h, if_neg h2]⟩ : er' = hit s ∧ s' = ticked s))
    have XG := Lib.hid (fun (h : doE s.dir (opOf s o) = 0) (h2 : hit s = 0) => (⟨by rw [EE, if_pos h, h2], by rw [ES, if_pos h, if_pos h2]; rfl⟩ : er' = 0 ∧ s' = { ticked s with dir := doD s.dir (opOf s o), files := if o.kind = 1 then s.files ++ [zf] else s.files }))
    clear EE ES
    obtain ⟨r, H⟩ := h
    have hq := H.box.lt
    obtain ⟨Af, cf, ff, -⟩ := H.files.form
    obtain ⟨n, hn⟩ : ∃ n, n = s.files.length := ⟨_, rfl⟩
    have hn100 : n ≤ 100 := by rw [hn]; have := hI.few; omega
    obtain ⟨-, -, -, -, x4, -, -, -, c8⟩ := H.box.cells
    rw [H.down, hd] at c8
    rw [ff, ← hn] at x4
    have HO := Lib.hid ho
    have OP : opOf s o = ⟨o.kind, o.name, o.dst, if o.kind = 1 then (n : Int) + 1 else o.node⟩ := by unfold opOf; rw [hn]; split <;> rfl
    have HOP := Lib.hid (show OkO (opOf s o) by rw [OP]; exact ⟨ho.1, ho.2⟩)
    have HNN := Lib.hid hn
    clear hd hI H ff hn ho
    obtain ⟨kd, nm, ds, nd⟩ := o
    dsimp only at *
    have BA := Lib.hid (below_made w (.cells #[.int .i64 kd, .string nm, .string ds, .int .i64 nd] 65))
    have OA := Lib.hid (Blk.made w #[.int .i64 kd, .string nm, .string ds, .int .i64 nd] 65)
    by_cases hk : kd = 1
    case' pos =>
      subst hk
      go_enter Tryz.func32, Tryz.ntmps32
      go_wp2_with fail
      have OX := Lib.hid (show opOf s ⟨1, nm, ds, nd⟩ = ⟨1, nm, ds, (n : Int) + 1⟩ by rw [OP]; rfl)
      generalize (n : Int) + 1 = nd' at *
    case' neg =>
      have k1 : (kd == 1) = false := by simpa using hk
      have k2 : decide (kd = 1) = false := by simpa using hk
      go_enter Tryz.func32, Tryz.ntmps32
      go_wp2_with fail
      have OX := Lib.hid (show opOf s ⟨kd, nm, ds, nd⟩ = ⟨kd, nm, ds, nd⟩ by rw [OP, if_neg hk])
      obtain ⟨nd', hnd⟩ : ∃ x, x = nd := ⟨_, rfl⟩
      subst hnd
    case' pos =>
      have B1 := Lib.hid (below_made w (.cells #[.int .i64 1, .string nm, .string ds, .int .i64 nd'] 65))
      have E1 := Lib.hid (Blk.made w #[.int .i64 1, .string nm, .string ds, .int .i64 nd'] 65)
      generalize w.alloc (.cells #[.int .i64 1, .string nm, .string ds, .int .i64 nd'] 65) = w1 at *
      obtain ⟨kx, hkx⟩ : ∃ x : Int, x = 1 := ⟨_, rfl⟩
      have OY := Lib.hid (show opOf s ⟨1, nm, ds, nd⟩ = ⟨kx, nm, ds, nd'⟩ by rw [OX.out, hkx])
      rw [OY.out] at XE XH XG HOP
      have XG2 := Lib.hid (show doE s.dir ⟨kx, nm, ds, nd'⟩ = 0 → hit s = 0 → er' = 0 ∧ s' = { ticked s with dir := doD s.dir ⟨kx, nm, ds, nd'⟩, files := if kx = 1 then s.files ++ [zf] else s.files } from fun h h2 => by
        have := XG.out h h2
        rw [if_pos hkx]
        simpa using this)
      clear XG
      have XG := XG2
      rw [← hkx] at E1
      have HKX := Lib.hid hkx
      clear hkx
    case' neg =>
      have B1 := Lib.hid (below_made w (.cells #[.int .i64 kd, .string nm, .string ds, .int .i64 nd'] 65))
      have E1 := Lib.hid (Blk.made w #[.int .i64 kd, .string nm, .string ds, .int .i64 nd'] 65)
      generalize w.alloc (.cells #[.int .i64 kd, .string nm, .string ds, .int .i64 nd'] 65) = w1 at *
      rw [OX.out] at XE XH XG HOP
      obtain ⟨kx, hkx⟩ : ∃ x : Int, x = kd := ⟨_, rfl⟩
      subst hkx
      have HKX := Lib.hid hk
    all_goals
      have LQ := Lib.hid (show q < w.heap.size from hq)
      have R1 := Lib.hid (RW.out.later B1.out)
      have V1 := Lib.hid (show Veer false N q w w1 from Veer.of_below B1.out RW.out.baseW)
      clear BA OA RW x4 c8 OP hq
      generalize w.heap.size = b0 at *
      obtain ⟨r1, H1⟩ := R1.out
      obtain ⟨A0, n0, c0, A1, n1, c1, A2, n2, c2, f0, f1, f2, -⟩ := H1.entries
      obtain ⟨-, x1, x2, x3, -⟩ := H1.box.cells
      rw [f0] at x1
      rw [f1] at x2
      rw [f2] at x3
      have hq1 := H1.box.lt
      have SD := Lib.hid (show SeesD w1 (.agg #[.slice A0 n0 c0, .slice A1 n1 c1, .slice A2 n2 c2]) s.dir by have := H1.dir; rwa [f0, f1, f2] at this)
      have hb0 : b0 < w1.heap.size := E1.out.lt
      obtain ⟨dd, hdd⟩ : ∃ d, d = doD s.dir ⟨kx, nm, ds, nd'⟩ := ⟨_, rfl⟩
      have DOC := Lib.hid (show ∀ W, Below w1.heap.size w1 W → Calls Tryz.prog 60 #[.agg #[.slice A0 n0 c0, .slice A1 n1 c1, .slice A2 n2 c2], .agg #[.int .i64 kx, .string nm, .string ds, .int .i64 nd']] W fun e W' => ∃ B0 m0 e0 B1 m1 e1 B2 m2 e2, e = .returned (.tuple #[.agg #[.slice B0 m0 e0, .slice B1 m1 e1, .slice B2 m2 e2], .int .i64 (doE s.dir ⟨kx, nm, ds, nd'⟩)]) ∧ SeesD W' (.agg #[.slice B0 m0 e0, .slice B1 m1 e1, .slice B2 m2 e2]) dd ∧ Below W.heap.size W W' ∧ Below w1.heap.size w1 W' from
        fun W hB => (rddo_any _ s.dir ⟨kx, nm, ds, nd'⟩ W (SD.out.later hB) HZ.out (by have := HI.out.pend; omega) HOP.out).mono fun e W' ⟨v, he, hs, hb⟩ => by
          rw [← hdd] at hs
          obtain ⟨B0, e0, B1, e1, B2, e2, rfl, -, -, -⟩ := hs.slices
          exact ⟨B0, _, e0, B1, _, e1, B2, _, e2, he, hs, hb, hB.trans (hb.mono hB.size)⟩)
      have HC := Lib.hid (show ∀ W, Below w1.heap.size w1 W → (W.cell? ⟨q, 1, none⟩ = some (.slice A0 n0 c0) ∧ W.cell? ⟨q, 2, none⟩ = some (.slice A1 n1 c1) ∧ W.cell? ⟨q, 3, none⟩ = some (.slice A2 n2 c2)) ∧ W.cell? ⟨b0, 0, none⟩ = some (.int .i64 kx) ∧ W.cell? ⟨b0, 1, none⟩ = some (.string nm) ∧ W.cell? ⟨b0, 2, none⟩ = some (.string ds) ∧ W.cell? ⟨b0, 3, none⟩ = some (.int .i64 nd') from
        fun W hB => ⟨⟨(hBcell hB hq1).trans x1, (hBcell hB hq1).trans x2, (hBcell hB hq1).trans x3⟩, (E1.out.later hB).cell rfl, (E1.out.later hB).cell rfl, (E1.out.later hB).cell rfl, (E1.out.later hB).cell rfl⟩)
      have KD : Below w1.heap.size w1 w1.drew := below_drew _ (Nat.le_refl _)
      have KA : Below w1.heap.size w1 (w1.alloc (.cells #[.slice none 0 0, .slice none 0 0, .slice none 0 0] 32)).drew := (below_made w1 _).drew
      have GA := Lib.hid (show DBox (w1.alloc (.cells #[.slice none 0 0, .slice none 0 0, .slice none 0 0] 32)).drew w1.heap.size _ _ _ from (DBox.made w1 (.slice none 0 0) (.slice none 0 0) (.slice none 0 0)).later (below_drew _ (Nat.le_refl _)))
      have HDD := Lib.hid hdd
      clear H1 f0 f1 f2 SD x1 x2 x3 hdd
      generalize doE s.dir ⟨kx, nm, ds, nd'⟩ = er at *
      go_region_held3 (fun W => (W.cell? ⟨q, 1, none⟩ = some (.slice A0 n0 c0) ∧ W.cell? ⟨q, 2, none⟩ = some (.slice A1 n1 c1) ∧ W.cell? ⟨q, 3, none⟩ = some (.slice A2 n2 c2)) ∧ W.cell? ⟨b0, 0, none⟩ = some (.int .i64 kx) ∧ W.cell? ⟨b0, 1, none⟩ = some (.string nm) ∧ W.cell? ⟨b0, 2, none⟩ = some (.string ds) ∧ W.cell? ⟨b0, 3, none⟩ = some (.int .i64 nd'))
        (first | exact HC.out _ KD | exact HC.out _ KA | exact HC.out _ k2 | exact HC.out _ (k2.alloc k2.size _) | exact HC.out _ (dset_below k2 (Nat.le_refl _) _ _ _) | exact HC.out _ (dset_below (k2.alloc k2.size _) k2.size _ _ _))
        (first
          | (go_at_call 60; (with_reducible refine (DOC.out _ (by assumption)).mono ?_); rintro e w2 ⟨B0, m0, e0, B1', m1, e1, B2, m2, e2, rfl, s2, b2, k2⟩; (try (have GX := GA.out.later b2; obtain ⟨y0, y1, y2⟩ := GX.cells; obtain ⟨z0, z1, z2⟩ := GX.soft))))
      have b3 := below_made w2 (.cells #[.slice B0 m0 e0, .slice B1' m1 e1, .slice B2 m2 e2] 32)
      have S4 := Lib.hid (s2.later b3)
      have B4 := Lib.hid (k2.trans (b3.mono k2.size))
      have G4 := Lib.hid (DBox.made w2 (.slice B0 m0 e0) (.slice B1' m1 e1) (.slice B2 m2 e2))
      have lq := k2.size
      clear s2 b2 k2 b3
      generalize w2.alloc (.cells #[.slice B0 m0 e0, .slice B1' m1 e1, .slice B2 m2 e2] 32) = w3 at *
      generalize w2.heap.size = z at *
      rotate_left
      change Exit.then _ _ _ _ (dset w2 w1.heap.size (.slice B0 m0 e0) (.slice B1' m1 e1) (.slice B2 m2 e2))
      have S4 := Lib.hid (s2.dset GX (.slice B0 m0 e0) (.slice B1' m1 e1) (.slice B2 m2 e2))
      have B4 := Lib.hid (dset_below k2 (Nat.le_refl _) (.slice B0 m0 e0) (.slice B1' m1 e1) (.slice B2 m2 e2))
      have G4 := Lib.hid (GX.set (.slice B0 m0 e0) (.slice B1' m1 e1) (.slice B2 m2 e2))
      clear s2 b2 k2 GX y0 y1 y2 z0 z1 z2
      generalize dset w2 w1.heap.size (.slice B0 m0 e0) (.slice B1' m1 e1) (.slice B2 m2 e2) = w3 at *
      obtain ⟨z, hz⟩ : ∃ z, z = w1.heap.size := ⟨_, rfl⟩
      rw [← hz] at G4 ⊢
      have lq : w1.heap.size ≤ z := by omega
      clear hz
      all_goals
        have hzq : z ≠ q := by have := LQ.out; omega
        have hbq : b0 ≠ q := by have := LQ.out; omega
        have E4 := Lib.hid (E1.out.later B4.out)
        have R4 := Lib.hid (R1.out.later B4.out)
        have V4 := Lib.hid (V1.out.trans (Veer.of_below B4.out R1.out.baseW))
        clear DOC HC KD KA GA E1 R1 V1 B4 B1
        by_cases he : er = 0
        · have XH2 := Lib.hid (XH.out he)
          have XG2' := Lib.hid (XG.out he)
          clear XE XH XG
          subst he
          go_wp2_with fail
          refine (CT.out _ R4.out).mono ?_
          rintro e w5 ⟨rfl, hR, hV⟩
          have R5 := Lib.hid hR
          have V5 := Lib.hid hV
          have E5 := Lib.hid (show Blk w5 b0 _ _ from hV.keep b0 _ E4.out hbq (fun _ es c hx => by cases hx))
          have G5 := Lib.hid (show DBox w5 z _ _ _ from hV.keep z _ G4.out hzq (fun _ es c hx => by cases hx))
          obtain ⟨r4, H4⟩ := R4.out
          have S5 := Lib.hid (S4.out.veer hV H4.shell)
          clear hR hV H4 CT E4 G4 S4 R4
          generalize hit s = ht at *
          by_cases h0 : ht = 0
          · have HS := Lib.hid (XG2'.out h0)
            clear XH2 XG2'
            subst h0
            obtain ⟨r5, H5⟩ := R5.out
            have FIN1 := Lib.hid (H5.setDir HI.out.fine S5.out (Veer.refl false N q w5))
            have f1 := H5.box.soft 1
            have f2 := H5.box.soft 2
            have f3 := H5.box.soft 3
            obtain ⟨-, x1, x2, x3, -⟩ := H5.box.cells
            have hq5' := H5.box.lt
            obtain ⟨g0, g1, g2⟩ := G5.out.cells
            have E6 := Lib.hid (show Blk _ b0 _ _ from FIN1.out.2.keep b0 _ E5.out hbq (fun _ es c hx => by cases hx))
            have o6 := E6.out.cell (i := 0) rfl
            clear R5 H5 S5 E5
            by_cases hk1 : kx = 1
            · (try clear hk k1 k2)
              clear HKX
              subst hk1
              have HS2 := Lib.hid (show er' = 0 ∧ s' = { ({ ticked s with dir := dd } : S) with files := s.files ++ [zf] } by
                have := HS.out
                rw [HDD.out]
                simpa using this)
              clear HS
              obtain ⟨r6, H6⟩ := FIN1.out.1
              obtain ⟨Af6, cf6, ff6, -⟩ := H6.files.form
              obtain ⟨us, hh6, hsn6, hul6⟩ := H6.files.src
              obtain ⟨-, -, -, -, x4, -⟩ := H6.box.cells
              have nE : ({ ticked s with dir := dd } : S).files.length = n := HNN.out.symm
              rw [ff6] at x4 hsn6
              rw [nE] at x4 hsn6 hul6
              have HH6 := Lib.hid hh6
              have SN6 := Lib.hid (hsn6.later (below_made _ (.cells #[] 70)))
              have UL6 := Lib.hid hul6
              have RH6 := Lib.hid H6
              have HSZ := Lib.hid (show (((w5.setCell ⟨q, 1, none⟩ (.slice B0 m0 e0)).setCell ⟨q, 2, none⟩ (.slice B1' m1 e1)).setCell ⟨q, 3, none⟩ (.slice B2 m2 e2)).heap.size = w5.heap.size by simp)
              have OM6 := Lib.hid (show World.ownsRow _ w5.heap.size 70 3 (.slice (some ⟨w5.heap.size, 0, none⟩) 0 0) 0 [] by
                have := own_madeN (((w5.setCell ⟨q, 1, none⟩ (.slice B0 m0 e0)).setCell ⟨q, 2, none⟩ (.slice B1' m1 e1)).setCell ⟨q, 3, none⟩ (.slice B2 m2 e2)) 70 3
                rw [HSZ.out] at this
                exact this)
              have hq5 : q < w5.heap.size := hq5'
              have hq6 := H6.box.lt
              have NB1 := Lib.hid (show (0 + n) * 72 ≤ 140737488355328 by omega)
              have NB2 := Lib.hid (show 0 + n ≤ maxLen by unfold maxLen; omega)
              have NB3 := Lib.hid (show (n + 1) * 72 ≤ 140737488355328 by omega)
              have NB4 := Lib.hid (show n + 1 ≤ maxLen by unfold maxLen; omega)
              clear H6 ff6 hh6 hsn6 hul6 hq5'
              go_wp2_with (at_builtin; refine append_n nFiles rfl (.tmp 55) (.tmp 59) rfl w5.heap.size _ 0 [] rfl OM6.out _ n (u3s us) rfl SN6.out UL6.out HH6.out.ones NB1.out NB2.out (by simp) ?_)
              intro v7 w7 o7 b7 st7
              replace o7 : w7.ownsRow w5.heap.size 70 3 v7 n (u3s us) := by simpa using o7
              obtain ⟨A7, c7, rfl, -⟩ := (SeesN.of_own o7).form
              have O7 := Lib.hid o7
              have B7 := Lib.hid (show Below w5.heap.size (((w5.setCell ⟨q, 1, none⟩ (.slice B0 m0 e0)).setCell ⟨q, 2, none⟩ (.slice B1' m1 e1)).setCell ⟨q, 3, none⟩ (.slice B2 m2 e2)) w7 by
                have := below_made (((w5.setCell ⟨q, 1, none⟩ (.slice B0 m0 e0)).setCell ⟨q, 2, none⟩ (.slice B1' m1 e1)).setCell ⟨q, 3, none⟩ (.slice B2 m2 e2)) (.cells #[] 70)
                rw [HSZ.out] at this
                exact this.trans b7)
              have LS7 := Lib.hid (show w5.heap.size ≤ w7.heap.size by have := B7.out.size; rw [HSZ.out] at this; exact this)
              clear o7 b7 st7 x4 OM6 SN6
              go_wp2_with (at_builtin; refine append_n1 nFiles rfl (.tmp 60) (.tmp 62) rfl w5.heap.size _ n (u3s us) rfl O7.out (u3 (.slice none 0 0, .slice none 0 0, .slice none 0 0)) _ rfl rfl rfl (SeesF.zero w7).ones NB3.out NB4.out LS7.out ?_)
              intro v8 w8 o8 b8 st8
              obtain ⟨A8, c8, rfl, -⟩ := (SeesN.of_own o8).form
              have B8 := Lib.hid (show Below (((w5.setCell ⟨q, 1, none⟩ (.slice B0 m0 e0)).setCell ⟨q, 2, none⟩ (.slice B1' m1 e1)).setCell ⟨q, 3, none⟩ (.slice B2 m2 e2)).heap.size _ w8 by rw [HSZ.out]; exact B7.out.trans b8)
              have RH8 := Lib.hid (RH6.out.later B8.out)
              have FS8 := Lib.hid (FsIn.snoc (HH6.out.later B8.out) (by rw [nE]; exact o8))
              have HV8 := Lib.hid (show ∀ f ∈ s.files ++ [zf], FileM.valid f = true from fun f hf => by
                rcases List.mem_append.1 hf with hf | hf
                · exact HI.out.fine f hf
                · rw [List.mem_singleton] at hf; subst hf; exact FileM.valid_zf)
              have V8 := Lib.hid (((V4.out.trans V5.out).trans FIN1.out.2).more B8.out RH6.out.baseW)
              have FIN2 := Lib.hid (RH8.out.setFiles HV8.out FS8.out V8.out)
              rw [← HS2.out.2] at FIN2
              have f4 := RH8.out.box.soft 4
              obtain ⟨-, -, -, -, x4, -⟩ := RH8.out.box.cells
              clear o8 b8 st8 O7 B7 LS7 B8 FS8 RH6 HH6 FIN1 HSZ f1 f2 f3 x1 x2 x3 g0 g1 g2 o6 hq5 hq6
              go_wp2_with fail
              go_ret
              exact ⟨by rw [HS2.out.1]; rfl, FIN2.out.1, FIN2.out.2⟩
            · have k1' : (kx == 1) = false := by simpa using hk1
              have k2' : decide (kx = 1) = false := by simpa using hk1
              have HS2 := Lib.hid (show er' = 0 ∧ s' = { ticked s with dir := dd } by
                have := HS.out
                rw [if_neg hk1] at this
                rw [HDD.out]
                exact this)
              (try clear hk k1 k2)
              clear HS hk1
              go_wp2_with fail
              go_ret
              exact ⟨by rw [HS2.out.1]; rfl, by rw [HS2.out.2]; exact FIN1.out.1, (V4.out.trans V5.out).trans FIN1.out.2⟩
          · have a1 : (ht == 0) = false := by simpa using h0
            have a2 : decide (ht = 0) = false := by simpa using h0
            have HS := Lib.hid (XH2.out h0)
            clear XH2 XG2' h0
            go_wp2_with fail
            go_ret
            exact ⟨by rw [HS.out.1]; rfl, by rw [HS.out.2]; exact R5.out, V4.out.trans V5.out⟩
        · have a1 : (er == 0) = false := by simpa using he
          have a2 : decide (er = 0) = false := by simpa using he
          have HS := Lib.hid (XE.out he)
          clear XE XH XG CT he
          go_wp2_with fail
          go_ret
          exact ⟨by rw [HS.out.1]; rfl, by rw [HS.out.2]; exact R4.out, V4.out⟩
end Go.Proofs.YtaklilhnikmmfaaGreat
