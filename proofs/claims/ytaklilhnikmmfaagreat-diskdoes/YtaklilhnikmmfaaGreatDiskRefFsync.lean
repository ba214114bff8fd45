/-
  The walk of the reference's Sync.
-/
import Derived.Test.YtaklilhnikmmfaaGreatDiskRefSyn
namespace Go.Proofs.YtaklilhnikmmfaaGreat
open Go.RowKit StrM BlockM FileM DirM DiskM

theorem hBcell {w w' : World} {g i : Nat} (hb : Below w.heap.size w w') (hg : g < w.heap.size) : w'.cell? ⟨g, i, none⟩ = w.cell? ⟨g, i, none⟩ := hb.cell (p := ⟨g, i, none⟩) hg
/-- What is known of the directory's entries and of one name. -/
theorem RHeld.look {w : World} {N q i : Nat} {s : S} {r : RR} (h : RHeld w N q s r) (hI : Inv i s) :
    ∃ A0 n0 c0, r.N = .slice A0 n0 c0 ∧ n0 = s.dir.now.length ∧ n0 ≤ 100 ∧ SeesE w (.slice A0 n0 c0) s.dir.now := by
  obtain ⟨A0, n0, c0, A1, n1, c1, A2, n2, c2, f0, f1, f2, en, -⟩ := h.entries
  refine ⟨A0, n0, c0, f0, en, by rw [en]; exact (DirM.valid_now hI.dirs).few, ?_⟩
  have := h.dir
  rw [f0] at this
  obtain ⟨_, _, _, e, h1, -⟩ := this
  injection e with e
  injection e with e
  injection e with e _
  rw [e]; exact h1

set_option maxHeartbeats 8000000 in
set_option maxRecDepth 100000 in
theorem rsync_any (N q i : Nat) (s : S) (nm : ByteArray) (w : World) (h : RD N q s w) (hI : Inv i s) (hi : i ≤ 100) :
    Calls Tryz.prog 34 #[.pointer (some ⟨q, 0, none⟩), .string nm] w (REnd N q (fE s nm 0) (fS s nm 0 (syn (DiskM.file s nm))) w) := by
  cases hd : s.down
  case' true =>
    obtain ⟨r, H⟩ := h
    have LO := Lib.hid (H.low hI.fine w (Veer.refl _ _ _ _))
    have o0 : 0 ≤ r.ops := by rw [H.ops]; exact hI.ops0
    have o1 : r.ops ≤ 1000 := by rw [H.ops]; have := hI.opsI; omega
    have E1 : fE s nm 0 = 9 := by unfold fE; rw [hd]; rfl
    have E2 : fS s nm 0 (syn (DiskM.file s nm)) = low s := by unfold fS; rw [hd]; rfl
    rw [E1, E2]
    obtain ⟨-, -, -, -, -, c5, -, -, c8⟩ := H.box.cells
    rw [H.down, hd] at c8
    have f5 := H.box.soft 5
    generalize r.ops = n5 at *
    clear H hI hd E1 E2
    go_enter Tryz.func34, Tryz.ntmps34
    go_wp2_with fail
    go_ret
    exact ⟨rfl, LO.out.1, LO.out.2⟩
  case' false =>
    have CT := Lib.hid (rcount_any N q i s w h hI hi hd)
    have HI := Lib.hid hI
    have RW := Lib.hid h
    obtain ⟨r, H⟩ := h
    obtain ⟨A0, n0, c0, f0, en, n0l, se⟩ := H.look hI
    have AT := Lib.hid (rat_any (.slice A0 n0 c0) s.dir.now nm w se (by rw [← en]; omega))
    obtain ⟨-, x1, -, -, -, -, -, -, c8⟩ := H.box.cells
    rw [H.down, hd] at c8
    rw [f0] at x1
    cases hh : has s.dir.now nm
    case' false =>
      rw [(av_none hh).1] at AT
      have E1 : fE s nm 0 = 5 := by unfold fE; rw [hd, hh]; rfl
      have E2 : fS s nm 0 (syn (DiskM.file s nm)) = s := by unfold fS; rw [hd, hh]; rfl
      rw [E1, E2]
      clear H hI hd hh f0 en se E1 E2 CT
      go_enter Tryz.func34, Tryz.ntmps34
      go_wp2_with fail
      refine AT.out.mono ?_
      rintro e w' ⟨rfl, rfl⟩
      clear AT
      go_wp2_with fail
      go_ret
      exact ⟨rfl, RW.out, Veer.refl _ _ _ _⟩
    case' true =>
      obtain ⟨j, hkl, ej, hno, -⟩ := av_has hh
      have hnode : s.dir.now[j].node = DiskM.node s nm := hno
      have HND := Lib.hid hnode
      have HAL := Lib.hid (now_alive hI.dirs _ (List.getElem_mem hkl))
      have HEN := Lib.hid en
      rw [ej] at AT
      have E1 : fE s nm 0 = hit s := by unfold fE; rw [hd, hh]; rfl
      have E2 : fS s nm 0 (syn (DiskM.file s nm)) = if hit s = 0 then DiskM.setF s nm (syn (DiskM.file s nm)) else ticked s := by unfold fS; rw [hd, hh]; rfl
      rw [E1]
      have HE2 := Lib.hid E2
      have HSZ := Lib.hid (sz_of hI hi nm)
      have hj0 : ¬ (j : Int) < 0 := by omega
      have hjn : (j : Int) < (n0 : Int) := by rw [en]; omega
      have I1 := Lib.hid hI.ticked
      have HV0 := Lib.hid (show Veer false N q w w from Veer.refl _ _ _ _)
      clear H hI hd hh f0 en se hno hnode E1 E2 HV0
      generalize fS s nm 0 (syn (DiskM.file s nm)) = s' at *
      have EH := Lib.hid (show hit s = 0 → s' = DiskM.setF s nm (syn (DiskM.file s nm)) from fun h => by rw [HE2.out, if_pos h])
      have EN := Lib.hid (show ¬ hit s = 0 → s' = ticked s from fun h => by rw [HE2.out, if_neg h])
      generalize hit s = er at *
      go_enter Tryz.func34, Tryz.ntmps34
      go_wp2_with fail
      refine AT.out.mono ?_
      rintro e w' ⟨rfl, rfl⟩
      clear AT
      go_wp2_with fail
      refine CT.out.mono ?_
      rintro e w1 ⟨rfl, hR, hV⟩
      have V1 := Lib.hid hV
      clear hV c8 x1 CT
      by_cases ht : er = 0
      · have HX := Lib.hid (EH.out ht)
        subst ht
        obtain ⟨r1, H1⟩ := hR
        have R1 := Lib.hid H1
        obtain ⟨A3, n3, c3, f3, en3, n3l, se3⟩ := H1.look I1.out
        obtain ⟨gb, off, rfl, hg, hc1, hc2⟩ := se3.cells (k := j) hkl
        obtain ⟨Af, cf, ff, -⟩ := H1.files.form
        obtain ⟨k, hk, -, -, -, -, -, -, -, -, -, -, hnd, -, -, -, -, -, -, -, -, efile, -⟩ := H1.node I1.out ff HAL.out
        obtain ⟨us, hh1, hsn, -⟩ := H1.files.src
        obtain ⟨-, x1, -, -, x4, -⟩ := H1.box.cells
        rw [f3] at x1
        rw [ff] at x4 hsn
        have hc2' : w1.cell? ⟨gb, off + j * 2 + 1, none⟩ = some (.int .i64 ((k : Int) + 1)) := by rw [← hnd]; exact hc2
        have EFI := Lib.hid (show (ticked s).files[k] = DiskM.file s nm by rw [efile]; show fl s.files s.dir.now[j].node = _; rw [HND.out]; rfl)
        have EK := Lib.hid (show (DiskM.node s nm).toNat - 1 = k by rw [← HND.out]; have : s.dir.now[j].node = (k : Int) + 1 := hnd; omega)
        have ek : (k : Int) + 1 - 1 = (k : Int) := by omega
        have hjn3 : j < n3 := by rw [en3]; exact hkl
        have HFS := Lib.hid (show (ticked s).files.length ≤ 100 by have := HI.out.few; show s.files.length ≤ 100; omega)
        have HK := Lib.hid hk
        have HH1 := Lib.hid hh1
        have HSN := Lib.hid hsn
        have HPOS := Lib.hid (show 0 < (ticked s).files.length by omega)
        have hi1 : Inv (i + 1) (ticked s) := I1.out
        have hq1 : q < w1.heap.size := H1.box.lt
        have hk100 : k ≤ 100 := by have := HFS.out; omega
        clear H1 hc2 hc1 se3 f3 ff hnd efile hh1 hsn HE2 EH EN hi1
        go_wp2_with (at_builtin; refine append_files rfl (.tmp 45) (.tmp 49) rfl _ _ rfl rfl (HH1.out.later (below_made _ _)) (HSN.out.later (below_made _ _)) HPOS.out (by have := HFS.out; omega) ?_)
        intro cap w2 ho hsl hb
        have hgs : (w1.alloc (.cells #[] 70)).heap.size = w1.heap.size + 1 := by simp
        have LG := Lib.hid (show w1.heap.size ≤ w1.heap.size + 1 by omega)
        have CM := Lib.hid (Cp.made (R1.out.later (below_made _ _)) HI.out.fine (HH1.out.later (below_made _ _)) hgs ho hsl hb (V1.out.more (below_made _ _) R1.out.baseW))
        have RX := Lib.hid ((R1.out.later (below_made _ (.cells #[] 70))).later (by rw [hgs]; exact hb))
        clear hgs
        clear ho hsl hb x1 x4 hc2' HSN
        generalize w1.heap.size + 1 = g at *
        obtain ⟨-, -, -, -, x4, -⟩ := RX.out.box.cells
        have f4 := RX.out.box.soft 4
        obtain ⟨n, hn⟩ : ∃ n, n = (ticked s).files.length := ⟨_, rfl⟩
        rw [← hn] at CM ⊢
        have hkn : k < n := by rw [hn]; exact HK.out
        clear hn
        go_wp2_with fail
        generalize w2.setCell ⟨q, 4, none⟩ (.slice (some ⟨g, 0, none⟩) n cap) = w3 at *
        have CP := Lib.hid CM.out.1
        have V3 := Lib.hid CM.out.2
        clear x4 f4 RX CM
        obtain ⟨B0, m0, d0, B1, m1, d1, B2, m2, d2, x4, y0, y1, y2, hS⟩ := CP.out.cells HK.out
        rw [EFI.out] at hS
        have SY := Lib.hid (show ∀ W, Below w3.heap.size w3 W → Calls Tryz.prog 64 #[.agg #[.slice B0 m0 d0, .slice B1 m1 d1, .slice B2 m2 d2]] W fun e W' => ∃ A0 n0 c0 A1 n1 c1 A2 n2 c2, e = .returned (.agg #[.slice A0 n0 c0, .slice A1 n1 c1, .slice A2 n2 c2]) ∧ SeesF W' (.agg #[.slice A0 n0 c0, .slice A1 n1 c1, .slice A2 n2 c2]) (FileM.syn (DiskM.file s nm)) ∧ Below w3.heap.size w3 W' from
          fun W hB => (rfsync_any _ _ W (hS.later hB) HSZ.out).mono fun e W' ⟨v, he, hs, hb⟩ => by
            obtain ⟨A0, c0, A1, c1, A2, c2, rfl, -, -, -⟩ := hs.slices
            exact ⟨A0, _, c0, A1, _, c1, A2, _, c2, he, hs, hB.trans (hb.mono hB.size)⟩)
        have HC := Lib.hid (show ∀ W, Below w3.heap.size w3 W → W.cell? ⟨q, 4, none⟩ = some (.slice (some ⟨g, 0, none⟩) n cap) from fun W hB => (hB.cell (p := ⟨q, 4, none⟩) CP.out.held.box.lt).trans x4)
        have HQ := Lib.hid (show ∀ W A B C, Below w3.heap.size w3 W → (set3 W g k A B C).cell? ⟨q, 4, none⟩ = some (.slice (some ⟨g, 0, none⟩) n cap) from fun W A B C hB =>
          ((((Veer.refl false 0 g W).set (Nat.zero_le _) _ A).set (Nat.zero_le _) _ B).set (Nat.zero_le _) _ C).cell (HC.out W hB) (fun e => CP.out.ne e.symm))
        have KD : Below w3.heap.size w3 w3.drew := below_drew _ (Nat.le_refl _)
        clear hS
        clear HQ
        go_region_with (first
            | (go_at_call 64; (with_reducible refine (SY.out _ (by first | exact KD | exact Below.refl _ _)).mono ?_); rintro e w4 ⟨A0', n0', c0', A1', n1', c1', A2', n2', c2', rfl, s4, k4⟩; have z0 := (CP.out.later k4).soft (k * 3); have z1 := (CP.out.later k4).soft (k * 3 + 1); have z2 := (CP.out.later k4).soft (k * 3 + 2); have w4x := HC.out _ k4; have u0 := (hBcell k4 CP.out.lt).trans y0; have u1 := (hBcell k4 CP.out.lt).trans y1; have u2 := (hBcell k4 CP.out.lt).trans y2))
        all_goals
          have C4 := Lib.hid (CP.out.later k4)
          have LW := V1.out.size
          have FIN := Lib.hid (C4.out.stored HI.out.fine s4 (FileM.valid_syn _) HK.out (V3.out.more k4 CP.out.held.baseW) (Nat.le_trans V1.out.size LG.out) (Nat.le_trans R1.out.baseW LG.out))
          change Exit.then _ _ _ _ (set3 w4 g k _ _ _)
          have HS' := Lib.hid (show { ticked s with files := (ticked s).files.set k (FileM.syn (DiskM.file s nm)) } = s' by rw [HX.out]; unfold DiskM.setF; rw [EK.out]; rfl)
          rw [HS'.out] at FIN
          generalize set3 w4 g k _ _ _ = w5 at *
          clear s4 k4 z0 z1 z2
          go_wp2_with fail
          go_ret
          exact ⟨rfl, FIN.out.1, FIN.out.2⟩
      · have HX := Lib.hid (EN.out ht)
        have a1 : (er == 0) = false := by simpa using ht
        have a2 : decide (er = 0) = false := by simpa using ht
        have R1 := Lib.hid hR
        clear hR ht
        go_wp2_with fail
        go_ret
        exact ⟨rfl, by rw [HX.out]; exact R1.out, V1.out⟩
end Go.Proofs.YtaklilhnikmmfaaGreat
