/-
  The walk of Reboot.
-/
import Derived.Test.YtaklilhnikmmfaaGreatDiskBoot
namespace Go.Proofs.YtaklilhnikmmfaaGreat
open Go.RowKit StrM BlockM FileM DirM DiskM Go.Maps

/-- How far Reboot has come behind j nodes. -/
def BootRel (N p i : Nat) (s : S) (l : List E) (rr : Raw) (w w3 : World) (bs : List Bool) (L : List Nat) (s1 s30 : Value) (wr : World) : Prop :=
  ∃ (j : Nat) (fs : List Fl) (bl : List Bool) (A : Option Addr) (c kj : Nat) (gj : Int → Option Value), j ≤ L.length ∧ s30 = .int .i64 (j : Int) ∧ s1 = .slice A bl.length c ∧ bl.length ≤ c ∧ bl.length ≤ 1000 ∧ (∀ W, Below N w W → SeesV W (.slice A bl.length c) (bools bl)) ∧
    fs.length = s.files.length ∧ (∀ f ∈ fs, FileM.valid f = true) ∧ (∀ f ∈ fs, f.pend.length ≤ 300 * i) ∧ rb (L.drop j) fs bl = rb L (mask l s.files) bs ∧
    Held wr N p i { { s with dir := ⟨l, l, []⟩ } with files := fs } rr kj gj ∧ kj ≤ 100 + j ∧ Veer true N p w3 wr
theorem min_run (a b : Nat) (W : World) : (Builtin.min_ #[3, 3] 3 #[.int .i64 (a : Int), .int .i64 (b : Int)]).run Tryz.prog W = .ok (.int .i64 ((min a b : Nat) : Int)) W := by
  rw [run_min_int2]
  congr 2
  split <;> omega
theorem drop_min (bl : List Bool) (k : Nat) : bl.drop (min k bl.length) = bl.drop k := by
  rcases Nat.le_total k bl.length with h | h
  · rw [Nat.min_eq_left h]
  · rw [Nat.min_eq_right h, List.drop_length, List.drop_eq_nil_of_le h]

set_option maxHeartbeats 8000000 in
set_option maxRecDepth 100000 in
theorem reboot_any (N p i : Nat) (s : S) (q : Int) (bs : List Bool) (Ab : Option Addr) (nb cb : Nat) (w : World) (h : CD N p i s w) (hI : Inv i s) (hi : i ≤ 100)
    (hb : ∀ W, Below N w W → SeesV W (.slice Ab nb cb) (bools bs)) (hnb : bs.length = nb) (hcb : nb ≤ cb) (hmax : nb ≤ 1000) :
    Calls Tryz.prog 22 #[.pointer (some ⟨p, 0, none⟩), .slice Ab nb cb, .int .i64 q] w fun e w' => e = .returned (.tuple #[]) ∧ CD N p i (reboot s bs q) w' ∧ Veer true N p w w' := by
  obtain ⟨r, k, g, H⟩ := h
  have VL := Lib.hid (valid_live p r w H.box)
  have ec := cr_now hI.dirs q
  have hal := cr_alive hI.dirs q
  have hfw : (crL s.dir q).length ≤ 100 := (DirM.valid_pre hI.dirs _).2.few
  obtain ⟨l, hl⟩ : ∃ l, l = crL s.dir q := ⟨_, rfl⟩
  rw [← hl] at ec hal hfw
  have ER := Lib.hid (show reboot s bs q = { s with dir := ⟨l, l, []⟩, files := rb (idx l 0 s.files.length) (mask l s.files) bs, trip := 0, stop := 0, down := false } by unfold reboot; rw [ec])
  obtain ⟨g1, g2⟩ := H.nodes hI hi hal
  have hnl : ∀ e ∈ l, 1 ≤ e.node ∧ e.node ≤ (s.files.length : Int) := fun e he => hI.nodes _ (hal e he)
  have CR := Lib.hid (show Calls Tryz.prog 43 _ w (DPost ⟨l, l, []⟩ w) by
    have := dcrash_any (.agg #[r.N, r.S, r.V]) s.dir q w H.dir (by have := hI.pend; omega)
    rwa [ec] at this)
  have SE := Lib.hid (fun W v (hB : Below w.heap.size w W) (hs : SeesD W v ⟨l, l, []⟩) => settle_dir N p k r g v ⟨l, l, []⟩ s.dir W (H.later hB).box (H.later hB).dir (H.later hB).map H.baseP H.ne hs hfw g1 g2)
  have S1 := Lib.hid (show ∀ (W w' : World) (m2 : Nat) (A B C : Value), Below w.heap.size w W → N ≤ m2 → KBox w' p { r with N := A, S := B, V := C, m := m2 } → SeesD w' (.agg #[A, B, C]) ⟨l, l, []⟩ → MapAt w' m2 l.length (sub g l) → Veer true N p W w' →
      Held w' N p i { { s with dir := ⟨l, l, []⟩ } with files := mask l s.files } { r with N := A, S := B, V := C, m := m2 } l.length (sub g l) ∧ Veer true N p w w' from fun W w' m2 A B C hB h1 h2 h3 h4 h5 =>
    ⟨((H.later hB).settled hI h1 (Nat.le_refl i) h2 h3 h4 h5 hfw hal (s' := { s with dir := ⟨l, l, []⟩ }) rfl rfl H.room rfl H.ops H.trip H.stop H.down).masked, (Veer.of_below hB H.baseW).trans h5⟩)
  have HP := Lib.hid H.box.lt
  have HN := Lib.hid H.baseW
  obtain ⟨⟨A0, n0, c0, f0⟩, ⟨A1, n1, c1, f1⟩, ⟨A2, n2, c2, f2⟩⟩ := H.dir.form
  obtain ⟨-, x1, x2, x3, -⟩ := H.box.cells
  rw [f0, f1, f2] at CR
  rw [f0] at x1
  rw [f1] at x2
  rw [f2] at x3
  have HI := Lib.hid hI
  have HBB := Lib.hid hb
  have NL := Lib.hid hnl
  have G1 := Lib.hid g1
  have FW := Lib.hid hfw
  unfold DPost at CR
  clear H hI ec hal hfw hl g1 g2 hb hnl f0 f1 f2
  go_enter Tryz.func22, Tryz.ntmps22
  go_wp2_with fail
  refine VL.out.mono ?_
  rintro e w' ⟨rfl, rfl⟩
  clear VL
  go_wp2_with fail
  refine CR.out.mono ?_
  rintro e w1 ⟨v1, rfl, s1, hb1⟩
  have B1 := Lib.hid hb1
  have D1 := Lib.hid s1
  clear hb1 s1 CR x1 x2 x3
  go_wp2_with fail
  refine (SE.out _ _ B1.out D1.out).mono ?_
  rintro e w2 ⟨rfl, m2, A, B, C, y1, y2, y3, y4, y5⟩
  obtain ⟨h2, v2⟩ := S1.out _ _ _ _ _ _ B1.out y1 y2 y3 y4 y5
  have H2 := Lib.hid h2
  have V2 := Lib.hid v2
  clear SE S1 h2 v2 y1 y2 y3 y4 y5 D1 B1
  obtain ⟨-, -, -, -, c4, -⟩ := H2.out.box.cells
  dsimp only at c4
  go_wp2_with fail
  obtain ⟨D0, hown, hsz, hperm⟩ := H2.out.map.keys (nodesOf l s.files.length) (nodes_nodup _ _) (nodes_sorted _ _) (fun m => by
    rw [nodes_mem NL.out]
    constructor
    · rintro ⟨e, he, rfl⟩
      rw [sub_of ⟨e, he, rfl⟩, Option.isSome_iff_exists]
      exact G1.out e he
    · intro hx
      obtain ⟨v, hv⟩ := Option.isSome_iff_exists.1 hx
      exact (sub_some hv).2)
  dsimp only at hown
  have SO := Lib.hid (sorted_any m2 l.length D0 RV w2 hown (by have := FW.out; omega))
  have PE := Lib.hid hperm
  clear hown hsz hperm c4
  refine (keys_any m2 w2).mono ?_
  rintro e w3 ⟨rfl, rfl⟩
  go_wp2_with fail
  refine SO.out.mono ?_
  rintro e w3 ⟨v3, ss, rfl, hS, hO, hb3⟩
  obtain ⟨nn, hnn⟩ : ∃ nn, nn = ss.length := ⟨_, rfl⟩
  have EL := Lib.hid (show nn = (nodesOf l s.files.length).length by rw [hnn, ← PE.out ss hS, List.length_mergeSort])
  rw [PE.out ss hS, ← hnn] at hO
  have O3 := Lib.hid hO
  have H3 := Lib.hid (H2.out.later hb3)
  have V3 := Lib.hid (V2.out.more hb3 H2.out.baseW)
  have LP := Lib.hid (show p < w2.heap.size from H2.out.box.lt)
  obtain ⟨Av, cv, rfl, -⟩ := own_slice O3.out
  clear SO PE hS hO hb3 hnn H2 V2
  go_wp2_with fail
  have NN := Lib.hid (show nn = (idx l 0 s.files.length).length by rw [EL.out, nodes_len])
  have NX := Lib.hid (show ∀ j (hj : j < (idx l 0 s.files.length).length) W, Veer true N p w3 W → ∃ g off, Av = some ⟨g, off, none⟩ ∧ g < W.heap.size ∧ W.cell? ⟨g, off + j, none⟩ = some (.int .i64 (((idx l 0 s.files.length)[j] : Nat) + 1 : Int)) from fun j hj W hv => by
    obtain ⟨a, cap, e, h⟩ := own_veer O3.out LP.out hv
    injection e with e1 e2 e3
    subst e1
    rcases h with h | ⟨g, off, rfl, hg, hc⟩
    · have := congrArg List.length h
      rw [List.length_map, nodes_len, List.length_nil] at this
      omega
    · refine ⟨g, off, rfl, hg, ?_⟩
      have := hc j (by rw [List.length_map, nodes_len]; exact hj)
      rw [this]
      simp [nodesOf, encZ])
  have L100 := Lib.hid (show (idx l 0 s.files.length).length ≤ 100 from Nat.le_trans (idx_len _ _ _) (by have := HI.out.few; omega))
  have IX := Lib.hid (show ∀ j (hj : j < (idx l 0 s.files.length).length), (idx l 0 s.files.length)[j] < s.files.length ∧ ∃ e ∈ l, e.node = (((idx l 0 s.files.length)[j] : Nat) : Int) + 1 from fun j hj => by
    have := idx_mem.1 (List.getElem_mem hj)
    exact ⟨this.2.1, named_iff.1 this.2.2⟩)
  have nle : nn ≤ 100 := by rw [NN.out]; exact L100.out
  have R0 := Lib.hid (show BootRel N p i s l _ w w3 bs (idx l 0 s.files.length) (.slice Ab nb cb) (.int .i64 0) w3 from
    ⟨0, mask l s.files, bs, Ab, cb, _, _, Nat.zero_le _, rfl, by rw [hnb], by omega, by omega, by rw [hnb]; exact HBB.out, mask_len _ _, mask_all FileM.valid_zf HI.out.fine, mask_all (Q := fun f => f.pend.length ≤ 300 * i) (Nat.zero_le _) HI.out.bits, rfl, H3.out, by have := FW.out; omega, Veer.refl _ _ _ _⟩)
  clear H3 EL O3
  go_loopw [1, 30] (fun s1 s30 wr => BootRel N p i s l { r with N := A, S := B, V := C, m := m2 } w w3 bs (idx l 0 s.files.length) s1 s30 wr) (fun _ s30 _ => nn - (intOf s30).toNat)
  case atStart => exact R0.out
  case round =>
    obtain ⟨j, fs, bl, A', c', kj, gj, hj, rfl, rfl, hc', hbl, hsee, hfl, hval, hpen, hrb, hH, hkj, hV⟩ := hrel
    have HS := Lib.hid hsee
    have FL := Lib.hid hfl
    have VA := Lib.hid hval
    have PN := Lib.hid hpen
    have RB := Lib.hid hrb
    have HJ := Lib.hid hH
    have VJ := Lib.hid hV
    clear hsee hfl hval hpen hrb hH hV R0
    by_cases hlt : j < nn
    · have hjl : j < (idx l 0 s.files.length).length := by rw [← NN.out]; exact hlt
      obtain ⟨gb, off, rfl, hgb, hcell⟩ := NX.out j hjl wr VJ.out
      obtain ⟨hlt0, hnm⟩ := IX.out j hjl
      have RN := Lib.hid (rb_next fs bl hjl)
      generalize (idx l 0 s.files.length)[j] = i0 at *
      have i0b : i0 ≤ 100 := by have := HI.out.few; omega
      obtain ⟨v, hv⟩ := Option.isSome_iff_exists.1 (HJ.out.some ((i0 : Int) + 1) (same_alive.2 hnm))
      obtain ⟨-, -, hGv⟩ := HJ.out.file _ _ hv
      have hGv : SeesG wr v (fl fs ((i0 : Int) + 1)) := hGv
      rw [fl_succ] at hGv
      have FV := Lib.hid (getD_all FileM.valid_zf VA.out i0)
      have FP := Lib.hid (getD_all (Q := fun f => f.pend.length ≤ 300 * i) (Nat.zero_le _) PN.out i0)
      obtain ⟨f, hf⟩ : ∃ f, f = fs.getD i0 zf := ⟨_, rfl⟩
      rw [← hf] at hGv FV FP RN
      obtain ⟨a0, d0, a1, d1, a2, d2, rfl, -⟩ := hGv.1.slices
      have BW := Lib.hid (V3.out.trans VJ.out)
      have SZ : Sz f := ⟨by have := FileM.valid_now FV.out; omega, by have := FileM.valid_sure FV.out; omega, by have := FP.out; omega, fun x hx => by have := (FileM.valid_pend FV.out x hx).1; omega⟩
      have CF := Lib.hid (fcrash_any _ (.slice A' bl.length c') f bl wr hGv.1 SZ (HS.out _ BW.out.below))
      have LK := HJ.out.map.look ((i0 : Int) + 1) (by omega) (by omega) wr rfl
      rw [hv] at LK
      dsimp only [Option.getD] at LK
      obtain ⟨-, -, -, -, x4, -⟩ := HJ.out.box.cells
      dsimp only at x4
      have CV := Lib.hid (crF_valid f bl)
      have CP := Lib.hid (crF_pend f bl)
      have NB := Lib.hid (show crN f ≤ 30000 by
        have := FP.out
        unfold crN
        split <;> omega)
      unfold NPost at CF
      generalize f.now.length = m0 at *
      generalize f.sure.length = m1 at *
      generalize f.pend.length = m2' at *
      generalize crN f = cn at *
      generalize crF f bl = cf at *
      have HJ' := Lib.hid HJ.out
      clear hGv hv hf SZ HJ FP FV
      go_wp2_with fail
      refine CF.out.mono ?_
      rintro e w4 ⟨v4, rfl, s4, hb4⟩
      obtain ⟨e0, g0, e1, g1, e2, g2, rfl, -⟩ := s4.slices
      generalize cf.now.length = k0 at *
      generalize cf.sure.length = k1 at *
      generalize cf.pend.length = k2 at *
      have BA := Lib.hid (below_made w4 (.cells #[.slice e0 k0 g0, .slice e1 k1 g1, .slice e2 k2 g2] 70))
      have X5 := Lib.hid (FBox.made w4 (.slice e0 k0 g0) (.slice e1 k1 g1) (.slice e2 k2 g2))
      have B5 := Lib.hid (hb4.trans (BA.out.mono hb4.size))
      have G5 := Lib.hid (SeesG.of_nil (s4.later BA.out) CP.out)
      have H5 := Lib.hid (HJ'.out.later B5.out)
      clear s4 hb4 CF LK x4 HJ' BA
      go_wp2_with fail
      generalize w4.heap.size = t at *
      generalize w4.alloc (.cells #[.slice e0 k0 g0, .slice e1 k1 g1, .slice e2 k2 g2] 70) = w5 at *
      obtain ⟨-, -, -, -, x4, -⟩ := H5.out.box.cells
      dsimp only at x4
      obtain ⟨y0, y1, y2⟩ := X5.out.cells
      go_still_tail 6, (by kernel_rfl)
      change wpList _ _ _ _ _ w5.drew
      have H5d := Lib.hid (H5.out.later (below_drew w5 (Nat.le_refl _)))
      obtain ⟨w6, hrun, hM6, hG6⟩ := H5d.out.map.store ((i0 : Int) + 1) (.agg #[.slice e0 k0 g0, .slice e1 k1 g1, .slice e2 k2 g2]) (by omega) (by omega) (by omega)
      obtain ⟨h6, v6⟩ := H5d.out.stored VA.out (n := (i0 : Int) + 1) (by omega) (by show (i0 : Int) + 1 ≤ (fs.length : Int); rw [FL.out]; omega) CV.out (G5.out.later (below_drew w5 (Nat.le_refl _))) hG6 hM6 (by have := L100.out; omega)
      have e7 : ((i0 : Int) + 1).toNat - 1 = i0 := by omega
      rw [e7] at h6
      have H6 := Lib.hid h6
      have V6 := Lib.hid (((VJ.out.more B5.out (Nat.le_trans HN.out (Nat.le_trans V3.out.size VJ.out.size))).drew).trans v6)
      have MIN := min_run cn bl.length
      have DM := Lib.hid (drop_min bl cn)
      have mnl : min cn bl.length ≤ bl.length := Nat.min_le_right _ _
      have mn0 : min cn bl.length ≤ 30000 := by have := NB.out; omega
      generalize min cn bl.length = mn at *
      have CUT := cut_bits_run A' bl.length c' mn mnl
      have DL := Lib.hid (show (bl.drop cn).length = bl.length - mn by rw [← DM.out, List.length_drop])
      have HS6 := Lib.hid (show ∀ W, Below N w W → SeesV W (.slice (cutA A' c' mn) (bl.length - mn) (c' - mn)) (bools (bl.drop cn)) from fun W hB => by
        rw [← DM.out]; exact cut_bits (HS.out W hB) rfl hc' mnl)
      have RB6 := Lib.hid (show rb ((idx l 0 s.files.length).drop (j + 1)) (fs.set i0 cf) (bl.drop cn) = rb (idx l 0 s.files.length) (mask l s.files) bs by rw [← RN.out]; exact RB.out)
      have FL6 := Lib.hid (show (fs.set i0 cf).length = s.files.length by rw [List.length_set]; exact FL.out)
      have VA6 := Lib.hid (show ∀ f ∈ fs.set i0 cf, FileM.valid f = true from fun f hf => by
        rcases List.mem_or_eq_of_mem_set hf with hf | rfl
        · exact VA.out f hf
        · exact CV.out)
      have PN6 := Lib.hid (show ∀ f ∈ fs.set i0 cf, f.pend.length ≤ 300 * i from fun f hf => by
        rcases List.mem_or_eq_of_mem_set hf with hf | rfl
        · exact PN.out f hf
        · rw [CP.out]; exact Nat.zero_le _)
      clear h6 v6 hM6 hG6 e7 x4 y0 y1 y2 hcell H5 H5d G5 X5 B5
      go_wp2_with fail
      go_roundw
      case rel => exact ⟨j + 1, fs.set i0 cf, bl.drop cn, cutA A' c' mn, c' - mn, kj + 1, _, by omega, by go_num, by rw [DL.out], by rw [DL.out]; omega, by rw [DL.out]; omega, by rw [DL.out]; exact HS6.out, FL6.out, VA6.out, PN6.out, RB6.out, H6.out, by omega, V6.out⟩
      case measure => simp [intOf]; omega
    · have FE := Lib.hid (show fs = rb (idx l 0 s.files.length) (mask l s.files) bs by
        have := RB.out
        rw [List.drop_eq_nil_of_le (by rw [← NN.out]; omega)] at this
        exact this)
      have VT := Lib.hid ((((Veer.refl false N p wr).set HJ.out.baseP 7 (.int .i64 0)).set HJ.out.baseP 8 (.int .i64 0)).set HJ.out.baseP 9 (.bool false))
      have KT := Lib.hid (((HJ.out.box.setTrip 0).setStop 0).setDown false)
      have CT := Lib.hid (show CD N p i (reboot s bs q) _ from ⟨_, kj, gj, HJ.out.turned VA.out VT.out KT.out rfl rfl rfl rfl rfl (by rw [ER.out]) (by rw [ER.out]; exact FE.out.symm) (by rw [ER.out]; exact HJ.out.room) (by rw [ER.out]; exact HJ.out.ops) (by rw [ER.out]) (by rw [ER.out]) (by rw [ER.out]) (Nat.le_refl i)⟩)
      have VF := Lib.hid ((V3.out.trans VJ.out).trans VT.out.weak)
      obtain ⟨-, -, -, -, -, -, -, c7, c8, c9⟩ := HJ.out.box.cells
      dsimp only at c7 c8 c9
      have f7 := HJ.out.box.soft 7
      have f8 := HJ.out.box.soft 8
      have f9 := HJ.out.box.soft 9
      clear FE
      go_wp2_with fail
      exact bodyPost_end (results_none rfl _ _ _) rfl ⟨rfl, CT.out, VF.out⟩
end Go.Proofs.YtaklilhnikmmfaaGreat
