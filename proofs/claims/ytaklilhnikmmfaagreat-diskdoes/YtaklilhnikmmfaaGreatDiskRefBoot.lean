/-
  The walk of the reference's Reboot.
-/
import Derived.Test.YtaklilhnikmmfaaGreatDiskRefFsync
import Derived.Test.YtaklilhnikmmfaaGreatDiskRefRow
import Derived.Test.YtaklilhnikmmfaaGreatDiskRefMath
namespace Go.Proofs.YtaklilhnikmmfaaGreat
open Go.RowKit StrM BlockM FileM DirM DiskM

theorem own_veerB {mp : Bool} {N p base sz n : Nat} {e : TypeId} {w w' : World} {v : Value} {xs : List Value} (h : w.ownsRow base e sz v n xs) (ht : Veer mp N p w w') (hne : v.ownBlock ≠ some p) : w'.ownsRow base e sz v n xs := by
  refine ⟨h.1, ?_⟩
  rcases h.2 with h0 | ⟨g, cap, cur, hv, hb, hg, h1⟩
  · exact .inl h0
  · refine .inr ⟨g, cap, cur, hv, hb, ht.keep g _ hg ?_ (fun _ es c hx => by cases hx), h1⟩
    rintro rfl
    rw [hv] at hne
    exact hne rfl
theorem FsHas.snoc {w : World} {us : List U3} {fs : List Fl} {A B C : Value} {f : Fl} (hh : FsHas w us fs) (hf : SeesF w (.agg #[A, B, C]) f) : FsHas w (us ++ [(A, B, C)]) (fs ++ [f]) := by
  refine ⟨by simp [hh.len], fun k h1 h2 => ?_⟩
  by_cases hk : k < fs.length
  · have hu : k < us.length := by rw [hh.len]; exact hk
    have := hh.file k hu hk
    simpa [List.getElem_append_left hu, List.getElem_append_left hk] using this
  · have e1 : k = fs.length := by simp at h2; omega
    subst e1
    have e2 : fs.length = us.length := hh.len.symm
    simp only [List.getElem_concat_length]
    rw [List.getElem_append_right (by omega)]
    simp only [e2, Nat.sub_self, List.getElem_singleton]
    exact hf

theorem own_fset {w : World} {base sz n p : Nat} {e : TypeId} {v : Value} {xs : List Value} (h : w.ownsRow base e sz v n xs) (hp : p < w.heap.size → v.ownBlock ≠ some p) (hlt : p < w.heap.size) (A B C : Value) : (fset w p A B C).ownsRow base e sz v n xs :=
  own_veerB h (show Veer false 0 p w (fset w p A B C) from (((Veer.refl false 0 p w).set (Nat.zero_le _) 0 A).set (Nat.zero_le _) 1 B).set (Nat.zero_le _) 2 C) (hp hlt)
theorem FsHas.fset {w : World} {us : List U3} {fs : List Fl} {q : Nat} {A0 A1 A2 : Option Addr} {n0 n1 n2 c0 c1 c2 : Nat} (h : FsHas w us fs) (hq : FBox w q (.slice A0 n0 c0) (.slice A1 n1 c1) (.slice A2 n2 c2)) (N S V : Value) : FsHas (fset w q N S V) us fs :=
  ⟨h.len, fun k h1 h2 => (h.file k h1 h2).fset hq N S V⟩
theorem valid_snoc {fs : List Fl} {f : Fl} (h : ∀ x ∈ fs, FileM.valid x = true) (hf : FileM.valid f = true) : ∀ x ∈ fs ++ [f], FileM.valid x = true := by
  intro x hx
  rcases List.mem_append.1 hx with hx | hx
  · exact h x hx
  · rw [List.mem_singleton] at hx; subst hx; exact hf

/-- How far the reference's Reboot has come behind k files. -/
def RootRel (b : Nat) (l : List E) (fs : List Fl) (bs : List Bool) (w2 : World) (s3 s4 s5 : Value) (wr : World) : Prop :=
  ∃ (k used : Nat) (pre : List Fl) (us : List U3), k ≤ fs.length ∧ s5 = .int .i64 (k : Int) ∧ s4 = .int .i64 (used : Int) ∧ Far l fs bs k used pre ∧ (∀ f ∈ pre, FileM.valid f = true) ∧ FsHas wr us pre ∧ wr.ownsRow b 70 3 s3 k (u3s us) ∧ (∀ g, s3.ownBlock = some g → AllSl wr g) ∧ Below b w2 wr

set_option maxHeartbeats 8000000 in
set_option maxRecDepth 100000 in
theorem rreboot_any (N q i : Nat) (s : S) (n : Int) (bs : List Bool) (Ab : Option Addr) (nb cb : Nat) (w : World) (h : RD N q s w) (hI : Inv i s) (hi : i ≤ 100)
    (hb : ∀ W, Below N w W → SeesV W (.slice Ab nb cb) (bools bs)) (hnb : bs.length = nb) (hcb : nb ≤ cb) (hmax : nb ≤ 1000) :
    Calls Tryz.prog 36 #[.pointer (some ⟨q, 0, none⟩), .slice Ab nb cb, .int .i64 n] w fun e w' => e = .returned (.tuple #[]) ∧ RD N q (reboot s bs n) w' ∧ Veer false N q w w' := by
  obtain ⟨r, H⟩ := h
  have ec := cr_now hI.dirs n
  have hal := cr_alive hI.dirs n
  have hfw : (crL s.dir n).length ≤ 100 := (DirM.valid_pre hI.dirs _).2.few
  obtain ⟨l, hl⟩ : ∃ l, l = crL s.dir n := ⟨_, rfl⟩
  rw [← hl] at ec hal hfw
  have ER := Lib.hid (show reboot s bs n = { s with dir := ⟨l, l, []⟩, files := rb (idx l 0 s.files.length) (mask l s.files) bs, trip := 0, stop := 0, down := false } by unfold reboot; rw [ec])
  have CR := Lib.hid (show Calls Tryz.prog 66 _ w (DPost ⟨l, l, []⟩ w) by
    have := rdcrash_any (.agg #[r.N, r.S, r.V]) s.dir n w H.dir (dsz_of hI hi)
    rwa [ec] at this)
  have HI := Lib.hid hI
  have HBB := Lib.hid hb
  have FW := Lib.hid hfw
  have SD := Lib.hid (fun W A B C (hB : Below w.heap.size w W) (hd : SeesD W (.agg #[A, B, C]) ⟨l, l, []⟩) => (H.later hB).setDir hI.fine hd (Veer.of_below hB H.baseW))
  have HH := Lib.hid (fun W (hB : Below w.heap.size w W) => (H.later hB).box)
  obtain ⟨A0, n0, c0, A1, n1, c1, A2, n2, c2, f0, f1, f2, -⟩ := H.entries
  obtain ⟨-, x1, x2, x3, -⟩ := H.box.cells
  rw [f0, f1, f2] at CR
  rw [f0] at x1
  rw [f1] at x2
  rw [f2] at x3
  unfold DPost at CR
  clear H hI ec hal hfw hl f0 f1 f2 hb
  go_enter Tryz.func36, Tryz.ntmps36
  go_wp2_with fail
  refine CR.out.mono ?_
  rintro e w1 ⟨v1, rfl, s1, hb1⟩
  obtain ⟨B0, d0, B1, d1, B2, d2, rfl, -, -, -⟩ := s1.slices
  have R2 := Lib.hid (SD.out _ _ _ _ hb1 s1)
  obtain ⟨-, x1, x2, x3, -⟩ := (HH.out _ hb1).cells
  have f1 := (HH.out _ hb1).soft 1
  have f2 := (HH.out _ hb1).soft 2
  have f3 := (HH.out _ hb1).soft 3
  dsimp only at R2 s1
  obtain ⟨m0, hm0⟩ : ∃ m, m = l.length := ⟨_, rfl⟩
  rw [← hm0] at R2 ⊢
  clear CR SD HH s1 hm0
  go_wp2_with fail
  obtain ⟨w2, hw2⟩ : ∃ W, W = (((w1.setCell ⟨q, 1, none⟩ (.slice B0 m0 d0)).setCell ⟨q, 2, none⟩ (.slice B1 m0 d1)).setCell ⟨q, 3, none⟩ (.slice B2 0 d2)) := ⟨_, rfl⟩
  obtain ⟨b, hbz⟩ : ∃ b, b = w1.heap.size := ⟨_, rfl⟩
  have HSZ := Lib.hid (show w2.heap.size = b by rw [hw2, hbz]; simp)
  have R2' := Lib.hid (show RD N q { s with dir := ⟨l, l, []⟩ } w2 ∧ Veer false N q w w2 by rw [hw2]; exact R2.out)
  rw [← hw2, ← hbz]
  clear R2 hw2 hbz x1 x2 x3 f1 f2 f3
  have ST := Lib.hid (show RootRel b l s.files bs w2 (.slice (some ⟨b, 0, none⟩) 0 0) (.int .i64 0) (.int .i64 0) (w2.alloc (.cells #[] 70)) by
    have h1 := own_madeN w2 70 3
    have h2 := below_made w2 (.cells #[] 70)
    have h3 : AllSl (w2.alloc (.cells #[] 70)) b := by
      rw [← HSZ.out]
      exact AllSl.of_block (heap_alloc_new w2 _) (by simp)
    rw [HSZ.out] at h1 h2
    exact ⟨0, 0, [], [], Nat.zero_le _, rfl, rfl, Far.start _ _ _, by simp, ⟨rfl, fun k h => by simp at h⟩, h1, fun g hg => by simp only [Value.ownBlock, Option.some.injEq] at hg; subst hg; exact h3, h2⟩)
  obtain ⟨nf, hnf⟩ : ∃ nf, nf = s.files.length := ⟨_, rfl⟩
  have NF := Lib.hid hnf
  have nf100 : nf ≤ 100 := by rw [hnf]; have := HI.out.few; omega
  obtain ⟨r2, H2⟩ := R2'.out.1
  have RH2 := Lib.hid (fun W (hB : Below b w2 W) => H2.later (by rw [HSZ.out]; exact hB))
  have V2 := Lib.hid R2'.out.2
  obtain ⟨E0, k0, g0, E1, k1, g1, E2, k2, g2, f0, f1, f2, en, -⟩ := H2.entries
  obtain ⟨Af, cf, ff, -⟩ := H2.files.form
  have F0 := Lib.hid f0
  have F4 := Lib.hid (show r2.F = .slice Af nf cf by rw [hnf]; exact ff)
  have EN := Lib.hid (show k0 = l.length from en)
  have k0b : k0 ≤ 100 := by have := FW.out; rw [EN.out]; exact this
  have SE := Lib.hid (show ∀ W, Below b w2 W → SeesE W (.slice E0 k0 g0) l from fun W hB => by
    have := (RH2.out W hB).dir
    rw [f0] at this
    obtain ⟨_, _, _, e, h1, -⟩ := this
    injection e with e
    injection e with e
    injection e with e _
    rw [e]; exact h1)
  have bb := Lib.hid (show N ≤ b by rw [← HSZ.out]; exact H2.baseW)
  clear R2' H2 f0 f1 f2 ff en hnf
  go_loopw [6, 7, 8] (fun s6 s7 s8 wr => RootRel b l s.files bs w2 s6 s7 s8 wr) (fun _ _ s8 _ => nf - (intOf s8).toNat)
  case atStart => exact ST.out
  case round =>
    obtain ⟨k, used, pre, us, hk, rfl, rfl, hfar, hval, hhas, hown, hsl, hB⟩ := hrel
    obtain ⟨A6, c6, rfl, -⟩ := (SeesN.of_own hown).form
    have FAR := Lib.hid hfar
    have VAL := Lib.hid hval
    have HAS := Lib.hid hhas
    have OWN := Lib.hid hown
    have SL := Lib.hid hsl
    have HB := Lib.hid hB
    have RHr := Lib.hid (RH2.out _ hB)
    obtain ⟨-, x1, -, -, x4, -⟩ := RHr.out.box.cells
    rw [F0.out] at x1
    rw [F4.out] at x4
    clear hfar hval hhas hown hsl hB ST
    by_cases hlt : k < nf
    · have hkl : k < s.files.length := by rw [← NF.out]; exact hlt
      have hlt' : (k : Int) < (nf : Int) := by omega
      have hk100 : k ≤ 100 := by omega
      go_wp2_with fail
      obtain ⟨wa, rfl⟩ : ∃ wa, wa = wr := ⟨_, rfl⟩
      go_loopw [9, 10] (fun s9 s10 wq => ∃ j : Nat, j ≤ k0 ∧ s10 = .int .i64 (j : Int) ∧ s9 = .bool (namedTo l k j) ∧ wa = wq) (fun _ s10 _ => k0 - (intOf s10).toNat)
      case atStart => exact ⟨0, Nat.zero_le _, rfl, by rw [namedTo_zero], rfl⟩
      case round =>
        obtain ⟨j, hj, rfl, rfl, rfl⟩ := hrel
        by_cases hjl : j < k0
        · have hjll : j < l.length := by rw [← EN.out]; exact hjl
          have hjl' : (j : Int) < (k0 : Int) := by omega
          obtain ⟨gb, off, rfl, hg, hc1, hc2⟩ := (SE.out _ HB.out).cells hjll
          have NX := Lib.hid (namedTo_next (k := k) hjll)
          generalize l[j].node = nd at *
          generalize l[j].name = nm at *
          cases hn : namedTo l k j
          case' true =>
            have HR := Lib.hid (show true = namedTo l k (j + 1) by rw [NX.out, hn]; rfl)
            clear hc1 NX hn
            go_wp2_with fail
            go_roundw
            case rel => exact ⟨j + 1, by omega, by go_num, by rw [← HR.out], trivial⟩
            case measure => simp [intOf]; omega
          case' false =>
            by_cases he : nd = (k : Int) + 1
            · have HR := Lib.hid (show true = namedTo l k (j + 1) by rw [NX.out, hn, he]; simp)
              clear hc1 NX hn
              subst he
              go_wp2_with fail
              go_roundw
              case rel => exact ⟨j + 1, by omega, by go_num, by rw [← HR.out], trivial⟩
              case measure => simp [intOf]; omega
            · have HR := Lib.hid (show false = namedTo l k (j + 1) by rw [NX.out, hn]; simp [he])
              have he1 : (nd == (k : Int) + 1) = false := by simpa using he
              have he2 : decide (nd = (k : Int) + 1) = false := by simpa using he
              clear hc1 NX hn
              go_wp2_with fail
              go_roundw
              case rel => exact ⟨j + 1, by omega, by go_num, by rw [← HR.out], trivial⟩
              case measure => simp [intOf]; omega
        · have HNM := Lib.hid (namedTo_all (l := l) (k := k) (i := j) (by rw [← EN.out]; omega))
          obtain ⟨g, P0, n0', d0', P1, n1', d1', P2, n2', d2', rfl, hgs, y0, y1, y2, -, -, -, hS⟩ : ∃ g P0 n0' d0' P1 n1' d1' P2 n2' d2', Af = some ⟨g, 0, none⟩ ∧ g < wa.heap.size ∧ wa.cell? ⟨g, k * 3, none⟩ = some (.slice P0 n0' d0') ∧ wa.cell? ⟨g, k * 3 + 1, none⟩ = some (.slice P1 n1' d1') ∧ wa.cell? ⟨g, k * 3 + 2, none⟩ = some (.slice P2 n2' d2') ∧
              n0' = s.files[k].now.length ∧ n1' = s.files[k].sure.length ∧ n2' = s.files[k].pend.length ∧ SeesF wa (.agg #[.slice P0 n0' d0', .slice P1 n1' d1', .slice P2 n2' d2']) s.files[k] := by
            have h := RHr.out.files
            rw [F4.out] at h
            exact h.at hkl
          have hq := RHr.out.box.lt
          have XF := Lib.hid (FBox.made wa (.slice none 0 0) (.slice none 0 0) (.slice none 0 0))
          have BF := Lib.hid (below_made wa (.cells #[.slice none 0 0, .slice none 0 0, .slice none 0 0] 70))
          have LA := Lib.hid (show b ≤ wa.heap.size by rw [← HSZ.out]; exact HB.out.size)
          have NB3 := Lib.hid (show (k + 1) * 72 ≤ 140737488355328 by omega)
          have NB4 := Lib.hid (show k + 1 ≤ maxLen by unfold maxLen; omega)
          have HU0 := Lib.hid (show ∀ c ∈ u3 (.slice none 0 0, .slice none 0 0, .slice none 0 0), ∃ a m cap, c = Value.slice a m cap from by intro c hc; simp [u3] at hc; subst hc; exact ⟨_, _, _, rfl⟩)
          have NK := Lib.hid (show k ≤ 100000 by omega)
          have SLF := Lib.hid (show ∀ g', (Value.slice A6 k c6).ownBlock = some g' → AllSl (wa.alloc (.cells #[.slice none 0 0, .slice none 0 0, .slice none 0 0] 70)) g' from fun g' e => (SL.out g' e).block (BF.out.block g' (OWN.out.lt _ e).2))
          cases hn : named l k
          case' false =>
            have OWF := Lib.hid (own_belowN OWN.out BF.out)
            have LW := Lib.hid (show b ≤ (wa.alloc (.cells #[.slice none 0 0, .slice none 0 0, .slice none 0 0] 70)).heap.size from Nat.le_trans LA.out BF.out.size)
            have HNO := Lib.hid (FAR.out.no hkl hn)
            rw [hn] at HNM
            rw [HNM.out]
            clear x4 y0 y1 y2 hS hn
            go_wp2_with (at_builtin; refine append_file1 rfl (.tmp 79) (.tmp 81) rfl b (.slice A6 k c6) k us rfl OWF.out SLF.out HAS.out.slices (.slice none 0 0, .slice none 0 0, .slice none 0 0) _ rfl (by simp [Act.eval]) HU0.out NK.out LW.out ?_)
            intro v8 w8 o8 b8 st8 sl8
            have B8 := Lib.hid ((HB.out.trans (BF.out.mono LA.out)).trans b8)
            have VS := Lib.hid (valid_snoc VAL.out FileM.valid_zf)
            have HAS8 := Lib.hid (((HAS.out.later BF.out).snoc (SeesF.zero _)).stays VS.out st8 (b8.mono (Nat.zero_le _)) SLF.out)
            go_wp2_with fail
            go_roundw
            case rel => exact ⟨k + 1, used, pre ++ [zf], us ++ [(.slice none 0 0, .slice none 0 0, .slice none 0 0)], by omega, by go_num, rfl, HNO.out, VS.out, HAS8.out, by rw [u3s_app]; exact o8, sl8, B8.out⟩
            case measure => simp [intOf]; omega
          case' true =>
            have SZ : Sz s.files[k] := by
              have h1 := HI.out.fine _ (List.getElem_mem hkl)
              have h2 := HI.out.bits _ (List.getElem_mem hkl)
              exact ⟨by have := FileM.valid_now h1; omega, by have := FileM.valid_sure h1; omega, by omega, fun x hx => by have := (FileM.valid_pend h1 x hx).1; omega⟩
            have hub : used ≤ nb := by rw [← hnb]; exact FAR.out.used
            have hbel : ∀ W, Below wa.heap.size wa W → Below N w W := fun W hB => (V2.out.below.trans (HB.out.mono bb.out)).trans (hB.mono (Nat.le_trans bb.out LA.out))
            have CF := Lib.hid (show ∀ W, Below (wa.alloc (.cells #[.slice none 0 0, .slice none 0 0, .slice none 0 0] 70)).heap.size (wa.alloc (.cells #[.slice none 0 0, .slice none 0 0, .slice none 0 0] 70)) W → Calls Tryz.prog 67 #[.agg #[.slice P0 n0' d0', .slice P1 n1' d1', .slice P2 n2' d2'], .slice (cutA Ab cb used) (nb - used) (cb - used)] W fun e W' => ∃ C0 i0 e0 C1 i1 e1 C2 i2 e2, e = .returned (.tuple #[.agg #[.slice C0 i0 e0, .slice C1 i1 e1, .slice C2 i2 e2], .int .i64 (crN s.files[k] : Int)]) ∧ SeesF W' (.agg #[.slice C0 i0 e0, .slice C1 i1 e1, .slice C2 i2 e2]) (crF s.files[k] (bs.drop used)) ∧ Below W.heap.size W W' ∧ Below (wa.alloc (.cells #[.slice none 0 0, .slice none 0 0, .slice none 0 0] 70)).heap.size (wa.alloc (.cells #[.slice none 0 0, .slice none 0 0, .slice none 0 0] 70)) W' from
              fun W hB => (rfcrash_any _ _ s.files[k] (bs.drop used) W (hS.later (BF.out.trans (hB.mono BF.out.size))) SZ (cut_bits (HBB.out W (hbel W (BF.out.trans (hB.mono BF.out.size)))) hnb hcb hub)).mono fun e W' ⟨v, he, hs, hb⟩ => by
                obtain ⟨C0, e0, C1, e1, C2, e2, rfl, -, -, -⟩ := hs.slices
                exact ⟨C0, _, e0, C1, _, e1, C2, _, e2, he, hs, hb, hB.trans (hb.mono hB.size)⟩)
            have CUT := cut_bits_run Ab nb cb used hub
            have HYES := Lib.hid (FAR.out.yes hkl hn)
            have HCV := Lib.hid (crF_valid s.files[k] (bs.drop used))
            have hcn : crN s.files[k] ≤ 30000 := by
              have h2 := HI.out.bits _ (List.getElem_mem hkl)
              unfold crN
              split <;> omega
            have LW := Lib.hid (show b ≤ (wa.alloc (.cells #[.slice none 0 0, .slice none 0 0, .slice none 0 0] 70)).heap.size from Nat.le_trans LA.out BF.out.size)
            have OWF := Lib.hid (own_belowN OWN.out BF.out)
            have HASF := Lib.hid (HAS.out.later BF.out)
            have HBF := Lib.hid (HB.out.trans (BF.out.mono LA.out))
            have HC := Lib.hid (show ∀ W, Below (wa.alloc (.cells #[.slice none 0 0, .slice none 0 0, .slice none 0 0] 70)).heap.size (wa.alloc (.cells #[.slice none 0 0, .slice none 0 0, .slice none 0 0] 70)) W → W.cell? ⟨q, 4, none⟩ = some (.slice (some ⟨g, 0, none⟩) nf cf) ∧ W.cell? ⟨g, k * 3, none⟩ = some (.slice P0 n0' d0') ∧ W.cell? ⟨g, k * 3 + 1, none⟩ = some (.slice P1 n1' d1') ∧ W.cell? ⟨g, k * 3 + 2, none⟩ = some (.slice P2 n2' d2') from
              fun W hB => by
                have hB' := BF.out.trans (hB.mono BF.out.size)
                exact ⟨(hBcell hB' hq).trans x4, (hBcell hB' hgs).trans y0, (hBcell hB' hgs).trans y1, (hBcell hB' hgs).trans y2⟩)
            have HFX := Lib.hid (show ∀ W A B C, Below (wa.alloc (.cells #[.slice none 0 0, .slice none 0 0, .slice none 0 0] 70)).heap.size (wa.alloc (.cells #[.slice none 0 0, .slice none 0 0, .slice none 0 0] 70)) W → (fset W wa.heap.size A B C).cell? ⟨q, 4, none⟩ = some (.slice (some ⟨g, 0, none⟩) nf cf) ∧ (fset W wa.heap.size A B C).cell? ⟨g, k * 3, none⟩ = some (.slice P0 n0' d0') ∧ (fset W wa.heap.size A B C).cell? ⟨g, k * 3 + 1, none⟩ = some (.slice P1 n1' d1') ∧ (fset W wa.heap.size A B C).cell? ⟨g, k * 3 + 2, none⟩ = some (.slice P2 n2' d2') from
              fun W A B C hB => by
                have hne1 : q ≠ wa.heap.size := by omega
                have hne2 : g ≠ wa.heap.size := by omega
                obtain ⟨e1, e2, e3, e4⟩ := HC.out W hB
                have o1 := fset_other (w := W) hne1 A B C
                have o2 := fset_other (w := W) hne2 A B C
                exact ⟨(World.cell?_of_block (a := ⟨q, 4, none⟩) o1).trans e1, (World.cell?_of_block (a := ⟨g, k * 3, none⟩) o2).trans e2, (World.cell?_of_block (a := ⟨g, k * 3 + 1, none⟩) o2).trans e3, (World.cell?_of_block (a := ⟨g, k * 3 + 2, none⟩) o2).trans e4⟩)
            rw [hn] at HNM
            rw [HNM.out]
            have OB := Lib.hid (show ∀ g', (Value.slice A6 k c6).ownBlock = some g' → g' < wa.heap.size from fun g' e => (OWN.out.lt _ e).2)
            generalize crN s.files[k] = cn at *
            generalize crF s.files[k] (bs.drop used) = cfl at *
            clear hS hn SZ hbel y0 y1 y2 x4
            go_wp2_with fail
            have XFs := XF.out.soft
            generalize wa.alloc (.cells #[.slice none 0 0, .slice none 0 0, .slice none 0 0] 70) = wf at *
            have FL := Lib.hid (show ∀ g', (Value.slice A6 k c6).ownBlock = some g' → g' ≠ wa.heap.size from fun g' e => by have := OB.out g' e; omega)
            have fbb : b ≤ wa.heap.size := LA.out
            clear OB RHr
            generalize wa.heap.size = fb at *
            have KD : Below wf.heap.size wf wf.drew := below_drew _ (Nat.le_refl _)
            obtain ⟨x4, y0, y1, y2⟩ := HC.out _ (Below.refl _ _)
            go_region_held3 (fun W => W.cell? ⟨q, 4, none⟩ = some (.slice (some ⟨g, 0, none⟩) nf cf) ∧ W.cell? ⟨g, k * 3, none⟩ = some (.slice P0 n0' d0') ∧ W.cell? ⟨g, k * 3 + 1, none⟩ = some (.slice P1 n1' d1') ∧ W.cell? ⟨g, k * 3 + 2, none⟩ = some (.slice P2 n2' d2'))
              (first | exact HC.out _ KD | exact HC.out _ k4 | exact KX.out)
              (first
                | (go_at_call 67; (with_reducible refine (CF.out _ (by assumption)).mono ?_); rintro e w4 ⟨C0, i0, e0, C1, i1, e1, C2, i2, e2, rfl, s4, b4, k4⟩; have X4 := Lib.hid (XF.out.later k4); obtain ⟨z0, z1, z2⟩ := X4.out.cells; obtain ⟨t0, t1, t2⟩ := X4.out.soft; have KX := Lib.hid (show (fset w4 fb (.slice C0 i0 e0) (.slice C1 i1 e1) (.slice C2 i2 e2)).cell? ⟨q, 4, none⟩ = some (.slice (some ⟨g, 0, none⟩) nf cf) ∧ _ ∧ _ ∧ _ from HFX.out _ _ _ _ k4)))
            change Exit.then _ _ _ _ (fset w4 fb (.slice C0 i0 e0) (.slice C1 i1 e1) (.slice C2 i2 e2))
            have X5 := Lib.hid (X4.out.set (.slice C0 i0 e0) (.slice C1 i1 e1) (.slice C2 i2 e2))
            have S5 := Lib.hid (s4.fset X4.out (.slice C0 i0 e0) (.slice C1 i1 e1) (.slice C2 i2 e2))
            have HAS5 := Lib.hid ((HASF.out.later k4).fset X4.out (.slice C0 i0 e0) (.slice C1 i1 e1) (.slice C2 i2 e2))
            have OW4 := Lib.hid (own_belowN OWF.out k4)
            have OW5 := Lib.hid (own_fset OW4.out (fun _ e => FL.out _ e rfl) X4.out.lt (.slice C0 i0 e0) (.slice C1 i1 e1) (.slice C2 i2 e2))
            have SL5 := Lib.hid (show ∀ g', (Value.slice A6 k c6).ownBlock = some g' → AllSl (fset w4 fb (.slice C0 i0 e0) (.slice C1 i1 e1) (.slice C2 i2 e2)) g' from fun g' e => ((SLF.out g' e).block (k4.block g' (OWF.out.lt _ e).2)).block (fset_other (FL.out g' e) _ _ _))
            have B5 := Lib.hid (fset_below (HBF.out.trans (k4.mono LW.out)) fbb (.slice C0 i0 e0) (.slice C1 i1 e1) (.slice C2 i2 e2))
            have MIN : ∀ W, (Builtin.min_ #[3, 3] 3 #[.int .i64 ((used : Int) + (cn : Int)), .int .i64 (nb : Int)]).run Tryz.prog W = .ok (.int .i64 ((min (used + cn) nb : Nat) : Int)) W := fun W => by
              have := min_run (used + cn) nb W
              rwa [Int.natCast_add] at this
            have HU3 := Lib.hid (show ∀ c ∈ u3 (.slice C0 i0 e0, .slice C1 i1 e1, .slice C2 i2 e2), ∃ a m cap, c = Value.slice a m cap from by
              intro c hc
              simp [u3] at hc
              rcases hc with rfl | rfl | rfl <;> exact ⟨_, _, _, rfl⟩)
            rw [hnb] at HYES
            generalize min (used + cn) nb = mn at *
            clear KX s4 b4 k4 x4 y0 y1 y2 z0 z1 z2 t0 t1 t2 KD HC HFX XF XFs CF CUT OWF HASF HBF X4 OW4
            generalize fset w4 fb (.slice C0 i0 e0) (.slice C1 i1 e1) (.slice C2 i2 e2) = w5 at *
            obtain ⟨y0, y1, y2⟩ := X5.out.cells
            have LW5 := Lib.hid (show b ≤ w5.heap.size from Nat.le_trans fbb (Nat.le_of_lt X5.out.lt))
            go_wp2_with (at_builtin; refine append_file1 rfl (.tmp 79) (.tmp 81) rfl b (.slice A6 k c6) k us rfl OW5.out SL5.out HAS.out.slices (.slice C0 i0 e0, .slice C1 i1 e1, .slice C2 i2 e2) _ rfl rfl HU3.out NK.out LW5.out ?_)
            intro v8 w8 o8 b8 st8 sl8
            have B8 := Lib.hid (B5.out.trans b8)
            have VS := Lib.hid (valid_snoc VAL.out HCV.out)
            have HAS8 := Lib.hid ((HAS5.out.snoc S5.out).stays VS.out st8 (b8.mono (Nat.zero_le _)) SL5.out)
            go_wp2_with fail
            go_roundw
            case rel => exact ⟨k + 1, mn, pre ++ [cfl], us ++ [(.slice C0 i0 e0, .slice C1 i1 e1, .slice C2 i2 e2)], by omega, by go_num, rfl, HYES.out, VS.out, HAS8.out, by rw [u3s_app]; exact o8, sl8, B8.out⟩
            case measure => simp [intOf]; omega
    · have HE := Lib.hid (FAR.out.done (by rw [← NF.out]; omega))
      have FI := Lib.hid (show FsIn wr (.slice A6 k c6) pre from ⟨us, HAS.out, by rw [FAR.out.len]; exact own_baseN OWN.out (Nat.zero_le _)⟩)
      have VW := Lib.hid (show Veer false N q w wr from V2.out.more (by rw [HSZ.out]; exact HB.out) (by rw [HSZ.out]; exact bb.out))
      have F1 := Lib.hid (RHr.out.setFiles VAL.out FI.out VW.out)
      have f4 := RHr.out.box.soft 4
      obtain ⟨-, -, -, -, -, -, x6, x7, x8⟩ := RHr.out.box.cells
      have f6 := RHr.out.box.soft 6
      have f7 := RHr.out.box.soft 7
      have f8 := RHr.out.box.soft 8
      have FIN := Lib.hid (show ∀ W, W = (((wr.setCell ⟨q, 4, none⟩ (.slice A6 k c6)).setCell ⟨q, 8, none⟩ (.bool false)).setCell ⟨q, 6, none⟩ (.int .i64 0)).setCell ⟨q, 7, none⟩ (.int .i64 0) → RD N q (reboot s bs n) W ∧ Veer false N q w W from fun W hW => by
        obtain ⟨⟨r3, H3⟩, V3⟩ := F1.out
        have VT := (((Veer.refl false N q (wr.setCell ⟨q, 4, none⟩ (.slice A6 k c6))).set H3.base 8 (.bool false)).set H3.base 6 (.int .i64 0)).set H3.base 7 (.int .i64 0)
        have BT := ((H3.box.setDown false).setTrip 0).setStop 0
        rw [hW]
        refine ⟨⟨_, H3.turned VAL.out VT BT rfl rfl rfl rfl ?_ ?_ ?_ ?_ ?_ ?_ ?_⟩, V3.trans VT⟩
        · rw [ER.out]
        · rw [ER.out]; exact HE.out.symm
        · rw [ER.out]; exact H3.room
        · rw [ER.out]; exact H3.ops
        · rw [ER.out]; rfl
        · rw [ER.out]; rfl
        · rw [ER.out])
      clear RHr F1 FI HE
      go_wp2_with fail
      exact bodyPost_end (results_none rfl _ _ _) rfl ⟨rfl, (FIN.out _ rfl).1, (FIN.out _ rfl).2⟩
end Go.Proofs.YtaklilhnikmmfaaGreat
