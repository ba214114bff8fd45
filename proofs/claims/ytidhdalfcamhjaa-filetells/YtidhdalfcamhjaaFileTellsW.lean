/-
  The walk of FileTells.
-/
import Derived.Test.YtidhdalfcamhjaaFileAwake
import Derived.Test.YtidhdalfcamhjaaFileOpen
import Derived.Test.YtidhdalfcamhjaaFileRefWrite
import Derived.Test.YtidhdalfcamhjaaFileRefCrash
namespace Go.Proofs.Ytidhdalfcamhjaa
open Go.RowKit StrM BlockM FileM

theorem wrF_pend {f : Fl} {p : Int} {b : List UInt8} (h1 : f.pend.length ≤ 60) (h2 : b.length ≤ 100) : (wrF f p b).pend.length ≤ 1000000 := by
  unfold wrF
  split
  · split
    · have := pList_len p b
      show (f.pend ++ pList p b).length ≤ _
      rw [List.length_append]; omega
    · exact Nat.zero_le _
  · exact Nat.zero_le _
theorem crF_pend (f : Fl) (bs : List Bool) : (crF f bs).pend.length ≤ 1000000 := by
  unfold crF
  split <;> exact Nat.zero_le _
theorem syn_pend (f : Fl) : (syn f).pend.length ≤ 1000000 := by
  unfold syn
  split <;> exact Nat.zero_le _

set_option maxHeartbeats 8000000 in
set_option maxRecDepth 100000 in
theorem ftells_walk (v bv : Value) (f : Fl) (s : Bool) (p : Int) (Ab : Option Addr) (lb cb : Nat) (b : List UInt8) (bs : List Bool) (w : World) (hs : SeesF w v f) (hpl : ∀ x ∈ f.pend, x.p ≤ 9223372036854775807)
    (hb : SeesV w (.slice Ab lb cb) (bys b)) (hlb : b.length = lb) (hcb : lb ≤ cb) (hp : p ≤ 9223372036854775807) (hbs : SeesV w bv (bools bs)) :
    Calls Try.prog 3 #[v, .agg #[.bool s, .int .i64 p, .slice Ab lb cb], bv] w fun e w' => e = .returned (.bool true) ∧ Below w.heap.size w w' := by
  obtain ⟨A0, c0, A1, c1, A2, c2, rfl, -, -, -⟩ := id hs.slices
  have HS := Lib.hid (fun W (hB : Below w.heap.size w W) => hs.later hB)
  have HB := Lib.hid (fun W (hB : Below w.heap.size w W) => hb.later hB)
  have HBS := Lib.hid (fun W (hB : Below w.heap.size w W) => hbs.later hB)
  have HPL := Lib.hid hpl
  have HLB := Lib.hid hlb
  have HCB := Lib.hid hcb
  have HP := Lib.hid hp
  have N0 := Lib.hid (show f.now.length = f.now.length from rfl)
  obtain ⟨n0, e0⟩ : ∃ n, n = f.now.length := ⟨_, rfl⟩
  obtain ⟨n1, e1⟩ : ∃ n, n = f.sure.length := ⟨_, rfl⟩
  obtain ⟨n2, e2⟩ : ∃ n, n = f.pend.length := ⟨_, rfl⟩
  rw [← e0, ← e1, ← e2] at HS ⊢
  clear hs hb hbs hpl hlb hcb hp N0 e0 e1 e2
  have BW := Lib.hid ((below_made w (.cells #[.slice A0 n0 c0, .slice A1 n1 c1, .slice A2 n2 c2] 25)).alloc (below_made w _).size (.cells #[.bool s, .int .i64 p, .slice Ab lb cb] 27))
  have X0 := Lib.hid ((FBox.made w (.slice A0 n0 c0) (.slice A1 n1 c1) (.slice A2 n2 c2)).later (below_made _ (.cells #[.bool s, .int .i64 p, .slice Ab lb cb] 27)))
  have Y0 := Lib.hid (show ABox _ (w.heap.size + 1) _ _ _ by simpa using ABox.made (w.alloc (.cells #[.slice A0 n0 c0, .slice A1 n1 c1, .slice A2 n2 c2] 25)) (.bool s) (.int .i64 p) (.slice Ab lb cb))
  go_enter Try.func3, Try.ntmps3
  go_wp2_with fail
  refine (ffew_any _ f _ (HS.out _ BW.out)).mono ?_
  rintro e w1 ⟨⟨t, rfl, ht⟩, hb1⟩
  have B1 := Lib.hid (BW.out.trans (hb1.mono BW.out.size))
  have X1 := Lib.hid (X0.out.later hb1)
  have Y1 := Lib.hid (Y0.out.later hb1)
  clear hb1 BW X0 Y0
  cases t with
  | false =>
    clear ht
    go_wp2_with fail
    refine (fawake_any _).mono ?_
    rintro e w' ⟨rfl, hb⟩
    have B2 := Lib.hid (B1.out.trans (hb.mono B1.out.size))
    clear hb
    go_wp2_with fail
    go_ret
    exact ⟨rfl, B2.out⟩
  | true =>
    obtain ⟨m0, m1, m2⟩ := ht rfl
    have SZ := Lib.hid (show Sz f from ⟨by omega, by omega, by omega, HPL.out⟩)
    have M2 := Lib.hid m2
    clear ht m0 m1 m2 HPL
    have SA := Lib.hid (SeesA.made w1 ⟨s, p, b⟩ _ (HB.out _ B1.out))
    have B2 := Lib.hid (B1.out.alloc B1.out.size (.cells #[.bool s, .int .i64 p, .slice Ab lb cb] 27))
    have X2 := Lib.hid (X1.out.later (below_made w1 (.cells #[.bool s, .int .i64 p, .slice Ab lb cb] 27)))
    have Y2 := Lib.hid (Y1.out.later (below_made w1 (.cells #[.bool s, .int .i64 p, .slice Ab lb cb] 27)))
    obtain ⟨y0, y1, y2⟩ := Y1.out.cells
    go_wp2_with fail
    refine (light_any _ _ _ SA.out).mono ?_
    rintro e w2 ⟨⟨t, rfl, ht⟩, rfl⟩
    clear y0 y1 y2 X1 Y1 B1 SA
    generalize w1.alloc (.cells #[.bool s, .int .i64 p, .slice Ab lb cb] 27) = w2 at *
    cases t with
    | false =>
      clear ht
      go_wp2_with fail
      refine (fawake_any _).mono ?_
      rintro e w' ⟨rfl, hb⟩
      have B3 := Lib.hid (B2.out.trans (hb.mono B2.out.size))
      clear hb
      go_wp2_with fail
      go_ret
      exact ⟨rfl, B3.out⟩
    | true =>
      have hl : lb ≤ 100 := by rw [← HLB.out]; exact (ht rfl).2 ⟨s, p, b⟩ (List.mem_cons_self ..)
      clear ht
      obtain ⟨x0, x1, x2⟩ := X2.out.cells
      obtain ⟨y0, y1, y2⟩ := Y2.out.cells
      go_wp2_with fail
      refine (fwrite_any _ f p Ab lb cb b _ (HS.out _ B2.out) SZ.out (HB.out _ B2.out) HLB.out HCB.out (by omega) HP.out).mono ?_
      rintro e wa ⟨va, rfl, sa, ba⟩
      have BA := Lib.hid (B2.out.trans (ba.mono B2.out.size))
      have XA := Lib.hid (X2.out.later ba)
      have YA := Lib.hid (Y2.out.later ba)
      obtain ⟨D0, d0, D1, d1, D2, d2, rfl, -, -, -⟩ := sa.slices
      generalize (wrF f p b).now.length = k0 at *
      generalize (wrF f p b).sure.length = k1 at *
      generalize (wrF f p b).pend.length = k2 at *
      have QA := Lib.hid (FBox.made wa (.slice D0 k0 d0) (.slice D1 k1 d1) (.slice D2 k2 d2))
      have b2 := below_made wa (.cells #[.slice D0 k0 d0, .slice D1 k1 d1, .slice D2 k2 d2] 25)
      have BA2 := Lib.hid (BA.out.trans (b2.mono BA.out.size))
      have XA2 := Lib.hid (XA.out.later b2)
      have YA2 := Lib.hid (YA.out.later b2)
      have SA2 := Lib.hid (sa.later b2)
      clear x0 x1 x2 y0 y1 y2 X2 Y2 B2 sa ba b2
      obtain ⟨x0, x1, x2⟩ := XA.out.cells
      obtain ⟨y0, y1, y2⟩ := YA.out.cells
      have l1 : w.heap.size < wa.heap.size := XA.out.lt
      have l2 : w.heap.size + 1 < wa.heap.size := YA.out.lt
      go_wp2_with fail
      refine (rfwrite_any _ f p Ab lb cb b _ (HS.out _ BA2.out) SZ.out (HB.out _ BA2.out) HLB.out (by omega)).mono ?_
      rintro e wb ⟨vb, rfl, sb, bb⟩
      have BB := Lib.hid (BA2.out.trans (bb.mono BA2.out.size))
      have XB := Lib.hid (XA2.out.later bb)
      have QA2 := Lib.hid (QA.out.later bb)
      have SA3 := Lib.hid (SA2.out.later bb)
      obtain ⟨E0, e0, E1, e1, E2, e2, rfl, -, -, -⟩ := sb.slices
      generalize (wrF f p b).now.length = i0 at *
      generalize (wrF f p b).sure.length = i1 at *
      generalize (wrF f p b).pend.length = i2 at *
      have QB := Lib.hid (FBox.made wb (.slice E0 i0 e0) (.slice E1 i1 e1) (.slice E2 i2 e2))
      have b2 := below_made wb (.cells #[.slice E0 i0 e0, .slice E1 i1 e1, .slice E2 i2 e2] 25)
      have BB2 := Lib.hid (BB.out.trans (b2.mono BB.out.size))
      have XB2 := Lib.hid (XB.out.later b2)
      have QA3 := Lib.hid (QA2.out.later b2)
      have SA4 := Lib.hid (SA3.out.later b2)
      have SB2 := Lib.hid (sb.later b2)
      clear x0 x1 x2 y0 y1 y2 l1 l2 XA YA YA2 BA BA2 XA2 QA SA2 SA3 QA2 sb bb b2
      obtain ⟨x0, x1, x2⟩ := XB.out.cells
      have l1 : w.heap.size < wb.heap.size := XB.out.lt
      go_wp2_with fail
      refine (fcrash_any _ _ f bs _ (HS.out _ BB2.out) SZ.out (HBS.out _ BB2.out)).mono ?_
      rintro e wc ⟨vc, rfl, sc, bc⟩
      have BC := Lib.hid (BB2.out.trans (bc.mono BB2.out.size))
      have XC := Lib.hid (XB2.out.later bc)
      have QA4 := Lib.hid (QA3.out.later bc)
      have QB2 := Lib.hid (QB.out.later bc)
      have SA5 := Lib.hid (SA4.out.later bc)
      have SB3 := Lib.hid (SB2.out.later bc)
      obtain ⟨G0, g0, G1, g1, G2, g2, rfl, -, -, -⟩ := sc.slices
      generalize (crF f bs).now.length = o0 at *
      generalize (crF f bs).sure.length = o1 at *
      generalize (crF f bs).pend.length = o2 at *
      have QC := Lib.hid (FBox.made wc (.slice G0 o0 g0) (.slice G1 o1 g1) (.slice G2 o2 g2))
      have b2 := below_made wc (.cells #[.slice G0 o0 g0, .slice G1 o1 g1, .slice G2 o2 g2] 25)
      have BC2 := Lib.hid (BC.out.trans (b2.mono BC.out.size))
      have XC2 := Lib.hid (XC.out.later b2)
      have QA5 := Lib.hid (QA4.out.later b2)
      have QB3 := Lib.hid (QB2.out.later b2)
      have SA6 := Lib.hid (SA5.out.later b2)
      have SB4 := Lib.hid (SB3.out.later b2)
      have SC2 := Lib.hid (sc.later b2)
      clear x0 x1 x2 l1 XB BB BB2 XB2 QA3 QB SA4 SB2 SA5 SB3 QA4 QB2 sc bc b2
      obtain ⟨x0, x1, x2⟩ := XC.out.cells
      have l1 : w.heap.size < wc.heap.size := XC.out.lt
      go_wp2_with fail
      refine (rfcrash_any _ _ f bs _ (HS.out _ BC2.out) SZ.out (HBS.out _ BC2.out)).mono ?_
      rintro e wd ⟨vd, rfl, sd, bd⟩
      have BD := Lib.hid (BC2.out.trans (bd.mono BC2.out.size))
      have XD := Lib.hid (XC2.out.later bd)
      have QA6 := Lib.hid (QA5.out.later bd)
      have QB4 := Lib.hid (QB3.out.later bd)
      have QC2 := Lib.hid (QC.out.later bd)
      have SA7 := Lib.hid (SA6.out.later bd)
      have SB5 := Lib.hid (SB4.out.later bd)
      have SC3 := Lib.hid (SC2.out.later bd)
      obtain ⟨I0, j0, I1, j1, I2, j2, rfl, -, -, -⟩ := sd.slices
      generalize (crF f bs).now.length = t0 at *
      generalize (crF f bs).sure.length = t1 at *
      generalize (crF f bs).pend.length = t2 at *
      generalize wrE f p lb = er at *
      generalize (crN f : Int) = cn at *
      have b2 := below_made wd (.cells #[.slice I0 t0 j0, .slice I1 t1 j1, .slice I2 t2 j2] 25)
      have b3 := below_drew (wd.alloc (.cells #[.slice I0 t0 j0, .slice I1 t1 j1, .slice I2 t2 j2] 25)) (Nat.le_refl _)
      have bq := b2.trans (b3.mono b2.size)
      have QD := Lib.hid ((FBox.made wd (.slice I0 t0 j0) (.slice I1 t1 j1) (.slice I2 t2 j2)).later b3)
      have BZ := Lib.hid (BD.out.trans (bq.mono BD.out.size))
      have XZ := Lib.hid (XD.out.later bq)
      have QAZ := Lib.hid (QA6.out.later bq)
      have QBZ := Lib.hid (QB4.out.later bq)
      have QCZ := Lib.hid (QC2.out.later bq)
      have SAZ := Lib.hid (SA7.out.later bq)
      have SBZ := Lib.hid (SB5.out.later bq)
      have SCZ := Lib.hid (SC3.out.later bq)
      have SDZ := Lib.hid (sd.later bq)
      clear x0 x1 x2 l1 XC BC BC2 XC2 QA5 QB3 QC SA6 SB4 SC2 sd bd b2 b3 bq
      obtain ⟨x0, x1, x2⟩ := XD.out.cells
      obtain ⟨p0, p1, p2⟩ := QA6.out.cells
      obtain ⟨q0, q1, q2⟩ := QB4.out.cells
      obtain ⟨r0, r1, r2⟩ := QC2.out.cells
      have l1 : w.heap.size < wd.heap.size := XD.out.lt
      have l2 : wa.heap.size < wd.heap.size := QA6.out.lt
      have l3 : wb.heap.size < wd.heap.size := QB4.out.lt
      have l4 : wc.heap.size < wd.heap.size := QC2.out.lt
      have HC := Lib.hid (show ∀ W, Below ((wd.alloc (.cells #[.slice I0 t0 j0, .slice I1 t1 j1, .slice I2 t2 j2] 25)).drew).heap.size ((wd.alloc (.cells #[.slice I0 t0 j0, .slice I1 t1 j1, .slice I2 t2 j2] 25)).drew) W → W.cell? ⟨w.heap.size, 0, none⟩ = some (.slice A0 n0 c0) ∧ W.cell? ⟨w.heap.size, 1, none⟩ = some (.slice A1 n1 c1) ∧ W.cell? ⟨w.heap.size, 2, none⟩ = some (.slice A2 n2 c2) ∧ W.cell? ⟨wa.heap.size, 0, none⟩ = some (.slice D0 k0 d0) ∧ W.cell? ⟨wa.heap.size, 1, none⟩ = some (.slice D1 k1 d1) ∧ W.cell? ⟨wa.heap.size, 2, none⟩ = some (.slice D2 k2 d2) ∧ W.cell? ⟨wb.heap.size, 0, none⟩ = some (.slice E0 i0 e0) ∧ W.cell? ⟨wb.heap.size, 1, none⟩ = some (.slice E1 i1 e1) ∧ W.cell? ⟨wb.heap.size, 2, none⟩ = some (.slice E2 i2 e2) ∧ W.cell? ⟨wc.heap.size, 0, none⟩ = some (.slice G0 o0 g0) ∧ W.cell? ⟨wc.heap.size, 1, none⟩ = some (.slice G1 o1 g1) ∧ W.cell? ⟨wc.heap.size, 2, none⟩ = some (.slice G2 o2 g2) ∧ W.cell? ⟨wd.heap.size, 0, none⟩ = some (.slice I0 t0 j0) ∧ W.cell? ⟨wd.heap.size, 1, none⟩ = some (.slice I1 t1 j1) ∧ W.cell? ⟨wd.heap.size, 2, none⟩ = some (.slice I2 t2 j2) from fun W hB => ⟨(XZ.out.later hB).cells.1, (XZ.out.later hB).cells.2.1, (XZ.out.later hB).cells.2.2, (QAZ.out.later hB).cells.1, (QAZ.out.later hB).cells.2.1, (QAZ.out.later hB).cells.2.2, (QBZ.out.later hB).cells.1, (QBZ.out.later hB).cells.2.1, (QBZ.out.later hB).cells.2.2, (QCZ.out.later hB).cells.1, (QCZ.out.later hB).cells.2.1, (QCZ.out.later hB).cells.2.2, (QD.out.later hB).cells.1, (QD.out.later hB).cells.2.1, (QD.out.later hB).cells.2.2⟩)
      have R1 := Lib.hid (show ∀ W, Below ((wd.alloc (.cells #[.slice I0 t0 j0, .slice I1 t1 j1, .slice I2 t2 j2] 25)).drew).heap.size ((wd.alloc (.cells #[.slice I0 t0 j0, .slice I1 t1 j1, .slice I2 t2 j2] 25)).drew) W → Calls Try.prog 12 #[.agg #[.slice A0 n0 c0, .slice A1 n1 c1, .slice A2 n2 c2]] W fun e W' => e = .returned (.bool (valid f)) ∧ Below ((wd.alloc (.cells #[.slice I0 t0 j0, .slice I1 t1 j1, .slice I2 t2 j2] 25)).drew).heap.size ((wd.alloc (.cells #[.slice I0 t0 j0, .slice I1 t1 j1, .slice I2 t2 j2] 25)).drew) W' from fun W hB => (fright_any _ f W (HS.out W (BZ.out.trans (hB.mono BZ.out.size))) SZ.out).mono fun e W' ⟨he, hb⟩ => ⟨he, hB.trans (hb.mono hB.size)⟩)
      have R2 := Lib.hid (show ∀ W, Below ((wd.alloc (.cells #[.slice I0 t0 j0, .slice I1 t1 j1, .slice I2 t2 j2] 25)).drew).heap.size ((wd.alloc (.cells #[.slice I0 t0 j0, .slice I1 t1 j1, .slice I2 t2 j2] 25)).drew) W → Calls Try.prog 13 #[.agg #[.slice A0 n0 c0, .slice A1 n1 c1, .slice A2 n2 c2]] W fun e W' => e = .returned (.bool (valid f)) ∧ Below ((wd.alloc (.cells #[.slice I0 t0 j0, .slice I1 t1 j1, .slice I2 t2 j2] 25)).drew).heap.size ((wd.alloc (.cells #[.slice I0 t0 j0, .slice I1 t1 j1, .slice I2 t2 j2] 25)).drew) W' from fun W hB => (rfright_any _ f W (HS.out W (BZ.out.trans (hB.mono BZ.out.size))) SZ.out).mono fun e W' ⟨he, hb⟩ => ⟨he, hB.trans (hb.mono hB.size)⟩)
      have M1 := Lib.hid (show ∀ W, Below ((wd.alloc (.cells #[.slice I0 t0 j0, .slice I1 t1 j1, .slice I2 t2 j2] 25)).drew).heap.size ((wd.alloc (.cells #[.slice I0 t0 j0, .slice I1 t1 j1, .slice I2 t2 j2] 25)).drew) W → Calls Try.prog 14 #[.agg #[.slice D0 k0 d0, .slice D1 k1 d1, .slice D2 k2 d2], .agg #[.slice E0 i0 e0, .slice E1 i1 e1, .slice E2 i2 e2]] W fun e W' => e = .returned (.bool true) ∧ Below ((wd.alloc (.cells #[.slice I0 t0 j0, .slice I1 t1 j1, .slice I2 t2 j2] 25)).drew).heap.size ((wd.alloc (.cells #[.slice I0 t0 j0, .slice I1 t1 j1, .slice I2 t2 j2] 25)).drew) W' from fun W hB => (fsame_any _ _ (wrF f p b) W (SAZ.out.later hB) (SBZ.out.later hB) (wrF_pend M2.out (by rw [HLB.out]; exact hl))).mono fun e W' ⟨he, hb⟩ => ⟨he, hB.trans (hb.mono hB.size)⟩)
      have U1 := Lib.hid (show ∀ W, Below ((wd.alloc (.cells #[.slice I0 t0 j0, .slice I1 t1 j1, .slice I2 t2 j2] 25)).drew).heap.size ((wd.alloc (.cells #[.slice I0 t0 j0, .slice I1 t1 j1, .slice I2 t2 j2] 25)).drew) W → Calls Try.prog 15 #[.agg #[.slice A0 n0 c0, .slice A1 n1 c1, .slice A2 n2 c2]] W fun e W' => ∃ v, e = .returned v ∧ SeesF W' v (syn f) ∧ Below W.heap.size W W' ∧ Below ((wd.alloc (.cells #[.slice I0 t0 j0, .slice I1 t1 j1, .slice I2 t2 j2] 25)).drew).heap.size ((wd.alloc (.cells #[.slice I0 t0 j0, .slice I1 t1 j1, .slice I2 t2 j2] 25)).drew) W' from fun W hB => (fsync_any _ f W (HS.out W (BZ.out.trans (hB.mono BZ.out.size))) SZ.out).mono fun e W' ⟨v, he, hs, hb⟩ => ⟨v, he, hs, hb, hB.trans (hb.mono hB.size)⟩)
      have U2 := Lib.hid (show ∀ W, Below ((wd.alloc (.cells #[.slice I0 t0 j0, .slice I1 t1 j1, .slice I2 t2 j2] 25)).drew).heap.size ((wd.alloc (.cells #[.slice I0 t0 j0, .slice I1 t1 j1, .slice I2 t2 j2] 25)).drew) W → Calls Try.prog 16 #[.agg #[.slice A0 n0 c0, .slice A1 n1 c1, .slice A2 n2 c2]] W fun e W' => ∃ v, e = .returned v ∧ SeesF W' v (syn f) ∧ Below W.heap.size W W' ∧ Below ((wd.alloc (.cells #[.slice I0 t0 j0, .slice I1 t1 j1, .slice I2 t2 j2] 25)).drew).heap.size ((wd.alloc (.cells #[.slice I0 t0 j0, .slice I1 t1 j1, .slice I2 t2 j2] 25)).drew) W' from fun W hB => (rfsync_any _ f W (HS.out W (BZ.out.trans (hB.mono BZ.out.size))) SZ.out).mono fun e W' ⟨v, he, hs, hb⟩ => ⟨v, he, hs, hb, hB.trans (hb.mono hB.size)⟩)
      have M2' := Lib.hid (show ∀ W v1 v2, SeesF W v1 (syn f) → SeesF W v2 (syn f) → Below ((wd.alloc (.cells #[.slice I0 t0 j0, .slice I1 t1 j1, .slice I2 t2 j2] 25)).drew).heap.size ((wd.alloc (.cells #[.slice I0 t0 j0, .slice I1 t1 j1, .slice I2 t2 j2] 25)).drew) W → Calls Try.prog 14 #[v1, v2] W fun e W' => e = .returned (.bool true) ∧ Below ((wd.alloc (.cells #[.slice I0 t0 j0, .slice I1 t1 j1, .slice I2 t2 j2] 25)).drew).heap.size ((wd.alloc (.cells #[.slice I0 t0 j0, .slice I1 t1 j1, .slice I2 t2 j2] 25)).drew) W' from fun W v1 v2 h1 h2 hB => (fsame_any _ _ (syn f) W h1 h2 (syn_pend f)).mono fun e W' ⟨he, hb⟩ => ⟨he, hB.trans (hb.mono hB.size)⟩)
      have M3 := Lib.hid (show ∀ W, Below ((wd.alloc (.cells #[.slice I0 t0 j0, .slice I1 t1 j1, .slice I2 t2 j2] 25)).drew).heap.size ((wd.alloc (.cells #[.slice I0 t0 j0, .slice I1 t1 j1, .slice I2 t2 j2] 25)).drew) W → Calls Try.prog 14 #[.agg #[.slice G0 o0 g0, .slice G1 o1 g1, .slice G2 o2 g2], .agg #[.slice I0 t0 j0, .slice I1 t1 j1, .slice I2 t2 j2]] W fun e W' => e = .returned (.bool true) ∧ Below ((wd.alloc (.cells #[.slice I0 t0 j0, .slice I1 t1 j1, .slice I2 t2 j2] 25)).drew).heap.size ((wd.alloc (.cells #[.slice I0 t0 j0, .slice I1 t1 j1, .slice I2 t2 j2] 25)).drew) W' from fun W hB => (fsame_any _ _ (crF f bs) W (SCZ.out.later hB) (SDZ.out.later hB) (crF_pend f bs)).mono fun e W' ⟨he, hb⟩ => ⟨he, hB.trans (hb.mono hB.size)⟩)
      have AW := Lib.hid (show ∀ W, Below ((wd.alloc (.cells #[.slice I0 t0 j0, .slice I1 t1 j1, .slice I2 t2 j2] 25)).drew).heap.size ((wd.alloc (.cells #[.slice I0 t0 j0, .slice I1 t1 j1, .slice I2 t2 j2] 25)).drew) W → Calls Try.prog 7 #[] W fun e W' => e = .returned (.bool true) ∧ Below ((wd.alloc (.cells #[.slice I0 t0 j0, .slice I1 t1 j1, .slice I2 t2 j2] 25)).drew).heap.size ((wd.alloc (.cells #[.slice I0 t0 j0, .slice I1 t1 j1, .slice I2 t2 j2] 25)).drew) W' from fun W hB => (fawake_any W).mono fun e W' ⟨he, hb⟩ => ⟨he, hB.trans (hb.mono hB.size)⟩)
      have FIN := Lib.hid (show ∀ W, Below ((wd.alloc (.cells #[.slice I0 t0 j0, .slice I1 t1 j1, .slice I2 t2 j2] 25)).drew).heap.size ((wd.alloc (.cells #[.slice I0 t0 j0, .slice I1 t1 j1, .slice I2 t2 j2] 25)).drew) W → Below w.heap.size w W from fun W hB => BZ.out.trans (hB.mono BZ.out.size))
      have KD : Below ((wd.alloc (.cells #[.slice I0 t0 j0, .slice I1 t1 j1, .slice I2 t2 j2] 25)).drew).heap.size ((wd.alloc (.cells #[.slice I0 t0 j0, .slice I1 t1 j1, .slice I2 t2 j2] 25)).drew) ((wd.alloc (.cells #[.slice I0 t0 j0, .slice I1 t1 j1, .slice I2 t2 j2] 25)).drew) := Below.refl _ _
      clear XZ QAZ QBZ QCZ QD SAZ SBZ SCZ SDZ SA7 SB5 SC3 XD QA6 QB4 QC2 BD BZ HS HB HBS SZ M2 HLB HCB HP
      generalize valid f = vv at *
      go_wp2_with fail
      go_region_held3 (fun W => W.cell? ⟨w.heap.size, 0, none⟩ = some (.slice A0 n0 c0) ∧ W.cell? ⟨w.heap.size, 1, none⟩ = some (.slice A1 n1 c1) ∧ W.cell? ⟨w.heap.size, 2, none⟩ = some (.slice A2 n2 c2) ∧ W.cell? ⟨wa.heap.size, 0, none⟩ = some (.slice D0 k0 d0) ∧ W.cell? ⟨wa.heap.size, 1, none⟩ = some (.slice D1 k1 d1) ∧ W.cell? ⟨wa.heap.size, 2, none⟩ = some (.slice D2 k2 d2) ∧ W.cell? ⟨wb.heap.size, 0, none⟩ = some (.slice E0 i0 e0) ∧ W.cell? ⟨wb.heap.size, 1, none⟩ = some (.slice E1 i1 e1) ∧ W.cell? ⟨wb.heap.size, 2, none⟩ = some (.slice E2 i2 e2) ∧ W.cell? ⟨wc.heap.size, 0, none⟩ = some (.slice G0 o0 g0) ∧ W.cell? ⟨wc.heap.size, 1, none⟩ = some (.slice G1 o1 g1) ∧ W.cell? ⟨wc.heap.size, 2, none⟩ = some (.slice G2 o2 g2) ∧ W.cell? ⟨wd.heap.size, 0, none⟩ = some (.slice I0 t0 j0) ∧ W.cell? ⟨wd.heap.size, 1, none⟩ = some (.slice I1 t1 j1) ∧ W.cell? ⟨wd.heap.size, 2, none⟩ = some (.slice I2 t2 j2))
        (first | exact HC.out _ (by assumption))
        (first
          | (go_at_call 12; (with_reducible refine (R1.out _ (by assumption)).mono ?_); rintro e z1 ⟨rfl, k1⟩)
          | (go_at_call 13; (with_reducible refine (R2.out _ (by assumption)).mono ?_); rintro e z2 ⟨rfl, k2⟩)
          | (go_at_call 14; (with_reducible refine (M1.out _ (by assumption)).mono ?_); rintro e z3 ⟨rfl, k3⟩)
          | (go_at_call 15; (with_reducible refine (U1.out _ (by assumption)).mono ?_); rintro e z4 ⟨v4, rfl, s4, b4, k4⟩)
          | (go_at_call 16; (with_reducible refine (U2.out _ (by assumption)).mono ?_); rintro e z5 ⟨v5, rfl, s5, b5, k5⟩; have s6 := s4.later b5)
          | (go_at_call 14; (with_reducible refine (M2'.out _ _ _ s6 s5 k5).mono ?_); rintro e z6 ⟨rfl, k6⟩)
          | (go_at_call 14; (with_reducible refine (M3.out _ (by assumption)).mono ?_); rintro e z7 ⟨rfl, k7⟩)
          | (go_at_call 7; (with_reducible refine (AW.out _ (by assumption)).mono ?_); rintro e z8 ⟨rfl, k8⟩))
      all_goals
        have B9 := Lib.hid (FIN.out _ k8)
        go_wp2_with fail
        go_ret
        exact ⟨rfl, B9.out⟩
end Go.Proofs.Ytidhdalfcamhjaa
