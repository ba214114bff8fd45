/-
  The walk of FileCrash.
-/
import Derived.Test.YtidhdalfcamhjaaFileAwake
import Derived.Test.YtidhdalfcamhjaaFileMade
namespace Go.Proofs.Ytidhdalfcamhjaa
open Go.RowKit StrM BlockM FileM

theorem syn_parts {f : Fl} (h : valid f = true) : (syn f).now = f.now ∧ (syn f).sure = f.now ∧ (syn f).pend = [] := by
  rw [syn_ok h]; exact ⟨rfl, rfl, rfl⟩
theorem cr_syn {f : Fl} (h : valid f = true) (bs : List Bool) : (crF (syn f) bs).now = f.now ∧ (crF (syn f) bs).sure = f.now := by
  rw [crF_ok (valid_syn f), crC_syn h]; exact ⟨rfl, rfl⟩
theorem cr_all {f : Fl} (h : valid f = true) : (crF f (List.replicate f.pend.length true)).now = f.now := by
  rw [crF_ok h]
  exact crC_all h fun k hk => by rw [bit_at (by simpa using hk)]; simp
theorem cr_none {f : Fl} (h : valid f = true) : (crF f []).now = f.sure := by
  rw [crF_ok h]; exact crC_none f
theorem cr_one {f : Fl} (h : valid f = true) (hs : f.now = f.sure) {p : Int} {b : List UInt8} (bs : List Bool) (he : wrE f p b.length = 0) (h1 : (wrF f p b).pend.length ≤ 1) :
    (crF (wrF f p b) bs).now = f.now ∨ (crF (wrF f p b) bs).now = (wrF f p b).now := by
  rw [wrE_ok h] at he
  rw [wrF_ok h he] at h1 ⊢
  have hv := valid_wrote h (pList_ok p b)
  rw [crF_ok hv]
  rcases crC_one hv bs h1 with e | e
  · left; show crC _ _ = _; rw [e, hs]; rfl
  · right; exact e
theorem sz_wr {f : Fl} (h : valid f = true) (hp : f.pend.length ≤ 1000) {p : Int} {b : List UInt8} (hb : b.length ≤ 100) (he : wrE f p b.length = 0) : Sz (wrF f p b) := by
  rw [wrE_ok h] at he
  rw [wrF_ok h he]
  refine sz_valid (valid_wrote h (pList_ok p b)) ?_
  have := pList_len p b
  show (f.pend ++ pList p b).length ≤ _
  rw [List.length_append]; omega

theorem bytes_true (v1 v2 : Value) (a : List UInt8) (w : World) (h1 : SeesV w v1 (bys a)) (h2 : SeesV w v2 (bys a)) :
    Calls Try.prog 18 #[v1, v2] w fun e w' => e = .returned (.bool true) ∧ w = w' :=
  (bytes_any v1 v2 a a w h1 h2).mono fun _ _ ⟨he, hw⟩ => ⟨by rw [he, decide_eq_true rfl], hw⟩
theorem oneBool : OneCell Try.prog 28 4 (.bool false) 1 := ⟨Try.underlying28, by kernel_rfl, rfl⟩
/-- A row of bools that holds k times true. -/
def TRow (w : World) (v : Value) (k : Nat) (wq : World) : Prop := wq.ownsRow w.heap.size 4 1 v k (bools (List.replicate k true)) ∧ Below w.heap.size w wq
theorem TRow.start (w : World) : TRow w (.slice (some ⟨w.heap.size, 0, none⟩) 0 0) 0 (w.alloc (.cells #[] 4)) := ⟨own_made w _, below_made w _⟩
theorem bools_more (k : Nat) : bools (List.replicate k true) ++ [.bool true] = bools (List.replicate (k + 1) true) := by
  simp [bools, List.replicate_succ']

set_option maxHeartbeats 8000000 in
set_option maxRecDepth 100000 in
theorem fcr_walk (v bv : Value) (l : List Do) (s : Bool) (p : Int) (Ab : Option Addr) (lb cb : Nat) (b : List UInt8) (bs : List Bool) (w : World) (hl : SeesA w v l)
    (hb : SeesV w (.slice Ab lb cb) (bys b)) (hlb : b.length = lb) (hcb : lb ≤ cb) (hp : p ≤ 9223372036854775807) (hbs : SeesV w bv (bools bs)) :
    Calls Try.prog 4 #[v, .agg #[.bool s, .int .i64 p, .slice Ab lb cb], bv] w fun e w' => e = .returned (.bool true) ∧ Below w.heap.size w w' := by
  obtain ⟨a, cap, rfl, -⟩ := id hl
  have HA := Lib.hid (fun W (hB : Below w.heap.size w W) => hl.later hB)
  have HB := Lib.hid (fun W (hB : Below w.heap.size w W) => hb.later hB)
  have HBS := Lib.hid (fun W (hB : Below w.heap.size w W) => hbs.later hB)
  have HLB := Lib.hid hlb
  have HCB := Lib.hid hcb
  have HP := Lib.hid hp
  obtain ⟨n, en⟩ : ∃ n, n = l.length := ⟨_, rfl⟩
  rw [← en] at HA ⊢
  have HN := Lib.hid en
  clear hl hb hbs hlb hcb hp en
  have B0 := Lib.hid (below_made w (.cells #[.bool s, .int .i64 p, .slice Ab lb cb] 27))
  have Y0 := Lib.hid (ABox.made w (.bool s) (.int .i64 p) (.slice Ab lb cb))
  go_enter Try.func4, Try.ntmps4
  go_wp2_with fail
  refine (light_any _ l _ (HA.out _ B0.out)).mono ?_
  rintro e w1 ⟨⟨t, rfl, ht⟩, rfl⟩
  generalize w.alloc (.cells #[.bool s, .int .i64 p, .slice Ab lb cb] 27) = w1 at *
  cases t with
  | false =>
    clear ht
    go_wp2_with fail
    refine (fawake_any _).mono ?_
    rintro e w' ⟨rfl, hb⟩
    have BZ := Lib.hid (B0.out.trans (hb.mono B0.out.size))
    clear hb
    go_wp2_with fail
    go_ret
    exact ⟨rfl, BZ.out⟩
  | true =>
    obtain ⟨hn, hall⟩ := ht rfl
    have HALL := Lib.hid hall
    have hn20 : n ≤ 20 := by rw [HN.out]; exact hn
    have VF := Lib.hid (madeTo_valid l l.length)
    have PF := Lib.hid (show (madeTo l l.length).pend.length ≤ 2000 by have := madeTo_pend hall l.length; omega)
    have MADE := Lib.hid (fun W (hB : Below w.heap.size w W) => made_any _ l W (HA.out W hB) hall hn)
    unfold FPost at MADE
    have SZF := Lib.hid (sz_valid VF.out (Nat.le_trans PF.out (by decide)))
    clear ht hn hall
    generalize madeTo l l.length = F at *
    have SA := Lib.hid (SeesA.made w1 ⟨s, p, b⟩ _ (HB.out _ B0.out))
    have b1 := below_made w1 (.cells #[.bool s, .int .i64 p, .slice Ab lb cb] 27)
    have B1 := Lib.hid (B0.out.trans (b1.mono B0.out.size))
    have Y1 := Lib.hid (Y0.out.later b1)
    clear b1
    obtain ⟨y0, y1, y2⟩ := Y0.out.cells
    go_wp2_with fail
    refine (light_any _ _ _ SA.out).mono ?_
    rintro e w2 ⟨⟨t, rfl, ht⟩, rfl⟩
    clear y0 y1 y2 B0 Y0 SA HALL
    generalize w1.alloc (.cells #[.bool s, .int .i64 p, .slice Ab lb cb] 27) = w2 at *
    cases t with
    | false =>
      clear ht
      go_wp2_with fail
      refine (fawake_any _).mono ?_
      rintro e w' ⟨rfl, hb⟩
      have BZ := Lib.hid (B1.out.trans (hb.mono B1.out.size))
      clear hb
      go_wp2_with fail
      go_ret
      exact ⟨rfl, BZ.out⟩
    | true =>
      have hlb100 : lb ≤ 100 := by rw [← HLB.out]; exact (ht rfl).2 ⟨s, p, b⟩ (List.mem_cons_self ..)
      have HLB1 := Lib.hid hlb100
      clear ht hlb100
      go_wp2_with fail
      refine (MADE.out _ B1.out).mono ?_
      rintro e wm ⟨vm, rfl, sm, bm⟩
      have B2 := Lib.hid (B1.out.trans (bm.mono B1.out.size))
      have Y2 := Lib.hid (Y1.out.later bm)
      clear B1 Y1 bm
      obtain ⟨A0, c0, A1, c1, A2, c2, rfl, fa, fb, -⟩ := sm.slices
      have FA0 := Lib.hid fa
      have FB0 := Lib.hid fb
      obtain ⟨n2, en2⟩ : ∃ n, n = F.pend.length := ⟨_, rfl⟩
      rw [← en2] at sm PF ⊢
      have HN2 := Lib.hid en2
      generalize F.now.length = n0 at *
      generalize F.sure.length = n1 at *
      have SF0 := Lib.hid sm
      clear fa fb sm en2
      have bx := below_made wm (.cells #[.slice A0 n0 c0, .slice A1 n1 c1, .slice A2 n2 c2] 25)
      have B3 := Lib.hid (B2.out.trans (bx.mono B2.out.size))
      have Y3 := Lib.hid (Y2.out.later bx)
      have FA1 := Lib.hid (FA0.out.later bx)
      have FB1 := Lib.hid (FB0.out.later bx)
      have SF1 := Lib.hid (SF0.out.later bx)
      clear B2 Y2 FA0 FB0 SF0 bx
      have QF0 := Lib.hid (FBox.made wm (.slice A0 n0 c0) (.slice A1 n1 c1) (.slice A2 n2 c2))
      go_wp2_with fail
      refine (fsync_any _ F _ SF1.out SZF.out).mono ?_
      rintro e ws ⟨vs, rfl, ss, bs1⟩
      have B4 := Lib.hid (B3.out.trans (bs1.mono B3.out.size))
      have Y4 := Lib.hid (Y3.out.later bs1)
      have FA2 := Lib.hid (FA1.out.later bs1)
      have FB2 := Lib.hid (FB1.out.later bs1)
      have SF2 := Lib.hid (SF1.out.later bs1)
      have QF1 := Lib.hid (QF0.out.later bs1)
      clear B3 Y3 FA1 FB1 SF1 QF0 bs1
      have VS := Lib.hid (valid_syn F)
      have ES := Lib.hid (syn_parts VF.out)
      have EC := Lib.hid (cr_syn VF.out bs)
      have SZS := Lib.hid (show Sz (syn F) from sz_valid VS.out (by rw [ES.out.2.2]; exact Nat.zero_le _))
      obtain ⟨D0, d0, D1, d1, D2, d2, rfl, fa, -, -⟩ := ss.slices
      generalize (syn F).now.length = m0 at *
      generalize (syn F).sure.length = m1 at *
      generalize (syn F).pend.length = m2 at *
      rw [ES.out.1] at fa
      have SA0 := Lib.hid fa
      have SS0 := Lib.hid ss
      clear fa ss
      obtain ⟨xQF0, xQF1, xQF2⟩ := QF1.out.cells
      have lQF := QF1.out.lt
      have bx := below_made ws (.cells #[.slice D0 m0 d0, .slice D1 m1 d1, .slice D2 m2 d2] 25)
      have B5 := Lib.hid (B4.out.trans (bx.mono B4.out.size))
      have Y5 := Lib.hid (Y4.out.later bx)
      have FA3 := Lib.hid (FA2.out.later bx)
      have FB3 := Lib.hid (FB2.out.later bx)
      have SF3 := Lib.hid (SF2.out.later bx)
      have QF2 := Lib.hid (QF1.out.later bx)
      have SA1 := Lib.hid (SA0.out.later bx)
      have SS1 := Lib.hid (SS0.out.later bx)
      clear B4 Y4 FA2 FB2 SF2 QF1 SA0 SS0 bx
      have QS0 := Lib.hid (FBox.made ws (.slice D0 m0 d0) (.slice D1 m1 d1) (.slice D2 m2 d2))
      go_wp2_with fail
      refine (fcrash_any _ _ (syn F) bs _ SS1.out SZS.out (HBS.out _ B5.out)).mono ?_
      rintro e wa ⟨va, rfl, sa, ba⟩
      clear xQF0 xQF1 xQF2 lQF
      have B6 := Lib.hid (B5.out.trans (ba.mono B5.out.size))
      have Y6 := Lib.hid (Y5.out.later ba)
      have FA4 := Lib.hid (FA3.out.later ba)
      have FB4 := Lib.hid (FB3.out.later ba)
      have SF4 := Lib.hid (SF3.out.later ba)
      have QF3 := Lib.hid (QF2.out.later ba)
      have SA2 := Lib.hid (SA1.out.later ba)
      have SS2 := Lib.hid (SS1.out.later ba)
      have QS1 := Lib.hid (QS0.out.later ba)
      clear B5 Y5 FA3 FB3 SF3 QF2 SA1 SS1 QS0 ba
      obtain ⟨E0, e0, E1, e1, E2, e2, rfl, fa, fb, -⟩ := sa.slices
      generalize (crF (syn F) bs).now.length = i0 at *
      generalize (crF (syn F) bs).sure.length = i1 at *
      generalize (crF (syn F) bs).pend.length = i2 at *
      rw [EC.out.1] at fa
      rw [EC.out.2] at fb
      have AA0 := Lib.hid fa
      have AB0 := Lib.hid fb
      clear fa fb sa
      generalize (crN (syn F) : Int) = cn1 at *
      obtain ⟨xQF0, xQF1, xQF2⟩ := QF3.out.cells
      have lQF := QF3.out.lt
      obtain ⟨xQS0, xQS1, xQS2⟩ := QS1.out.cells
      have lQS := QS1.out.lt
      have bx := below_made wa (.cells #[.slice E0 i0 e0, .slice E1 i1 e1, .slice E2 i2 e2] 25)
      have B7 := Lib.hid (B6.out.trans (bx.mono B6.out.size))
      have Y7 := Lib.hid (Y6.out.later bx)
      have FA5 := Lib.hid (FA4.out.later bx)
      have FB5 := Lib.hid (FB4.out.later bx)
      have SF5 := Lib.hid (SF4.out.later bx)
      have QF4 := Lib.hid (QF3.out.later bx)
      have SA3 := Lib.hid (SA2.out.later bx)
      have SS3 := Lib.hid (SS2.out.later bx)
      have QS2 := Lib.hid (QS1.out.later bx)
      have AA1 := Lib.hid (AA0.out.later bx)
      have AB1 := Lib.hid (AB0.out.later bx)
      clear B6 Y6 FA4 FB4 SF4 QF3 SA2 SS2 QS1 AA0 AB0 bx
      have QA0 := Lib.hid (FBox.made wa (.slice E0 i0 e0) (.slice E1 i1 e1) (.slice E2 i2 e2))
      go_wp2_with fail
      refine (fright_any _ F _ SF5.out SZF.out).mono ?_
      rw [VF.out]
      rintro e wq ⟨rfl, br⟩
      clear xQF0 xQF1 xQF2 lQF xQS0 xQS1 xQS2 lQS
      have B8 := Lib.hid (B7.out.trans (br.mono B7.out.size))
      have Y8 := Lib.hid (Y7.out.later br)
      have FA6 := Lib.hid (FA5.out.later br)
      have FB6 := Lib.hid (FB5.out.later br)
      have SF6 := Lib.hid (SF5.out.later br)
      have QF5 := Lib.hid (QF4.out.later br)
      have SA4 := Lib.hid (SA3.out.later br)
      have SS4 := Lib.hid (SS3.out.later br)
      have QS3 := Lib.hid (QS2.out.later br)
      have AA2 := Lib.hid (AA1.out.later br)
      have AB2 := Lib.hid (AB1.out.later br)
      have QA1 := Lib.hid (QA0.out.later br)
      clear B7 Y7 FA5 FB5 SF5 QF4 SA3 SS3 QS2 AA1 AB1 QA0 br
      obtain ⟨xQF0, xQF1, xQF2⟩ := QF5.out.cells
      obtain ⟨xQA0, xQA1, xQA2⟩ := QA1.out.cells
      go_wp2_with fail
      refine (bytes_true _ _ F.now _ AA2.out FA6.out).mono ?_
      rintro e w' ⟨rfl, rfl⟩
      go_wp2_with fail
      refine (bytes_true _ _ F.now _ AB2.out FA6.out).mono ?_
      rintro e w' ⟨rfl, rfl⟩
      clear xQF0 xQF1 xQF2 xQA0 xQA1 xQA2
      clear QA1 AA2 AB2
      have T0 := Lib.hid (TRow.start wq)
      go_wp2_with fail
      go_loopw [11, 12] (fun x i wr => ∃ k : Nat, k ≤ n2 ∧ i = .int .i64 (k : Int) ∧ TRow wq x k wr) (fun _ i _ => n2 - (intOf i).toNat)
      case atStart => exact ⟨0, Nat.zero_le _, rfl, T0.out⟩
      case round =>
        clear T0
        obtain ⟨k, hk, rfl, hT⟩ := hrel
        have T := Lib.hid hT
        have bl := hT.2
        clear hT
        have hn2 : n2 ≤ 2000 := PF.out
        have B9 := Lib.hid (B8.out.trans (bl.mono B8.out.size))
        have Y9 := Lib.hid (Y8.out.later bl)
        have FA7 := Lib.hid (FA6.out.later bl)
        have FB7 := Lib.hid (FB6.out.later bl)
        have SF7 := Lib.hid (SF6.out.later bl)
        have QF6 := Lib.hid (QF5.out.later bl)
        have SA5 := Lib.hid (SA4.out.later bl)
        have SS5 := Lib.hid (SS4.out.later bl)
        have QS4 := Lib.hid (QS3.out.later bl)
        clear B8 Y8 FA6 FB6 SF6 QF5 SA4 SS4 QS3 bl
        obtain ⟨xQF0, xQF1, xQF2⟩ := QF6.out.cells
        by_cases hlt : k < n2
        · have q1 : (k + 1) * 1 ≤ 140737488355328 := by omega
          have q2 : k + 1 ≤ maxLen := by unfold maxLen; omega
          have hsz : wq.heap.size ≤ wr.heap.size := T.out.2.size
          go_wp2_with (at_builtin; refine append_one oneBool rfl _ _ rfl wq.heap.size _ _ _ rfl T.out.1 (.bool true) rfl rfl q1 q2 hsz ?_)
          intro v' w' ho hb
          have T2 := Lib.hid (show TRow wq v' (k + 1) w' from ⟨by rw [← bools_more]; exact ho, T.out.2.trans hb⟩)
          clear ho hb q1 q2 hsz
          go_wp2_with fail
          go_roundw
          case rel => exact ⟨k + 1, by omega, by go_num, T2.out⟩
          case measure => simp [intOf]; omega
        · have hkn : k = n2 := by omega
          have TS := Lib.hid (show SeesV wr u11 (bools (List.replicate n2 true)) by rw [← hkn]; exact SeesV.of_own T.out.1)
          have EA := Lib.hid (show (crF F (List.replicate n2 true)).now = F.now by rw [HN2.out]; exact cr_all VF.out)
          have EN := Lib.hid (cr_none VF.out)
          clear hkn T
          go_wp2_with fail
          refine (fcrash_any _ _ F (List.replicate n2 true) _ SF7.out SZF.out TS.out).mono ?_
          rintro e wb ⟨vb, rfl, sb, bb⟩
          clear TS xQF0 xQF1 xQF2
          have B10 := Lib.hid (B9.out.trans (bb.mono B9.out.size))
          have Y10 := Lib.hid (Y9.out.later bb)
          have FA8 := Lib.hid (FA7.out.later bb)
          have FB8 := Lib.hid (FB7.out.later bb)
          have SF8 := Lib.hid (SF7.out.later bb)
          have QF7 := Lib.hid (QF6.out.later bb)
          have SA6 := Lib.hid (SA5.out.later bb)
          have SS6 := Lib.hid (SS5.out.later bb)
          have QS5 := Lib.hid (QS4.out.later bb)
          clear B9 Y9 FA7 FB7 SF7 QF6 SA5 SS5 QS4 bb
          obtain ⟨G0, g0, G1, g1, G2, g2, rfl, fa, -, -⟩ := sb.slices
          generalize (crF F (List.replicate n2 true)).now.length = j0 at *
          generalize (crF F (List.replicate n2 true)).sure.length = j1 at *
          generalize (crF F (List.replicate n2 true)).pend.length = j2 at *
          rw [EA.out] at fa
          have BA0 := Lib.hid fa
          clear fa sb
          generalize (crN F : Int) = cn2 at *
          obtain ⟨xQF0, xQF1, xQF2⟩ := QF7.out.cells
          have lQF := QF7.out.lt
          have bx := below_made wb (.cells #[.slice G0 j0 g0, .slice G1 j1 g1, .slice G2 j2 g2] 25)
          have B11 := Lib.hid (B10.out.trans (bx.mono B10.out.size))
          have Y11 := Lib.hid (Y10.out.later bx)
          have FA9 := Lib.hid (FA8.out.later bx)
          have FB9 := Lib.hid (FB8.out.later bx)
          have SF9 := Lib.hid (SF8.out.later bx)
          have QF8 := Lib.hid (QF7.out.later bx)
          have SA7 := Lib.hid (SA6.out.later bx)
          have SS7 := Lib.hid (SS6.out.later bx)
          have QS6 := Lib.hid (QS5.out.later bx)
          have BA1 := Lib.hid (BA0.out.later bx)
          clear B10 Y10 FA8 FB8 SF8 QF7 SA6 SS6 QS5 BA0 bx
          have QB0 := Lib.hid (FBox.made wb (.slice G0 j0 g0) (.slice G1 j1 g1) (.slice G2 j2 g2))
          go_wp2_with fail
          refine (fcrash_any _ _ F [] _ SF9.out SZF.out ⟨none, 0, rfl, .inl rfl⟩).mono ?_
          rintro e wc ⟨vc, rfl, sc, bc⟩
          clear xQF0 xQF1 xQF2 lQF
          have B12 := Lib.hid (B11.out.trans (bc.mono B11.out.size))
          have Y12 := Lib.hid (Y11.out.later bc)
          have FA10 := Lib.hid (FA9.out.later bc)
          have FB10 := Lib.hid (FB9.out.later bc)
          have SF10 := Lib.hid (SF9.out.later bc)
          have QF9 := Lib.hid (QF8.out.later bc)
          have SA8 := Lib.hid (SA7.out.later bc)
          have SS8 := Lib.hid (SS7.out.later bc)
          have QS7 := Lib.hid (QS6.out.later bc)
          have BA2 := Lib.hid (BA1.out.later bc)
          have QB1 := Lib.hid (QB0.out.later bc)
          clear B11 Y11 FA9 FB9 SF9 QF8 SA7 SS7 QS6 BA1 QB0 bc
          obtain ⟨H0, h0, H1, h1, H2, h2, rfl, fa, -, -⟩ := sc.slices
          generalize (crF F []).now.length = o0 at *
          generalize (crF F []).sure.length = o1 at *
          generalize (crF F []).pend.length = o2 at *
          rw [EN.out] at fa
          have CA0 := Lib.hid fa
          clear fa sc
          generalize (crN F : Int) = cn3 at *
          obtain ⟨xQF0, xQF1, xQF2⟩ := QF9.out.cells
          have lQF := QF9.out.lt
          obtain ⟨xQB0, xQB1, xQB2⟩ := QB1.out.cells
          have lQB := QB1.out.lt
          obtain ⟨xQS0, xQS1, xQS2⟩ := QS7.out.cells
          have lQS := QS7.out.lt
          obtain ⟨y0, y1, y2⟩ := Y12.out.cells
          have lY := Y12.out.lt
          have bx := below_made wc (.cells #[.slice H0 o0 h0, .slice H1 o1 h1, .slice H2 o2 h2] 25)
          have B13 := Lib.hid (B12.out.trans (bx.mono B12.out.size))
          have Y13 := Lib.hid (Y12.out.later bx)
          have FA11 := Lib.hid (FA10.out.later bx)
          have FB11 := Lib.hid (FB10.out.later bx)
          have SF11 := Lib.hid (SF10.out.later bx)
          have QF10 := Lib.hid (QF9.out.later bx)
          have SA9 := Lib.hid (SA8.out.later bx)
          have SS9 := Lib.hid (SS8.out.later bx)
          have QS8 := Lib.hid (QS7.out.later bx)
          have BA3 := Lib.hid (BA2.out.later bx)
          have QB2 := Lib.hid (QB1.out.later bx)
          have CA1 := Lib.hid (CA0.out.later bx)
          clear B12 Y12 FA10 FB10 SF10 QF9 SA8 SS8 QS7 BA2 QB1 CA0 bx
          have QC0 := Lib.hid (FBox.made wc (.slice H0 o0 h0) (.slice H1 o1 h1) (.slice H2 o2 h2))
          go_wp2_with fail
          refine (bytes_true _ _ F.now _ BA3.out FA11.out).mono ?_
          rintro e w' ⟨rfl, rfl⟩
          go_wp2_with fail
          refine (bytes_true _ _ F.sure _ CA1.out FB11.out).mono ?_
          rintro e w' ⟨rfl, rfl⟩
          have WRI := Lib.hid (fwrite_any _ (syn F) p Ab lb cb b _ SS9.out SZS.out (HB.out _ B13.out) HLB.out HCB.out (by have := HLB1.out; omega) HP.out)
          unfold NPost at WRI
          go_wp2_with fail
          refine WRI.out.mono ?_
          rintro e ww ⟨vw, rfl, sw, bw⟩
          clear WRI xQF0 xQF1 xQF2 lQF xQB0 xQB1 xQB2 lQB xQS0 xQS1 xQS2 lQS y0 y1 y2 lY
          clear QB2 QC0 BA3 CA1 FA11 FB11 SF11 QF10 Y13
          have B14 := Lib.hid (B13.out.trans (bw.mono B13.out.size))
          have SA10 := Lib.hid (SA9.out.later bw)
          have SS10 := Lib.hid (SS9.out.later bw)
          have QS9 := Lib.hid (QS8.out.later bw)
          clear B13 SA9 SS9 QS8 bw
          obtain ⟨I0, k0, I1, k1, I2, k2, rfl, fa, -, -⟩ := sw.slices
          have WA0 := Lib.hid fa
          have SW0 := Lib.hid sw
          clear fa sw
          have ONE := Lib.hid (fun he h1 => cr_one VS.out (by rw [ES.out.1, ES.out.2.1]) (p := p) (b := b) bs he h1)
          have SZW := Lib.hid (fun he => sz_wr VS.out (by rw [ES.out.2.2]; exact Nat.zero_le _) (p := p) (b := b) (by have := HLB.out; have := HLB1.out; omega) he)
          rw [HLB.out, ES.out.1] at ONE
          rw [HLB.out] at SZW
          generalize wrE (syn F) p lb = er at *
          generalize (wrF (syn F) p b).now.length = t0 at *
          generalize (wrF (syn F) p b).sure.length = t1 at *
          generalize (wrF (syn F) p b).pend.length = t2 at *
          by_cases he : er = 0
          · subst he
            have ONE1 := Lib.hid (ONE.out rfl)
            have SZW1 := Lib.hid (SZW.out rfl)
            clear ONE SZW
            by_cases ht : 1 < t2
            · have ht' : (1 : Int) < (t2 : Int) := by omega
              clear ht ONE1
              have bx := below_made ww (.cells #[.slice I0 t0 k0, .slice I1 t1 k1, .slice I2 t2 k2] 25)
              have B15 := Lib.hid (B14.out.trans (bx.mono B14.out.size))
              have SA11 := Lib.hid (SA10.out.later bx)
              have SS11 := Lib.hid (SS10.out.later bx)
              have QS10 := Lib.hid (QS9.out.later bx)
              have WA1 := Lib.hid (WA0.out.later bx)
              have SW1 := Lib.hid (SW0.out.later bx)
              clear B14 SA10 SS10 QS9 WA0 SW0 bx
              have QW0 := Lib.hid (FBox.made ww (.slice I0 t0 k0) (.slice I1 t1 k1) (.slice I2 t2 k2))
              go_wp2_with fail
              refine (fawake_any _).mono ?_
              rintro e w' ⟨rfl, hb⟩
              have BZ := Lib.hid (B15.out.trans (hb.mono B15.out.size))
              clear hb
              go_wp2_with fail
              go_ret
              exact ⟨rfl, BZ.out⟩
            · have ht' : decide ((1 : Int) < (t2 : Int)) = false := by simp; omega
              have ht2 : decide (1 < t2) = false := by simpa using ht
              have ONE2 := Lib.hid (ONE1.out (by omega))
              clear ht ONE1
              obtain ⟨xQS0, xQS1, xQS2⟩ := QS9.out.cells
              have lQS := QS9.out.lt
              have bx := below_made ww (.cells #[.slice I0 t0 k0, .slice I1 t1 k1, .slice I2 t2 k2] 25)
              have B15 := Lib.hid (B14.out.trans (bx.mono B14.out.size))
              have SA11 := Lib.hid (SA10.out.later bx)
              have SS11 := Lib.hid (SS10.out.later bx)
              have QS10 := Lib.hid (QS9.out.later bx)
              have WA1 := Lib.hid (WA0.out.later bx)
              have SW1 := Lib.hid (SW0.out.later bx)
              clear B14 SA10 SS10 QS9 WA0 SW0 bx
              have QW0 := Lib.hid (FBox.made ww (.slice I0 t0 k0) (.slice I1 t1 k1) (.slice I2 t2 k2))
              go_wp2_with fail
              refine (fcrash_any _ _ (wrF (syn F) p b) bs _ SW1.out SZW1.out (HBS.out _ B15.out)).mono ?_
              rintro e wd ⟨vd, rfl, sd, bd⟩
              clear xQS0 xQS1 xQS2 lQS
              have B16 := Lib.hid (B15.out.trans (bd.mono B15.out.size))
              have SA12 := Lib.hid (SA11.out.later bd)
              have SS12 := Lib.hid (SS11.out.later bd)
              have QS11 := Lib.hid (QS10.out.later bd)
              have WA2 := Lib.hid (WA1.out.later bd)
              have SW2 := Lib.hid (SW1.out.later bd)
              have QW1 := Lib.hid (QW0.out.later bd)
              clear B15 SA11 SS11 QS10 WA1 SW1 QW0 bd
              obtain ⟨J0, r0, J1, r1, J2, r2, rfl, fa, -, -⟩ := sd.slices
              have DA0 := Lib.hid fa
              clear fa sd
              generalize (crF (wrF (syn F) p b) bs).now.length = z0 at *
              generalize (crF (wrF (syn F) p b) bs).sure.length = z1 at *
              generalize (crF (wrF (syn F) p b) bs).pend.length = z2 at *
              generalize (crN (wrF (syn F) p b) : Int) = cn4 at *
              generalize (crF (wrF (syn F) p b) bs).now = X at *
              generalize (wrF (syn F) p b).now = V at *
              obtain ⟨xQS0, xQS1, xQS2⟩ := QS11.out.cells
              have lQS := QS11.out.lt
              obtain ⟨xQW0, xQW1, xQW2⟩ := QW1.out.cells
              have lQW := QW1.out.lt
              have bx := below_made wd (.cells #[.slice J0 z0 r0, .slice J1 z1 r1, .slice J2 z2 r2] 25)
              have B17 := Lib.hid (B16.out.trans (bx.mono B16.out.size))
              have SA13 := Lib.hid (SA12.out.later bx)
              have SS13 := Lib.hid (SS12.out.later bx)
              have QS12 := Lib.hid (QS11.out.later bx)
              have WA3 := Lib.hid (WA2.out.later bx)
              have SW3 := Lib.hid (SW2.out.later bx)
              have QW2 := Lib.hid (QW1.out.later bx)
              have DA1 := Lib.hid (DA0.out.later bx)
              clear B16 SA12 SS12 QS11 WA2 SW2 QW1 DA0 bx
              have QD0 := Lib.hid (FBox.made wd (.slice J0 z0 r0) (.slice J1 z1 r1) (.slice J2 z2 r2))
              go_wp2_with fail
              refine (bytes_any _ _ X F.now _ DA1.out SA13.out).mono ?_
              rintro e w' ⟨rfl, rfl⟩
              by_cases hx : X = F.now
              · rw [decide_eq_true hx]
                go_wp2_with fail
                refine (fawake_any _).mono ?_
                rintro e w' ⟨rfl, hb⟩
                have BZ := Lib.hid (B17.out.trans (hb.mono B17.out.size))
                clear hb
                go_wp2_with fail
                go_ret
                exact ⟨rfl, BZ.out⟩
              · have hxv : X = V := ONE2.out.resolve_left hx
                rw [decide_eq_false hx]
                have DV := Lib.hid (show SeesV _ _ (bys V) from hxv ▸ DA1.out)
                clear hx hxv
                go_wp2_with fail
                refine (bytes_true _ _ V _ DV.out WA3.out).mono ?_
                rintro e w' ⟨rfl, rfl⟩
                go_wp2_with fail
                refine (fawake_any _).mono ?_
                rintro e w' ⟨rfl, hb⟩
                have BZ := Lib.hid (B17.out.trans (hb.mono B17.out.size))
                clear hb
                go_wp2_with fail
                go_ret
                exact ⟨rfl, BZ.out⟩
          · have he' : decide (er = 0) = false := by simpa using he
            clear ONE SZW
            have bx := below_made ww (.cells #[.slice I0 t0 k0, .slice I1 t1 k1, .slice I2 t2 k2] 25)
            have B15 := Lib.hid (B14.out.trans (bx.mono B14.out.size))
            have SA11 := Lib.hid (SA10.out.later bx)
            have SS11 := Lib.hid (SS10.out.later bx)
            have QS10 := Lib.hid (QS9.out.later bx)
            have WA1 := Lib.hid (WA0.out.later bx)
            have SW1 := Lib.hid (SW0.out.later bx)
            clear B14 SA10 SS10 QS9 WA0 SW0 bx
            have QW0 := Lib.hid (FBox.made ww (.slice I0 t0 k0) (.slice I1 t1 k1) (.slice I2 t2 k2))
            go_wp2_with fail
            refine (fawake_any _).mono ?_
            rintro e w' ⟨rfl, hb⟩
            have BZ := Lib.hid (B15.out.trans (hb.mono B15.out.size))
            clear hb
            go_wp2_with fail
            go_ret
            exact ⟨rfl, BZ.out⟩
end Go.Proofs.Ytidhdalfcamhjaa
