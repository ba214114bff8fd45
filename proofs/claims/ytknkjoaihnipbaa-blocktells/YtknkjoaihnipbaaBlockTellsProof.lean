/-
  Proved: for every at, two, l the call BlockTells(at, two, l) returns true and leaves its arguments as they were (no condition).
  The frame of the proof follows the one that the guide's program lays for slices of integers; the opening of the arguments (BlockOpen) and the walk are by hand.
-/
import Derived.Test.YtknkjoaihnipbaaRows
import Derived.WalkKit
import Derived.ProofKit
import Derived.OpenShut
import Derived.ShutString
import Derived.ChangeOld
import Derived.Below
import Derived.Test.YtknkjoaihnipbaaBlockAwake
import Derived.Test.YtknkjoaihnipbaaBlockRef
import Derived.Test.YtknkjoaihnipbaaBlockRefLay
import Derived.Test.YtknkjoaihnipbaaBlockRefPieces
import Derived.Test.YtknkjoaihnipbaaBlockOpen
import Derived.Deep.RegionHeld3
namespace Go.Proofs.Ytknkjoaihnipbaa.blockTells
open Go.ChangeShapes Go.WideShapes Go.ChangeAt Go.RowKit
open BlockM StrM
set_option linter.unusedVariables false

theorem own : ownKnob Try.prog.godebug = none := by kernel_rfl
theorem laidOut : laidOutB Try.prog = true := by kernel_rfl

/-! ### STEP 1: THE WALK -/
set_option maxHeartbeats 4000000 in
set_option maxRecDepth 100000 in
theorem walk (p : Int) (A0 : Option Addr) (lb cb : Nat) (b : List UInt8) (A1 : Option Addr) (lf cf : Nat) (f : List UInt8) (a2 : Option Addr) (len2 cap2 : Nat) (l : List P) (w : World) (hp : p ≤ 9223372036854775807)
    (hlb : b.length = lb) (hcb : lb ≤ cb) (hb0 : SeesV w (.slice A0 lb cb) (bys b)) (hlf : f.length = lf) (hf0 : SeesV w (.slice A1 lf cf) (bys f)) (hl : l.length = len2) (hs : SeesP w (.slice a2 len2 cap2) l) (hpp : ∀ x ∈ l, x.p ≤ 9223372036854775807) :
    Calls Try.prog 3 #[.int .i64 p, .agg #[.slice A0 lb cb, .slice A1 lf cf], .slice a2 len2 cap2] w fun e w' => e = .returned (.bool true) ∧ Below w.heap.size w w' := by
  have FE := Lib.hid (fun W (hb : Below w.heap.size w W) => few_any _ l W (hs.later hb))
  have SB := Lib.hid (fun W (hb : Below w.heap.size w W) => hb0.later hb)
  have SF := Lib.hid (fun W (hb : Below w.heap.size w W) => hf0.later hb)
  have HS := Lib.hid hs
  have HLB := Lib.hid hlb
  have HLF := Lib.hid hlf
  have HL := Lib.hid hl
  have HPP := Lib.hid hpp
  clear hb0 hf0 hs hlb hlf hl hpp
  go_enter Try.func3, Try.ntmps3
  go_wp2_with fail
  go_quiet (fail)
  have B0 := Lib.hid (show Below w.heap.size w ((w.alloc (.cells #[.slice A0 lb cb, .slice A1 lf cf] 23)).drewN nq) from (below_made w _).trans ((below_drewN _ _).mono (below_made w _).size))
  generalize (w.alloc (.cells #[.slice A0 lb cb, .slice A1 lf cf] 23)).drewN nq = w0 at B0 ⊢
  by_cases h1 : 400 < lb
  · have h1' : (400 : Int) < (lb : Int) := by omega
    clear h1
    go_wp2_with fail
    refine (bawake_any _).mono ?_
    rintro e w' ⟨rfl, hb⟩
    have B1 := Lib.hid (B0.out.trans (hb.mono B0.out.size))
    clear hb
    go_wp2_with fail
    go_ret
    exact ⟨rfl, B1.out⟩
  · have h1' : decide ((400 : Int) < (lb : Int)) = false := by simp; omega
    have h1n : lb ≤ 400 := by omega
    clear h1
    by_cases h2 : 400 < lf
    · have h2' : (400 : Int) < (lf : Int) := by omega
      clear h2
      go_wp2_with fail
      refine (bawake_any _).mono ?_
      rintro e w' ⟨rfl, hb⟩
      have B1 := Lib.hid (B0.out.trans (hb.mono B0.out.size))
      clear hb
      go_wp2_with fail
      go_ret
      exact ⟨rfl, B1.out⟩
    · have h2' : decide ((400 : Int) < (lf : Int)) = false := by simp; omega
      have h2n : lf ≤ 400 := by omega
      clear h2
      go_wp2_with fail
      refine (FE.out _ B0.out).mono ?_
      rintro e w' ⟨⟨bl, rfl, hbl⟩, rfl⟩
      cases bl with
      | false =>
        clear hbl
        go_wp2_with fail
        refine (bawake_any _).mono ?_
        rintro e w' ⟨rfl, hb⟩
        have B1 := Lib.hid (B0.out.trans (hb.mono B0.out.size))
        clear hb
        go_wp2_with fail
        go_ret
        exact ⟨rfl, B1.out⟩
      | true =>
        have h60 : len2 ≤ 60 := by rw [← HL.out]; exact hbl rfl
        clear hbl
        have PI := Lib.hid (fun W (hb : Below w.heap.size w W) => pieces_any p A0 lb cb b W (SB.out W hb) HLB.out hcb (by omega) hp)
        have RP := Lib.hid (fun W (hb : Below w.heap.size w W) => rpieces_any p A0 lb cb b W (SB.out W hb) HLB.out (by omega))
        have LA := Lib.hid (fun W (hb : Below w.heap.size w W) => lay_any A1 lf cf f _ l W HLF.out (by omega) (SF.out W hb) (HS.out.later hb) HPP.out (by rw [HL.out]; omega))
        have RL := Lib.hid (fun W (hb : Below w.heap.size w W) => rlay_any A1 lf cf f _ l W HLF.out (by omega) (SF.out W hb) (HS.out.later hb) HPP.out (by rw [HL.out]; omega))
        unfold PiecesPost at PI RP
        rw [HLB.out] at PI RP
        have HPL := Lib.hid (show (pList p b).length ≤ 1000000 by
          have := pieces_len p.toNat b
          have := HLB.out
          unfold pList
          split
          · simp
          · split
            · simp
            · omega)
        generalize pErr p lb = er at *
        generalize pList p b = pl at *
        unfold LayPost at LA RL
        generalize lay f l = lf' at *
        clear hp hcb h1' h2' SB SF
        go_wp2_with fail
        refine (PI.out _ B0.out).mono ?_
        rintro e wa ⟨va, rfl, sa, ba⟩
        obtain ⟨aa, ca, rfl, -⟩ := id sa
        have BA := Lib.hid (B0.out.trans (ba.mono B0.out.size))
        have SA := Lib.hid sa
        clear sa ba B0
        go_wp2_with fail
        refine (RP.out _ BA.out).mono ?_
        rintro e wb ⟨vb, rfl, sb, bb⟩
        obtain ⟨ab, cb', rfl, -⟩ := id sb
        have BB := Lib.hid (BA.out.trans (bb.mono BA.out.size))
        have SA2 := Lib.hid (SA.out.later bb)
        have SB2 := Lib.hid sb
        clear sb bb BA SA
        go_wp2_with fail
        go_loopw [13] (fun i wr => ∃ k : Nat, k ≤ len2 ∧ i = .int .i64 (k : Int) ∧ Below wb.heap.size wb wr) (fun i _ => len2 - (intOf i).toNat)
        case atStart => exact ⟨0, Nat.zero_le _, rfl, Below.refl _ _⟩
        case round =>
          obtain ⟨k, hk, rfl, hB⟩ := hrel
          have HB := Lib.hid hB
          have BW := Lib.hid (BB.out.trans (hB.mono BB.out.size))
          clear hB
          by_cases hlt : k < len2
          · have hkl : k < l.length := by rw [HL.out]; exact hlt
            obtain ⟨g, off, A3, bc, rfl, hg, cc1, cc2, -⟩ := HS.out.cells hkl
            have hpk := HPP.out _ (List.getElem_mem hkl)
            generalize l[k] = u at *
            obtain ⟨q, bu⟩ := u
            simp only at cc1 cc2 hpk
            generalize bu.length = bl at *
            have RI := Lib.hid (show ∀ W, Below w.heap.size w W → Calls Try.prog 9 #[.agg #[.int .i64 q, .slice A3 bl bc]] W fun e W' => e = .returned (.bool (okN q bl)) ∧ Below W.heap.size W W' ∧ Below w.heap.size w W' from fun W hW => (right_any q A3 bl bc W hpk).mono fun e W' ⟨he, hb⟩ => ⟨he, hb, hW.trans (hb.mono hW.size)⟩)
            have RR := Lib.hid (show ∀ W, Below w.heap.size w W → Calls Try.prog 10 #[.agg #[.int .i64 q, .slice A3 bl bc]] W fun e W' => e = .returned (.bool (okN q bl)) ∧ Below W.heap.size W W' ∧ Below w.heap.size w W' from fun W hW => (rright_any q A3 bl bc W hpk).mono fun e W' ⟨he, hb⟩ => ⟨he, hb, hW.trans (hb.mono hW.size)⟩)
            generalize okN q bl = o at *
            have HC := Lib.hid (show ∀ W, Below w.heap.size w W → W.cell? ⟨g, off + k * 2, none⟩ = some (.int .i64 q) ∧ W.cell? ⟨g, off + k * 2 + 1, none⟩ = some (.slice A3 bl bc) from fun W hW => ⟨(hW.cell (p := ⟨g, off + k * 2, none⟩) hg).trans cc1, (hW.cell (p := ⟨g, off + k * 2 + 1, none⟩) hg).trans cc2⟩)
            have BD := Lib.hid BW.out.drew
            have hli : (k : Int) < (len2 : Int) := by omega
            obtain ⟨hc1, hc2⟩ := HC.out _ BW.out
            clear hpk cc1 cc2
            go_wp2_with fail
            go_region_held3 (fun W => W.cell? ⟨g, off + k * 2, none⟩ = some (.int .i64 q) ∧ W.cell? ⟨g, off + k * 2 + 1, none⟩ = some (.slice A3 bl bc))
              (first | go_keep | exact HC.out _ BD.out | exact HC.out _ hB1 | exact HC.out _ hB2 | fail)
              (first
                | (go_at_call 9; (first | (with_reducible refine (RI.out _ hB2).mono ?_) | (with_reducible refine (RI.out _ BD.out).mono ?_)); rintro e w1 ⟨rfl, hb1, hB1⟩)
                | (go_at_call 10; (first | (with_reducible refine (RR.out _ hB1).mono ?_) | (with_reducible refine (RR.out _ BD.out).mono ?_)); rintro e w2 ⟨rfl, hb2, hB2⟩))
            all_goals
              have T1 := HB.out.drew.trans (hb1.mono HB.out.drew.size)
              have B9 := Lib.hid (T1.trans (hb2.mono T1.size))
              clear T1 hb1 hb2 hB1 hB2
              go_wp2_with fail
              go_roundw
              case rel => exact ⟨k + 1, by omega, by go_num, B9.out⟩
              case measure => simp [intOf]; omega
          · have S1 := Lib.hid (SA2.out.later HB.out)
            have S2 := Lib.hid (SB2.out.later HB.out)
            clear SA2 SB2 HB
            go_wp2_with fail
            refine (pieces_same _ _ pl _ S1.out S2.out HPL.out).mono ?_
            rintro e wc ⟨rfl, bc⟩
            have BC := Lib.hid (BW.out.trans (bc.mono BW.out.size))
            clear bc BW S1 S2
            go_wp2_with fail
            refine (LA.out _ BC.out).mono ?_
            rintro e wd ⟨vd, rfl, sd, bd⟩
            have BD := Lib.hid (BC.out.trans (bd.mono BC.out.size))
            have SD := Lib.hid sd
            clear sd bd BC
            go_wp2_with fail
            refine (RL.out _ BD.out).mono ?_
            rintro e we ⟨ve, rfl, se, be⟩
            have BE := Lib.hid (BD.out.trans (be.mono BD.out.size))
            have SD2 := Lib.hid (SD.out.later be)
            have SE := Lib.hid se
            clear se be BD SD
            go_wp2_with fail
            refine (bytes_same' _ _ lf' _ SD2.out SE.out).mono ?_
            rintro e wg ⟨rfl, bg⟩
            have BG := Lib.hid (BE.out.trans (bg.mono BE.out.size))
            clear bg BE SD2 SE
            go_wp2_with fail
            refine (bawake_any _).mono ?_
            rintro e wh ⟨rfl, bh⟩
            have BH := Lib.hid (BG.out.trans (bh.mono BG.out.size))
            clear bh
            go_wp2_with fail
            go_ret
            exact ⟨rfl, BH.out⟩

/-! ### THE ROW's STEP: WRITTEN OUT: LEAVE IT -/
set_option maxRecDepth 100000 in
theorem lifted (os : Os) (started : os.Started) (H : Type) (enc : TypeId × Value → H) :
    ReturnsInHanded {} Try.checked os 3 .any (Rows.blockTellsSpec.pre6 enc Try.prog Try.f3 Rows.blockTellsRow.domain false) (Rows.blockTellsSpec.post enc Try.prog Try.f3 false true false false) := by
  refine returnsInHanded_of_change (C := Try.checked) own started (by kernel_rfl) Try.func3
    (ChangeSpec.witness6 (enc := enc) (C := Try.checked) false ⟨#[], #[.int .i64 0, .agg #[.slice none 0 0, .slice none 0 0], .slice none 0 0], []⟩ 8 (by kernel_rfl) (by kernel_rfl) (by kernel_rfl) (by kernel_rfl)) ?_
  intro W base args ds gs before hval0 hW hcnd _
  have hval : ∀ (j : Nat) t v, Try.f3.params[j]? = some t → args[j]? = some v → Value.okWide Try.prog W .any base t v := hval0
  have hW' := hW
  obtain ⟨p, q, hA0, hV, rfl, hfz, hnd⟩ := hW
  have hA : DataW.TrodAll enc Try.prog W 0 (fun _ => true) true Try.f3.params.toList args.toList ds p := hA0
  rw [Try.params3] at hA hval
  obtain ⟨v0, vs0, d0, ds0, p0, q0, hargs, rfl, rfl, h0, r0⟩ := trodAll_cons hA
  obtain ⟨v1, vs1, d1, ds1, p1, q1, rfl, rfl, rfl, h1, r1⟩ := trodAll_cons r0
  obtain ⟨v2, vs2, d2, ds2, p2, q2, rfl, rfl, rfl, h2, r2⟩ := trodAll_cons r1
  obtain ⟨rfl, rfl, rfl⟩ := trodAll_nil r2
  obtain rfl : args = #[v0, v1, v2] := by cases args; simp_all
  obtain ⟨rfl, rfl⟩ := trodVars_none hV
  obtain ⟨a0, rfl, rfl, rfl, w0⟩ := open_int Try.underlying3 (hval 0 3 v0 rfl rfl) h0
  obtain ⟨c0, c1, rfl⟩ := okWide_two (hval 1 23 v1 rfl rfl)
  have k1 := h1
  have lt1 : ∀ x ∈ p1, x.block < W.heap.size := by obtain ⟨m, hm⟩ := k1; exact DataW.trod_lt m _ _ _ hm
  obtain ⟨⟨b, A0, cb, hc0, hcb, hb0⟩, f, A1, cf, hc1, hcf, hf0⟩ : (∃ l, BytesIn W c0 l) ∧ ∃ l, BytesIn W c1 l := by
    obtain ⟨fuel, hf⟩ := h1
    exact two_in hf
  subst hc0 hc1
  obtain ⟨a2, len2, cap2, rfl⟩ := okWide_slice Try.underlying24 (hval 2 24 v2 rfl rfl)
  have k2 := h2
  have lt2 : ∀ x ∈ p2, x.block < W.heap.size := by obtain ⟨m, hm⟩ := k2; exact DataW.trod_lt m _ _ _ hm
  obtain ⟨l0, hl0, hs0, hf0'⟩ : ∃ l : List P, l.length = len2 ∧ SeesP W (.slice a2 len2 cap2) l ∧ ∀ v ∈ l, v.p ≤ 9223372036854775807 := by
    obtain ⟨fuel, hf⟩ := h2
    exact SeesP.of_arg hf
  have hp0 : a0 ≤ 9223372036854775807 := by
    simp [Lit.wf, IntKind.min, IntKind.max, IntKind.signed, IntKind.bits] at w0
    omega
  clear hA0 hval0
  refine (walk a0 A0 b.length cb b A1 f.length cf f a2 len2 cap2 l0 W hp0 rfl hcb hb0 rfl hf0 hl0 hs0 hf0').mono fun e W' ⟨he, bel⟩ => ?_
  subst he
  exact ⟨_, rfl, _, _, _, [], _, [], hW', trodAll_mk1 (shut_bool Try.underlying4 _), (trodAll_cons_mk (shut_int Try.underlying3 w0) (trodAll_cons_mk (Below.trod laidOut (by kernel_rfl) (of_decide_eq_true (by kernel_rfl)) k1 bel lt1) (trodAll_cons_mk (Below.trod laidOut (by kernel_rfl) (of_decide_eq_true (by kernel_rfl)) k2 bel lt2) trodAll_mk0))), rfl, bel.frame _, fun h => by cases h⟩

theorem over : Rows.blockTellsRow.holds Try.pinned (OpenSpec.ofChange Rows.blockTellsSpec) :=
  OpenClaim.holds_of_wide 3 Try.f3 rfl rfl rfl rfl rfl rfl rfl ⟨rfl, rfl, rfl, rfl, rfl⟩ rfl rfl rfl rfl rfl (by kernel_rfl) Try.func3 (by kernel_rfl)
    (of_decide_eq_true (by kernel_rfl)) (by unfold Func.isWrapper; first | (rw [if_pos (by decide +kernel)]; kernel_rfl) | (rw [if_neg (by decide +kernel)]; exact ⟨rfl, rfl⟩))
    (fun os started H enc _ => lifted os started H enc)

/-- ████ THE STATEMENT ████ -/
theorem proved : Rows.BlockTellsSaid := over
#print axioms proved
end Go.Proofs.Ytknkjoaihnipbaa.blockTells
