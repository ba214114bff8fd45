/-
  Proved: for every l and b the call CodeBack(l, b) returns true and leaves its arguments as they were (no condition).
  The frame of the proof follows the one that the guide's program lays for slices of integers; the opening of a slice of values (CodeOpen) and the walk are by hand.
-/
import Derived.Test.YtnjnlbcbdhdipaaRows
import Derived.WalkKit
import Derived.ProofKit
import Derived.OpenShut
import Derived.ShutString
import Derived.ChangeOld
import Derived.Below
import Derived.Test.YtnjnlbcbdhdipaaCodeAwake
import Derived.Test.YtnjnlbcbdhdipaaCodeRefPut
import Derived.Test.YtnjnlbcbdhdipaaCodeOpen
namespace Go.Proofs.Ytnjnlbcbdhdipaa.codeBack
open Go.ChangeShapes Go.WideShapes Go.ChangeAt Go.RowKit
open Go.ChangeMaps (open_string shut_string)
open CodeM
set_option linter.unusedVariables false

theorem own : ownKnob Try.prog.godebug = none := by kernel_rfl
theorem laidOut : laidOutB Try.prog = true := by kernel_rfl

/-- WHAT THE WALK IS TOLD OF A SLICE OF INTEGERS THAT CAME IN: it is nil; or it leads to a row of 'cap' cells, the numbers 'zs' (the first 'len' are its elements, the rest its spare room), each fitting its kind. -/
def IsRow (k : IntKind) (w : World) (a : Option Addr) (len cap : Nat) (zs : List Int) : Prop :=
  (a = none ∧ len = 0 ∧ cap = 0 ∧ zs = []) ∨
  ∃ x, a = some x ∧ len ≤ cap ∧ cap ≤ maxLen ∧ zs.length = cap ∧ (∀ i, i < zs.length → w.cell? (x.add i) = some (.int k (zs.getD i 0))) ∧ ∀ n ∈ zs, (Lit.int k n).wf = true

/-! ### STEP 1: THE WALK -/
set_option maxHeartbeats 4000000 in
set_option maxRecDepth 100000 in
theorem walk (a0 : Option Addr) (len0 cap0 : Nat) (l : List V) (a1 : Option Addr) (len1 cap1 : Nat) (z1 : List Int) (w : World) (hl : l.length = len0) (hs : SeesS w (.slice a0 len0 cap0) l) (hf : ∀ v ∈ l, Fits v) (w1 : IsRow .u8 w a1 len1 cap1 z1) :
    Calls Try.prog 5 #[.slice a0 len0 cap0, .slice a1 len1 cap1] w fun e w' => e = .returned (.bool true) ∧ Below w.heap.size w w' := by
  have hcap : len1 ≤ cap1 := by
    rcases id w1 with ⟨_, h1, h2, _⟩ | ⟨x, _, h, _⟩
    · omega
    · exact h
  obtain ⟨bl, hbl, hsb⟩ := SeesV.of_bytes w1
  have HSL := Lib.hid hs
  have HSB := Lib.hid hsb
  have HBL := Lib.hid hbl
  have HLL := Lib.hid hl
  have HFI := Lib.hid hf
  have HCAP := Lib.hid hcap
  have LO := Lib.hid (long_any _ l w hs)
  have PU := Lib.hid (puts_any _ l w hs hf)
  clear hs hf hl hsb hbl hcap w1
  go_enter Try.func5, Try.ntmps5
  go_wp2_with fail
  refine (LO.out).mono ?_
  rintro e w' ⟨⟨bb, rfl, hbb⟩, rfl⟩
  by_cases hlong : bb = true ∨ 2000 < len1
  · have hgo : bb = true ∨ (bb = false ∧ (2000 : Int) < (len1 : Int)) := by
      cases bb with
      | true => exact .inl rfl
      | false => right; refine ⟨rfl, ?_⟩; simp at hlong; omega
    clear hlong hbb
    rcases hgo with rfl | ⟨rfl, h2⟩
    · go_wp2_with fail
      refine (cawake_any _).mono ?_
      rintro e w' ⟨rfl, hb⟩
      go_wp2_with fail
      go_ret
      exact ⟨rfl, hb⟩
    · go_wp2_with fail
      refine (cawake_any _).mono ?_
      rintro e w' ⟨rfl, hb⟩
      go_wp2_with fail
      go_ret
      exact ⟨rfl, hb⟩
  · have hb0 : bb = false := by cases bb <;> simp_all
    subst hb0
    have d0 : decide ((2000 : Int) < (len1 : Int)) = false := by simp; simp at hlong; omega
    have HL := Lib.hid (hbb rfl)
    have h2000 : len1 ≤ 2000 := by simp at hlong; exact hlong
    have SB0 := Lib.hid (show bl.length ≤ 2000 by rw [HBL.out]; exact h2000)
    clear hbb hlong
    -- what Take of b gives
    obtain ⟨R, hR0⟩ : ∃ R, R = CodeM.take bl := ⟨_, rfl⟩
    obtain ⟨m, x, f⟩ := R
    have TAKEB := Lib.hid (fun W (hb : Below w.heap.size w W) => takes_any _ _ _ bl W (HSB.out.later hb) HCAP.out (by omega))
    unfold TakePost at TAKEB
    rw [← hR0] at TAKEB
    have TE := Lib.hid (show f ≠ 0 → ∀ W, Below w.heap.size w W → Calls Try.prog 13 #[.slice a1 len1 cap1] W fun e W' => ∃ A c fi, fi = (f : Int) ∧ e = .returned (.tuple #[.slice A 0 c, .int .i64 0, .int .i64 fi]) ∧ Below w.heap.size w W' from fun hf0 W hW => by
      refine (TAKEB.out W hW).mono ?_
      rintro e W' ⟨v, rfl, ho, hb⟩
      obtain ⟨h1, h2⟩ := CodeM.take_zero hR0.symm hf0
      simp only [h1, h2] at ho ⊢
      rcases ho.2 with ⟨rfl, _⟩ | ⟨g, c, cur, rfl, _⟩
      · exact ⟨none, 0, _, rfl, rfl, hW.trans (hb.mono hW.size)⟩
      · exact ⟨_, c, _, rfl, rfl, hW.trans (hb.mono hW.size)⟩)
    have TO := Lib.hid (show f = 0 → ∀ W, Below w.heap.size w W → Calls Try.prog 13 #[.slice a1 len1 cap1] W fun e W' => ∃ v, e = .returned (.tuple #[v, .int .i64 (x : Int), .int .i64 0]) ∧ SeesS W' v m ∧ Below w.heap.size w W' from fun hf0 W hW => by
      refine (TAKEB.out W hW).mono ?_
      rintro e W' ⟨v, rfl, ho, hb⟩
      subst hf0
      exact ⟨v, rfl, SeesS.of_own ho, hW.trans (hb.mono hW.size)⟩)
    have XX := Lib.hid (show f = 0 → x ≤ len1 ∧ right m = true ∧ (∀ v ∈ m, Fits v) ∧ put m = bl.take x from fun hf0 => by
      subst hf0
      obtain ⟨h1, h2, h3, h4⟩ := CodeM.take_back hR0.symm
      exact ⟨by rw [← HBL.out]; exact h3, h1, h2, h4⟩)
    have PM := Lib.hid (show f = 0 → ∀ W v, SeesS W v m → Calls Try.prog 8 #[v] W fun e W' => ∃ p, e = .returned (.tuple #[p, .int .i64 0]) ∧ SeesV W' p (bys (bl.take x)) ∧ Below W.heap.size W W' from fun hf0 W v hv => by
      obtain ⟨_, h1, h2, h4⟩ := XX.out hf0
      refine (puts_any v m W hv h2).mono ?_
      rintro e W' ⟨p, rfl, ho, hb⟩
      rw [h1] at ho ⊢
      simp only [if_true] at ho ⊢
      rw [h4] at ho
      exact ⟨p, rfl, SeesV.of_own ho, hb⟩)
    have RM := Lib.hid (show f = 0 → ∀ W v, SeesS W v m → Calls Try.prog 10 #[v] W fun e W' => e = .returned (.bool true) ∧ Below W.heap.size W W' from fun hf0 W v hv => by
      obtain ⟨_, h1, _, _⟩ := XX.out hf0
      have := rights_any v m W hv
      rw [h1] at this
      exact this)
    clear TAKEB hR0
    unfold PutPost at PU
    cases hR : right l
    case' false =>
      rw [hR] at PU
      simp only [Bool.false_eq_true, if_false] at PU
      clear hR
      go_wp2_with fail
      refine (PU.out).mono ?_
      rintro e wz ⟨vz, rfl, rfl, hbz⟩
      have BZ := Lib.hid hbz
      clear hbz
    case' true =>
      have HR := Lib.hid hR
      rw [hR] at PU
      simp only [if_true] at PU
      obtain ⟨pl, hpl⟩ : ∃ pl, pl = put l := ⟨_, rfl⟩
      rw [← hpl] at PU
      have HPL := Lib.hid (show pl.length ≤ 5000000 by rw [hpl]; exact put_len hR HFI.out)
      have TP := Lib.hid (show CodeM.take (pl ++ bl) = (l, pl.length, 0) by rw [hpl]; exact take_put hR HFI.out bl)
      clear hR hpl
      go_wp2_with fail
      refine (PU.out).mono ?_
      rintro e wa ⟨va, rfl, hoa, hba⟩
      obtain ⟨A, capA, rfl, _⟩ := own_slice hoa
      have SA := Lib.hid ((SeesV.of_own hoa).later (below_made wa (.cells #[] 5)))
      have BA := Lib.hid (hba.trans ((below_made wa (.cells #[] 5)).mono hba.size))
      have OA := Lib.hid (own_made wa 5)
      have hsz : wa.heap.size ≤ (wa.alloc (.cells #[] 5)).heap.size := (below_made wa _).size
      have hba0 := Lib.hid hba.size
      clear hoa hba
      go_wp2_with (at_builtin; refine append_all oneByte rfl (.tmp 31) (.tmp 32) rfl wa.heap.size _ _ _ rfl OA.out _ (bys pl) rfl SA.out (bys_ones _) ?a1 ?a2 ?a3 ?_)
      case a1 => have := HPL.out; rw [bys_len]; omega
      case a2 => have := HPL.out; rw [bys_len]; unfold maxLen; omega
      case a3 => exact hsz
      intro vb wb hob hbb
      have OB := Lib.hid (show wb.ownsRow wa.heap.size 5 1 vb pl.length (bys pl) by simpa [bys_len] using hob)
      have BB := Lib.hid (BA.out.trans (hbb.mono (Nat.le_trans hba0.out (Nat.le_refl _))))
      have HSB2 := Lib.hid (HSB.out.later BB.out)
      have hszb : wa.heap.size ≤ wb.heap.size := Nat.le_trans hsz hbb.size
      clear hob hbb
      go_wp2_with (at_builtin; refine append_all oneByte rfl (.tmp 33) (.tmp 34) rfl wa.heap.size _ _ _ rfl OB.out _ (bys bl) rfl HSB2.out (bys_ones _) ?b1 ?b2 ?b3 ?_)
      case b1 => have := HPL.out; have := SB0.out; rw [bys_len]; omega
      case b2 => have := HPL.out; have := SB0.out; rw [bys_len]; unfold maxLen; omega
      case b3 => exact hszb
      intro vc wc hoc hbc
      have SC := Lib.hid (show SeesV wc vc (bys (pl ++ bl)) by rw [bys_add]; exact SeesV.of_own hoc)
      have BC := Lib.hid (BB.out.trans (hbc.mono hba0.out))
      have CAPC := Lib.hid (own_slice hoc)
      obtain ⟨AC, capC, rfl, hcapC⟩ := CAPC.out
      have TKC := Lib.hid (takes_any _ _ _ (pl ++ bl) _ SC.out hcapC (by have := HPL.out; have := SB0.out; rw [bys_len]; omega))
      unfold TakePost at TKC
      rw [TP.out] at TKC
      have HPLI := Lib.hid (show (pl.length : Int) ≤ 5000000 by have := HPL.out; omega)
      clear hoc hbc CAPC hcapC SA SC
      generalize pl.length = pn at *
      go_wp2_with fail
      refine (TKC.out).mono ?_
      rintro e wd ⟨vd, rfl, hod, hbd⟩
      have SD := Lib.hid (SeesS.of_own hod)
      have BD := Lib.hid (BC.out.trans (hbd.mono BC.out.size))
      clear hod hbd
      go_wp2_with fail
      refine (vals_same _ _ l _ SD.out (HSL.out.later BD.out) (by have := HL.out; omega)).mono ?_
      rintro e wz ⟨rfl, hbz⟩
      have BZ := Lib.hid (BD.out.trans (hbz.mono BD.out.size))
      clear hbz
    all_goals
      clear PU
      go_wp2_with fail
      cases hE : decide (f = 0)
      case' false =>
        have hf0 : f ≠ 0 := by simpa using hE
        clear hE
        refine (TE.out hf0 _ BZ.out).mono ?_
        rintro e wt ⟨At, capt, fi, hfi, rfl, hbt⟩
        have fi1 : ¬ fi = 0 := by rw [hfi]; omega
        have fi2 : (fi == 0) = false := by simpa using fi1
        have fi3 : (fi != 0) = true := by simpa using fi1
        have BT := Lib.hid hbt
        clear hbt hfi hf0
        go_wp2_with fail
        refine (cawake_any _).mono ?_
        rintro e we ⟨rfl, hbe⟩
        have BE := Lib.hid (BT.out.trans (hbe.mono BT.out.size))
        clear hbe
        go_wp2_with fail
        go_ret
        exact ⟨rfl, BE.out⟩
      case' true =>
        have hf0 : f = 0 := by simpa using hE
        have XL := Lib.hid (XX.out hf0)
        have hx1 : x ≤ len1 := XL.out.1
        have hx2 : (0 : Int) ≤ (x : Int) := by omega
        have hx3 : (x : Int) ≤ (len1 : Int) := by omega
        obtain ⟨A', hcut, hsee⟩ := cut_h HSB.out HCAP.out hx1
        have CUT := Lib.hid hsee
        clear hE hsee
        refine (TO.out hf0 _ BZ.out).mono ?_
        rintro e wt ⟨vt, rfl, hst, hbt⟩
        have ST := Lib.hid hst
        have BT := Lib.hid hbt
        clear hbt hst
        go_wp2_with fail
        refine (PM.out hf0 _ _ ST.out).mono ?_
        rintro e wp ⟨vp, rfl, hsp, hbp⟩
        have SP := Lib.hid hsp
        have ST2 := Lib.hid (ST.out.later hbp)
        have BP := Lib.hid (BT.out.trans (hbp.mono BT.out.size))
        clear hsp hbp ST BT
        go_wp2_with fail
        refine (RM.out hf0 _ _ ST2.out).mono ?_
        rintro e wq ⟨rfl, hbq⟩
        have SP2 := Lib.hid (SP.out.later hbq)
        have BQ := Lib.hid (BP.out.trans (hbq.mono BP.out.size))
        clear hbq SP ST2 BP
        go_wp2_with fail
        refine (bytes_same' _ _ (bl.take x) _ SP2.out (CUT.out.later BQ.out)).mono ?_
        rintro e wf ⟨rfl, hbf⟩
        have BF := Lib.hid (BQ.out.trans (hbf.mono BQ.out.size))
        clear hbf BQ SP2
        go_wp2_with fail
        refine (cawake_any _).mono ?_
        rintro e we ⟨rfl, hbe⟩
        have BE := Lib.hid (BF.out.trans (hbe.mono BF.out.size))
        clear hbe
        go_wp2_with fail
        go_ret
        exact ⟨rfl, BE.out⟩

/-! ### THE ROW's STEP: WRITTEN OUT: LEAVE IT -/
set_option maxRecDepth 100000 in
theorem lifted (os : Os) (started : os.Started) (H : Type) (enc : TypeId × Value → H) :
    ReturnsInHanded {} Try.checked os 5 .any (Rows.codeBackSpec.pre6 enc Try.prog Try.f5 Rows.codeBackRow.domain false) (Rows.codeBackSpec.post enc Try.prog Try.f5 false true false false) := by
  refine returnsInHanded_of_change (C := Try.checked) own started (by kernel_rfl) Try.func5
    (ChangeSpec.witness6 (enc := enc) (C := Try.checked) false ⟨#[], #[.slice none 0 0, .slice none 0 0], []⟩ 8 (by kernel_rfl) (by kernel_rfl) (by kernel_rfl) (by kernel_rfl)) ?_
  intro W base args ds gs before hval0 hW hcnd _
  have hval : ∀ (j : Nat) t v, Try.f5.params[j]? = some t → args[j]? = some v → Value.okWide Try.prog W .any base t v := hval0
  have hW' := hW
  obtain ⟨p, q, hA0, hV, rfl, hfz, hnd⟩ := hW
  have hA : DataW.TrodAll enc Try.prog W 0 (fun _ => true) true Try.f5.params.toList args.toList ds p := hA0
  rw [Try.params5] at hA hval
  obtain ⟨v0, vs0, d0, ds0, p0, q0, hargs, rfl, rfl, h0, r0⟩ := trodAll_cons hA
  obtain ⟨v1, vs1, d1, ds1, p1, q1, rfl, rfl, rfl, h1, r1⟩ := trodAll_cons r0
  obtain ⟨rfl, rfl, rfl⟩ := trodAll_nil r1
  obtain rfl : args = #[v0, v1] := by cases args; simp_all
  obtain ⟨rfl, rfl⟩ := trodVars_none hV
  obtain ⟨a0, len0, cap0, rfl⟩ := okWide_slice Try.underlying22 (hval 0 22 v0 rfl rfl)
  have k0 := h0
  have lt0 : ∀ x ∈ p0, x.block < W.heap.size := by obtain ⟨m, hm⟩ := k0; exact DataW.trod_lt m _ _ _ hm
  obtain ⟨l0, hl0, hs0, hf0⟩ : ∃ l : List V, l.length = len0 ∧ SeesS W (.slice a0 len0 cap0) l ∧ ∀ v ∈ l, Fits v := by
    obtain ⟨fuel, hf⟩ := h0
    exact SeesS.of_arg hf
  obtain ⟨a1, len1, cap1, rfl⟩ := okWide_slice Try.underlying25 (hval 1 25 v1 rfl rfl)
  have k1 := h1
  have lt1 : ∀ x ∈ p1, x.block < W.heap.size := by obtain ⟨m, hm⟩ := k1; exact DataW.trod_lt m _ _ _ hm
  obtain ⟨z1, w1⟩ : ∃ zs, IsRow .u8 W a1 len1 cap1 zs := by
    obtain ⟨fuel, hf⟩ := h1
    rcases open_ints Try.underlying25 Try.underlying5 (by kernel_rfl) hf with ⟨hcs, _⟩ | ⟨x, l, c, zs, hcs, _, hl, hm, hz, _, hcell, hwz⟩
    · simp [Value.cells] at hcs
      obtain ⟨rfl, rfl, rfl⟩ := hcs
      exact ⟨[], .inl ⟨rfl, rfl, rfl, rfl⟩⟩
    · simp [Value.cells] at hcs
      obtain ⟨rfl, rfl, rfl⟩ := hcs
      exact ⟨zs, .inr ⟨_, rfl, hl, hm, by simpa using hz, hcell, hwz⟩⟩
  clear hA0 hval0
  refine (walk a0 len0 cap0 l0 a1 len1 cap1 z1 W hl0 hs0 hf0 w1).mono fun e W' ⟨he, bel⟩ => ?_
  subst he
  exact ⟨_, rfl, _, _, _, [], _, [], hW', trodAll_mk1 (shut_bool Try.underlying4 _), (trodAll_cons_mk (Below.trod laidOut (by kernel_rfl) (of_decide_eq_true (by kernel_rfl)) k0 bel lt0) (trodAll_cons_mk (Below.trod laidOut (by kernel_rfl) (of_decide_eq_true (by kernel_rfl)) k1 bel lt1) trodAll_mk0)), rfl, bel.frame _, fun h => by cases h⟩

theorem over : Rows.codeBackRow.holds Try.pinned (OpenSpec.ofChange Rows.codeBackSpec) :=
  OpenClaim.holds_of_wide 5 Try.f5 rfl rfl rfl rfl rfl rfl rfl ⟨rfl, rfl, rfl, rfl, rfl⟩ rfl rfl rfl rfl rfl (by kernel_rfl) Try.func5 (by kernel_rfl)
    (of_decide_eq_true (by kernel_rfl)) (by unfold Func.isWrapper; first | (rw [if_pos (by decide +kernel)]; kernel_rfl) | (rw [if_neg (by decide +kernel)]; exact ⟨rfl, rfl⟩))
    (fun os started H enc _ => lifted os started H enc)

/-- ████ THE STATEMENT ████ -/
theorem proved : Rows.CodeBackSaid := over
#print axioms proved
end Go.Proofs.Ytnjnlbcbdhdipaa.codeBack
