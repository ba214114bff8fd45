/-
  Proved: for every n, b and i the call VaryBack(n, b, i) returns true and leaves its arguments as they were (no condition).
  The frame of the proof was laid by the guide's program; the walk is by hand.
-/
import Derived.Test.YtlmjkgnmbiohmaaRows
import Derived.WalkKit
import Derived.ProofKit
import Derived.OpenShut
import Derived.ShutString
import Derived.ChangeOld
import Derived.Below
import Derived.Test.YtlmjkgnmbiohmaaVaryAwake
import Derived.Deep.RegionHeld3
import Derived.Test.YtlmjkgnmbiohmaaStillMore
namespace Go.Proofs.Ytlmjkgnmbiohmaa.varyBack
open Go.ChangeShapes Go.WideShapes Go.ChangeAt Go.RowKit
open Go.ChangeMaps (open_string shut_string)
set_option linter.unusedVariables false

theorem own : ownKnob Try.prog.godebug = none := by kernel_rfl
theorem laidOut : laidOutB Try.prog = true := by kernel_rfl

/-- WHAT THE WALK IS TOLD OF A SLICE OF INTEGERS THAT CAME IN: it is nil; or it leads to a row of 'cap' cells, the numbers 'zs' (the first 'len' are its elements, the rest its spare room), each fitting its kind. -/
def IsRow (k : IntKind) (w : World) (a : Option Addr) (len cap : Nat) (zs : List Int) : Prop :=
  (a = none ∧ len = 0 ∧ cap = 0 ∧ zs = []) ∨
  ∃ x, a = some x ∧ len ≤ cap ∧ cap ≤ maxLen ∧ zs.length = cap ∧ (∀ i, i < zs.length → w.cell? (x.add i) = some (.int k (zs.getD i 0))) ∧ ∀ n ∈ zs, (Lit.int k n).wf = true

/-! ### STEP 1: THE WALK: the Go text returns true, AND WRITES NOTHING THAT WAS THERE: 'Below w.heap.size w w'' (Derived/Below.lean: '.refl', '.alloc', '.drew', '.setCell' at a new block, '.trans'). Open each 'IsRow' by 'rcases' AHEAD of 'go_enter'; part every test ahead of the walk. -/
set_option maxHeartbeats 2000000 in
set_option maxRecDepth 100000 in
theorem walk (a0 : Int) (a1 : Option Addr) (len1 cap1 : Nat) (z1 : List Int) (a2 : Int) (w : World) (w0 : (Lit.int .u64 a0).wf = true) (w1 : IsRow .u8 w a1 len1 cap1 z1) (w2 : (Lit.int .i64 a2).wf = true) :
    Calls Try.prog 4 #[.int .u64 a0, .slice a1 len1 cap1, .int .i64 a2] w fun e w' => e = .returned (.bool true) ∧ Below w.heap.size w w' := by
  have hcap : len1 ≤ cap1 := by
    rcases id w1 with ⟨_, h1, h2, _⟩ | ⟨x, _, h, _⟩
    · omega
    · exact h
  obtain ⟨l, hl, hs⟩ := SeesV.of_bytes w1
  have HL := Lib.hid hl
  have HS := Lib.hid hs
  have hu : 0 ≤ a0 ∧ a0 ≤ 18446744073709551615 := by
    simp [Lit.wf, IntKind.min, IntKind.max, IntKind.signed, IntKind.bits] at w0
    omega
  have hi : -9223372036854775808 ≤ a2 ∧ a2 ≤ 9223372036854775807 := by
    simp [Lit.wf, IntKind.min, IntKind.max, IntKind.signed, IntKind.bits] at w2
    omega
  obtain ⟨n, rfl⟩ := Int.eq_ofNat_of_zero_le hu.1
  have HU := Lib.hid hu
  have HI := Lib.hid hi
  have HCAP := Lib.hid hcap
  clear w0 w1 w2 hl hs hu hi hcap
  by_cases h0 : 100 < len1
  · have h0' : (100 : Int) < (len1 : Int) := by omega
    clear h0
    go_enter Try.func4, Try.ntmps4
    go_wp2_with fail
    refine (vawake_any _).mono ?_
    rintro e w' ⟨rfl, hb⟩
    go_wp2_with fail
    go_ret
    exact ⟨rfl, hb⟩
  · have d0 : decide ((100 : Int) < (len1 : Int)) = false := by simp; omega
    have S0 := Lib.hid (show l.length ≤ 100 by rw [HL.out]; omega)
    have N0 := Lib.hid (show n < 18446744073709551616 by have := HU.out; omega)
    obtain ⟨pl, hpl⟩ : ∃ pl, pl = VaryM.putL n := ⟨_, rfl⟩
    have HPL := Lib.hid (show pl.length ≤ 10 by rw [hpl]; exact VaryM.putL_ten N0.out)
    have PUTN := Lib.hid (show ∀ w, Calls Try.prog 9 #[.int .u64 (n : Int)] w (EndPost pl w) from fun w => by rw [hpl]; exact vput_any n w N0.out)
    have TAKEN := Lib.hid (show takeE (pl ++ l) = .returned (.tuple #[.int .u64 (n : Int), .int .i64 (pl.length : Int), .int .i64 0]) from (takeE_of (by rw [hpl]; exact VaryM.take_put N0.out l) rfl (by rw [hpl]) rfl).symm)
    have ZZ := Lib.hid (show ∀ w, Calls Try.prog 13 #[.int .u64 (VaryM.zig a2)] w fun e w' => e = .returned (.int .i64 a2) ∧ w = w' from fun w => by
      have := zag_any (VaryM.zig a2) w (VaryM.zig_range HI.out.1 HI.out.2).1 (VaryM.zig_range HI.out.1 HI.out.2).2
      rwa [VaryM.zag_zig] at this)
    have YY := Lib.hid (show ∀ w, Calls Try.prog 11 #[.int .i64 (VaryM.zag (n : Int))] w fun e w' => e = .returned (.int .u64 (n : Int)) ∧ w = w' from fun w => by
      have := zig_any (VaryM.zag (n : Int)) w (VaryM.zag_range HU.out.1 HU.out.2).1 (VaryM.zag_range HU.out.1 HU.out.2).2
      rwa [VaryM.zig_zag HU.out.1] at this)
    clear h0 hpl
    go_enter Try.func4, Try.ntmps4
    go_wp2_with fail
    refine (PUTN.out _).mono ?_
    rintro e wa ⟨va, rfl, hoa, hba⟩
    obtain ⟨A, capA, rfl, _⟩ := own_slice hoa
    have SA := Lib.hid ((SeesV.of_own hoa).later (below_made wa (.cells #[] 5)))
    have BA := Lib.hid (hba.trans ((below_made wa (.cells #[] 5)).mono hba.size))
    have OA := Lib.hid (own_made wa 5)
    have hsz : wa.heap.size ≤ (wa.alloc (.cells #[] 5)).heap.size := (below_made wa _).size
    have hba0 := Lib.hid hba.size
    clear hoa hba
    go_wp2_with (at_builtin; refine append_all oneByte rfl (.tmp 21) (.tmp 22) rfl wa.heap.size _ _ _ rfl OA.out _ (bys pl) rfl SA.out (bys_ones _) ?a1 ?a2 ?a3 ?_)
    case a1 => have := HPL.out; rw [bys_len]; omega
    case a2 => have := HPL.out; rw [bys_len]; unfold maxLen; omega
    case a3 => exact hsz
    intro vb wb hob hbb
    have OB := Lib.hid (show wb.ownsRow wa.heap.size 5 1 vb pl.length (bys pl) by simpa [bys_len] using hob)
    have BB := Lib.hid (BA.out.trans (hbb.mono (Nat.le_trans hba0.out (Nat.le_refl _))))
    have HSB := Lib.hid (HS.out.later BB.out)
    have hszb : wa.heap.size ≤ wb.heap.size := Nat.le_trans hsz hbb.size
    clear hob hbb
    go_wp2_with (at_builtin; refine append_all oneByte rfl (.tmp 23) (.tmp 24) rfl wa.heap.size _ _ _ rfl OB.out _ (bys l) rfl HSB.out (bys_ones _) ?b1 ?b2 ?b3 ?_)
    case b1 => have := HPL.out; have := S0.out; rw [bys_len]; omega
    case b2 => have := HPL.out; have := S0.out; rw [bys_len]; unfold maxLen; omega
    case b3 => exact hszb
    intro vc wc hoc hbc
    have SC := Lib.hid (show SeesV wc vc (bys (pl ++ l)) by rw [bys_add]; exact SeesV.of_own hoc)
    have BC := Lib.hid (BB.out.trans (hbc.mono hba0.out))
    clear hoc hbc
    go_wp2_with fail
    refine (vtake_any _ (pl ++ l) _ SC.out (by have := HPL.out; have := S0.out; rw [List.length_append]; omega)).mono ?_
    rw [TAKEN.out]
    rintro e w' ⟨rfl, rfl⟩
    generalize pl.length = pn at *
    go_wp2_with fail
    refine (zig_any a2 _ HI.out.1 HI.out.2).mono ?_
    rintro e w' ⟨rfl, rfl⟩
    go_wp2_with fail
    refine (ZZ.out _).mono ?_
    rintro e w' ⟨rfl, rfl⟩
    go_wp2_with fail
    refine (zag_any (n : Int) _ HU.out.1 HU.out.2).mono ?_
    rintro e w' ⟨rfl, rfl⟩
    go_wp2_with fail
    refine (YY.out _).mono ?_
    rintro e w' ⟨rfl, rfl⟩
    go_wp2_with fail
    refine (vtake_any _ l _ (HS.out.later BC.out) (by have := S0.out; omega)).mono ?_
    obtain ⟨t, ht⟩ : ∃ t, t = VaryM.takeL l := ⟨_, rfl⟩
    have he : takeE l = .returned (.tuple #[.int .u64 (t.1 : Int), .int .i64 (t.2.1 : Int), .int .i64 (t.2.2 : Int)]) := by rw [takeE, ht]
    have herr : t.2.2 = 0 ∨ t.2.2 = 11 ∨ t.2.2 = 12 := by rw [ht]; exact VaryM.takeF_err l 0 0
    have hlt : t.1 < 18446744073709551616 := by rw [ht]; exact VaryM.takeL_lt l
    obtain ⟨u, x, f⟩ := t
    have hf : ((f : Int) = 0 ∧ f = 0) ∨ (f : Int) = 11 ∨ (f : Int) = 12 := by
      have : f = 0 ∨ f = 11 ∨ f = 12 := herr
      omega
    have HT := Lib.hid ht
    rw [he]
    clear he ht herr
    rintro e w' ⟨rfl, rfl⟩
    have hlt' : u < 18446744073709551616 := hlt
    clear hlt
    generalize hfi : (f : Int) = fi at hf ⊢
    clear hfi
    rcases hf with ⟨rfl, rfl⟩ | rfl | rfl
    · obtain ⟨hx1, hxl, hput⟩ := VaryM.take_back HT.out.symm
      have hxl' : x ≤ len1 := by rw [← HL.out]; exact hxl
      obtain ⟨A', hcut, hsee⟩ := cut_h HS.out HCAP.out hxl'
      have PUTU := Lib.hid (show ∀ W, Below w.heap.size w W → Calls Try.prog 9 #[.int .u64 (u : Int)] W fun e W' => ∃ v, e = .returned v ∧ SeesV W' v (bys (l.take x)) ∧ Below w.heap.size w W' from fun W hW => by
        refine (vput_any u W hlt').mono ?_
        rintro e W' ⟨v, rfl, ho, hb⟩
        rw [hput] at ho
        exact ⟨v, rfl, SeesV.of_own ho, hW.trans (hb.mono hW.size)⟩)
      have CUT := Lib.hid hsee
      have x1 : (1 : Int) ≤ (x : Int) := by omega
      have x2 : (x : Int) ≤ (len1 : Int) := by omega
      clear hx1 hxl hput hsee hlt'
      go_wp2_with fail
      go_region_held3 (fun _ => True) (trivial)
        (first
          | (go_at_call 9; ((with_reducible refine (PUTU.out _ BC.out.drew).mono ?_)); rintro e wd ⟨vd, rfl, hsd, hbd⟩)
          | (go_at_call 8; ((with_reducible refine (bytes_same _ _ (l.take x) _ hsd (CUT.out.later hbd)).mono ?_)); rintro e w' ⟨rfl, rfl⟩)
          | (go_at_call 5; ((with_reducible refine (vawake_any _).mono ?_)); rintro e we ⟨rfl, hbe⟩))
      have BE := Lib.hid (hbd.trans (hbe.mono hbd.size))
      clear hbe hbd hsd
      go_wp2_with fail
      go_ret
      exact ⟨rfl, BE.out⟩
    · go_wp2_with fail
      refine wp_region_still_tail 21 (by kernel_rfl) (by kernel_rfl) ?_
      simp only [List.take_succ_cons, List.take_zero, List.drop_succ_cons, List.drop_zero]
      with_reducible refine wpStill_val (.int .i64 11) (by kernel_rfl) (by kernel_rfl) ?_
      with_reducible refine wpStill_val (.bool true) (by kernel_rfl) (by kernel_rfl) ?_
      with_reducible refine wpStill_val (.bool true) (by kernel_rfl) (by kernel_rfl) ?_
      iterate 16 with_reducible refine wpStill_skip (by kernel_rfl) ?_
      with_reducible refine wpStill_val (.bool true) (by kernel_rfl) (by kernel_rfl) ?_
      with_reducible refine wpStill_val (.bool true) (by kernel_rfl) (by kernel_rfl) ?_
      with_reducible refine wpStill_nil ?_
      simp only [Act.put, List.setIfInBounds_toArray, List.set_cons_zero, List.set_cons_succ]
      change wpList _ _ _ _ _ wc.drew
      go_wp2_with fail
      refine (vawake_any _).mono ?_
      rintro e we ⟨rfl, hbe⟩
      have BE := Lib.hid (BC.out.drew.trans (hbe.mono BC.out.drew.size))
      clear hbe
      go_wp2_with fail
      go_ret
      exact ⟨rfl, BE.out⟩
    · go_wp2_with fail
      refine wp_region_still_tail 21 (by kernel_rfl) (by kernel_rfl) ?_
      simp only [List.take_succ_cons, List.take_zero, List.drop_succ_cons, List.drop_zero]
      with_reducible refine wpStill_val (.int .i64 12) (by kernel_rfl) (by kernel_rfl) ?_
      with_reducible refine wpStill_val (.bool true) (by kernel_rfl) (by kernel_rfl) ?_
      with_reducible refine wpStill_val (.bool true) (by kernel_rfl) (by kernel_rfl) ?_
      iterate 16 with_reducible refine wpStill_skip (by kernel_rfl) ?_
      with_reducible refine wpStill_val (.bool true) (by kernel_rfl) (by kernel_rfl) ?_
      with_reducible refine wpStill_val (.bool true) (by kernel_rfl) (by kernel_rfl) ?_
      with_reducible refine wpStill_nil ?_
      simp only [Act.put, List.setIfInBounds_toArray, List.set_cons_zero, List.set_cons_succ]
      change wpList _ _ _ _ _ wc.drew
      go_wp2_with fail
      refine (vawake_any _).mono ?_
      rintro e we ⟨rfl, hbe⟩
      have BE := Lib.hid (BC.out.drew.trans (hbe.mono BC.out.drew.size))
      clear hbe
      go_wp2_with fail
      go_ret
      exact ⟨rfl, BE.out⟩

/-! ### THE ROW's STEP: WRITTEN OUT: LEAVE IT -/
set_option maxRecDepth 100000 in
theorem lifted (os : Os) (started : os.Started) (H : Type) (enc : TypeId × Value → H) :
    ReturnsInHanded {} Try.checked os 4 .any (Rows.varyBackSpec.pre6 enc Try.prog Try.f4 Rows.varyBackRow.domain false) (Rows.varyBackSpec.post enc Try.prog Try.f4 false true false false) := by
  refine returnsInHanded_of_change (C := Try.checked) own started (by kernel_rfl) Try.func4
    (ChangeSpec.witness6 (enc := enc) (C := Try.checked) false ⟨#[], #[.int .u64 0, .slice none 0 0, .int .i64 0], []⟩ 8 (by kernel_rfl) (by kernel_rfl) (by kernel_rfl) (by kernel_rfl)) ?_
  intro W base args ds gs before hval0 hW hcnd _
  have hval : ∀ (j : Nat) t v, Try.f4.params[j]? = some t → args[j]? = some v → Value.okWide Try.prog W .any base t v := hval0
  have hW' := hW
  obtain ⟨p, q, hA0, hV, rfl, hfz, hnd⟩ := hW
  have hA : DataW.TrodAll enc Try.prog W 0 (fun _ => true) true Try.f4.params.toList args.toList ds p := hA0
  rw [Try.params4] at hA hval
  obtain ⟨v0, vs0, d0, ds0, p0, q0, hargs, rfl, rfl, h0, r0⟩ := trodAll_cons hA
  obtain ⟨v1, vs1, d1, ds1, p1, q1, rfl, rfl, rfl, h1, r1⟩ := trodAll_cons r0
  obtain ⟨v2, vs2, d2, ds2, p2, q2, rfl, rfl, rfl, h2, r2⟩ := trodAll_cons r1
  obtain ⟨rfl, rfl, rfl⟩ := trodAll_nil r2
  obtain rfl : args = #[v0, v1, v2] := by cases args; simp_all
  obtain ⟨rfl, rfl⟩ := trodVars_none hV
  obtain ⟨a0, rfl, rfl, rfl, w0⟩ := open_int Try.underlying22 (hval 0 22 v0 rfl rfl) h0
  obtain ⟨a1, len1, cap1, rfl⟩ := okWide_slice Try.underlying23 (hval 1 23 v1 rfl rfl)
  have k1 := h1
  have lt1 : ∀ x ∈ p1, x.block < W.heap.size := by obtain ⟨m, hm⟩ := k1; exact DataW.trod_lt m _ _ _ hm
  obtain ⟨z1, w1⟩ : ∃ zs, IsRow .u8 W a1 len1 cap1 zs := by
    obtain ⟨fuel, hf⟩ := h1
    rcases open_ints Try.underlying23 Try.underlying5 (by kernel_rfl) hf with ⟨hcs, _⟩ | ⟨x, l, c, zs, hcs, _, hl, hm, hz, _, hcell, hwz⟩
    · simp [Value.cells] at hcs
      obtain ⟨rfl, rfl, rfl⟩ := hcs
      exact ⟨[], .inl ⟨rfl, rfl, rfl, rfl⟩⟩
    · simp [Value.cells] at hcs
      obtain ⟨rfl, rfl, rfl⟩ := hcs
      exact ⟨zs, .inr ⟨_, rfl, hl, hm, by simpa using hz, hcell, hwz⟩⟩
  obtain ⟨a2, rfl, rfl, rfl, w2⟩ := open_int Try.underlying2 (hval 2 2 v2 rfl rfl) h2
  clear hA0 hval0
  refine (walk a0 a1 len1 cap1 z1 a2 W w0 w1 w2).mono fun e W' ⟨he, bel⟩ => ?_
  subst he
  exact ⟨_, rfl, _, _, _, [], _, [], hW', trodAll_mk1 (shut_bool Try.underlying4 _), (trodAll_cons_mk (shut_int Try.underlying22 w0) (trodAll_cons_mk (Below.trod laidOut (by kernel_rfl) (of_decide_eq_true (by kernel_rfl)) k1 bel lt1) (trodAll_cons_mk (shut_int Try.underlying2 w2) trodAll_mk0))), rfl, bel.frame _, fun h => by cases h⟩

theorem over : Rows.varyBackRow.holds Try.pinned (OpenSpec.ofChange Rows.varyBackSpec) :=
  OpenClaim.holds_of_wide 4 Try.f4 rfl rfl rfl rfl rfl rfl rfl ⟨rfl, rfl, rfl, rfl, rfl⟩ rfl rfl rfl rfl rfl (by kernel_rfl) Try.func4 (by kernel_rfl)
    (of_decide_eq_true (by kernel_rfl)) (by unfold Func.isWrapper; first | (rw [if_pos (by decide +kernel)]; kernel_rfl) | (rw [if_neg (by decide +kernel)]; exact ⟨rfl, rfl⟩))
    (fun os started H enc _ => lifted os started H enc)

/-- ████ THE STATEMENT ████ -/
theorem proved : Rows.VaryBackSaid := over
#print axioms proved
end Go.Proofs.Ytlmjkgnmbiohmaa.varyBack
