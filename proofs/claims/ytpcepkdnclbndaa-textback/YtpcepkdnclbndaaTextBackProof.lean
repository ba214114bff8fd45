/-
  Proved: for every s and c the call TextBack(s, c) returns true and leaves its arguments as they were (no condition).
  The frame of the proof was laid by the guide's program; the walk is by hand.
-/
import Derived.Test.YtpcepkdnclbndaaRows
import Derived.WalkKit
import Derived.ProofKit
import Derived.OpenShut
import Derived.ShutString
import Derived.Test.YtpcepkdnclbndaaStrBack
namespace Go.Proofs.Ytpcepkdnclbndaa.textBack
open Go.ChangeShapes Go.WideShapes Go.ChangeAt Go.RowKit
open Go.ChangeMaps (open_string shut_string)
set_option linter.unusedVariables false      -- a walk need not use every 'w<i>' (that an integer argument fits its kind)

theorem own : ownKnob Try.prog.godebug = none := by kernel_rfl

/-! ### STEP 1: THE WALK: the Go text returns true. 'Grown w w'': the world has at most new blocks (Derived/RowKit3.lean). Part the cases AHEAD of 'go_enter' where a test parts the walk; take each callee by a contract of your own. -/
set_option maxHeartbeats 1000000 in
set_option maxRecDepth 100000 in
theorem walk (a0 : ByteArray) (a1 : Int) (w0 : a0.size ≤ maxLen) (w1 : (Lit.int .u8 a1).wf = true) (w : World) :
    Calls Try.prog 5 #[.string a0, .int .u8 a1] w fun e w' => e = .returned (.bool true) ∧ Below w.heap.size w w' := by
  obtain ⟨c, hc⟩ : ∃ c : UInt8, a1 = (c.toNat : Int) := byte_of w1
  subst hc
  by_cases h : 500 < a0.size
  · have h' : (500 : Int) < (a0.size : Int) := by omega
    clear h w0 w1
    go_enter Try.func5, Try.ntmps5
    go_wp2_with fail
    refine (awake_any _).mono ?_
    rintro e w' ⟨rfl, hb⟩
    go_wp2_with fail
    go_ret
    exact ⟨rfl, hb⟩
  · have h0 : decide ((500 : Int) < (a0.size : Int)) = false := by simp; omega
    have s0 : a0.size ≤ 100000 := by omega
    have s1 : a0.size ≤ 1000000 := by omega
    have hs5 : a0.size ≤ 500 := by omega
    obtain ⟨ps, hps⟩ : ∃ ps, ps = StrM.splitL c a0.data.toList := ⟨_, rfl⟩
    have hlen := StrM.length_bytes a0
    have hj := StrM.joinL_split c _ a0.data.toList (Nat.le_refl _)
    have hin := StrM.split_in c _ a0.data.toList (Nat.le_refl _)
    have hml := StrM.split_mem_len c _ a0.data.toList (Nat.le_refl _)
    have hpl := StrM.splitL_len c a0.data.toList
    have hne := StrM.splitL_ne c a0.data.toList
    rw [← hps] at hj hin hml hpl hne
    rw [hlen] at hml hpl
    have hp1 : 1 ≤ ps.length := by
      rcases ps with _ | ⟨q, r⟩
      · exact absurd rfl hne
      · simp
    have HPS := Lib.hid hps
    have HJ := Lib.hid hj
    have HIN := Lib.hid hin
    have HML := Lib.hid hml
    have W0 := Lib.hid w0
    clear h w0 w1 hps hj hin hml hne hlen
    go_enter Try.func5, Try.ntmps5
    go_wp2_with fail
    refine (split_any _ _ _ s0).mono ?_
    rintro e w1 ⟨v0, rfl, ho, hb⟩
    have B1 := Lib.hid hb
    have hsv := SeesV.of_own ho
    rw [← HPS.out] at hsv
    obtain ⟨ad, cap, rfl, hsee⟩ := hsv
    rw [strs_len]
    have SEE := Lib.hid hsee
    obtain ⟨n, hn⟩ : ∃ n, n = ps.length := ⟨_, rfl⟩
    rw [← hn] at hpl hp1 ⊢
    have HN := Lib.hid hn
    clear hb ho hsee hn
    go_wp2_with fail
    go_loopw [6, 7] (fun v i wr => ∃ k : Nat, k ≤ n ∧ i = .int .i64 k ∧ BackRel w1 c ps k v wr) (fun _ i _ => n - (intOf i).toNat)
    case atStart => exact ⟨0, Nat.zero_le _, rfl, BackRel.start w1 c ps⟩
    case round =>
      obtain ⟨k, hk, rfl, hR⟩ := hrel
      have HR := Lib.hid hR
      clear hR
      by_cases hlt : k < n
      · have hkl : k < ps.length := by rw [← HN.out]; exact hlt
        rcases SEE.out with h | ⟨g, off, rfl, hg, hcell⟩
        · have := congrArg List.length h
          rw [strs_len] at this
          simp only [List.length_nil] at this
          omega
        have hck : ∀ wx, Below w1.heap.size w1 wx → wx.cell? ⟨g, off + k, none⟩ = some (.string ⟨ps[k].toArray⟩) := by
          intro wx hb
          rw [hb.cell (p := ⟨g, off + k, none⟩) hg, hcell k (by rw [strs_len]; exact hkl)]
          simp [strs]
        have hjl := joinL_take_le c ps k
        rw [HJ.out, StrM.length_bytes] at hjl
        have hpk := HML.out ps[k] (List.getElem_mem hkl)
        have hinn := HIN.out ps[k] (List.getElem_mem hkl)
        obtain ⟨P, hP⟩ : ∃ P : ByteArray, P = ⟨ps[k].toArray⟩ := ⟨_, rfl⟩
        have hPs : P.size ≤ 500 := by rw [hP, StrM.size_mk]; omega
        have hI : ∀ w, Calls Try.prog 21 #[.string P, .int .u8 (c.toNat : Int)] w fun e w' => e = .returned (.bool false) ∧ w = w' := by
          intro w
          have := in_any P c w (by unfold maxLen; omega)
          rw [show StrM.inB P.data.toList c = false from by rw [hP]; exact hinn] at this
          exact this
        rw [← hP] at hck
        have HP := Lib.hid hP
        have HCK := Lib.hid hck
        have HII := Lib.hid hI
        have hc1 := hck wr HR.out.2
        have hwr := HR.out.2.size
        clear hck hI hP hcell hinn hpk
        by_cases hk0 : k = 0
        · have hz1 : decide ((0 : Int) < (k : Int)) = false := by simp; omega
          have hz2 : decide (0 < k) = false := by simp; omega
          have HK0 := Lib.hid hk0
          clear hk0
          go_wp2_with (at_builtin; refine append_text rfl _ _ rfl w1.heap.size _ _ _ rfl HR.out.1 P rfl ?a1 ?a2 ?_)
          case a1 => omega
          case a2 => exact hwr
          intro v' w2 ho hbw
          have hc2 := HCK.out w2 (HR.out.2.trans hbw)
          have hR' : BackRel w1 c ps (k + 1) v' w2 := by
            have e := HK0.out
            subst e
            refine HR.out.first hkl ?_ hbw
            rw [← HP.out]; exact ho
          have HR' := Lib.hid hR'
          clear ho hbw hR'
          go_wp2_with fail
          refine (HII.out _).mono ?_
          rintro e w' ⟨rfl, rfl⟩
          go_wp2_with fail
          go_roundw
          case rel => exact ⟨k + 1, by omega, by go_num, HR'.out⟩
          case measure => simp [intOf]; omega
        · have hz0 : 0 < k := by omega
          have hz1 : (0 : Int) < (k : Int) := by omega
          go_wp2_with (at_builtin; refine append_one oneByte rfl _ _ rfl w1.heap.size _ _ _ rfl HR.out.1 (.int .u8 (c.toNat : Int)) rfl rfl ?b1 ?b2 ?b3 ?_)
          case b1 => omega
          case b2 => unfold maxLen; omega
          case b3 => exact hwr
          intro vm wm hom hbm
          have hcm := HCK.out wm (HR.out.2.trans hbm)
          have HOM := Lib.hid (show wm.ownsRow w1.heap.size 5 1 vm ((StrM.joinL c (ps.take k)).length + 1) (bys (StrM.joinL c (ps.take k) ++ [c])) by rw [bys_add]; exact hom)
          have HBM := Lib.hid hbm
          have hwm := Nat.le_trans hwr hbm.size
          clear hom hbm
          go_wp2_with (at_builtin; refine append_text rfl _ _ rfl w1.heap.size _ _ _ rfl HOM.out P rfl ?d1 ?d2 ?_)
          case d1 => omega
          case d2 => exact hwm
          intro v' w2 ho hbw
          have hc2 := HCK.out w2 ((HR.out.2.trans HBM.out).trans hbw)
          have hR' : BackRel w1 c ps (k + 1) v' w2 := by
            refine HR.out.more hz0 hkl HBM.out ?_ hbw
            rw [← HP.out, List.append_assoc]; exact ho
          have HR' := Lib.hid hR'
          clear ho hbw hR'
          go_wp2_with fail
          refine (HII.out _).mono ?_
          rintro e w' ⟨rfl, rfl⟩
          go_wp2_with fail
          go_roundw
          case rel => exact ⟨k + 1, by omega, by go_num, HR'.out⟩
          case measure => simp [intOf]; omega
      · have hfin : (⟨(StrM.joinL c (ps.take k)).toArray⟩ : ByteArray) = a0 := by
          rw [List.take_of_length_le (by rw [← HN.out]; omega), HJ.out]
        have HFIN := Lib.hid hfin
        have hn1 : decide ((n : Int) < 1) = false := by simp; omega
        have hwr := HR.out.2.size
        have BR := Lib.hid (B1.out.trans (HR.out.2.mono B1.out.size))
        clear hfin
        go_wp2_with fail
        refine (cut_any _ _ _ s1).mono ?_
        rintro e w2 ⟨rfl, hb⟩
        have HO2 := Lib.hid (own_below HR.out.1 hb)
        have BR2 := Lib.hid (BR.out.trans (hb.mono BR.out.size))
        have hA := cutA_size c a0
        have hZ := cutZ_size c a0
        clear hb
        have WL := Lib.hid (show (StrM.lowS a0).size ≤ maxLen by rw [StrM.lowS_size]; exact W0.out)
        have WT := Lib.hid (show (StrM.trimS a0).size ≤ maxLen from Nat.le_trans (StrM.trimS_size a0) W0.out)
        cases hcb : StrM.cutB c a0
        · have hjoin := cut_whole hcb
          have hcv := run_text_own HO2.out
          rw [HFIN.out] at hcv
          clear hcb
          generalize StrM.cutA c a0 = A at *
          generalize StrM.cutZ c a0 = Z at *
          go_wp2_with fail
          have BW := Lib.hid BR2.out
          clear hjoin hcv HO2 HR HPS HJ HIN HML SEE HN HFIN hA hZ hn1
          refine (lower_any _ _ W0.out).mono ?_
          rintro e w3 ⟨rfl, hb⟩
          have BA := Lib.hid (BW.out.trans (hb.mono BW.out.size))
          clear hb
          go_wp2_with fail
          refine (lower_any _ _ WL.out).mono ?_
          rw [StrM.lowS_low]
          rintro e w4 ⟨rfl, hb⟩
          have BB := Lib.hid (BA.out.trans (hb.mono BA.out.size))
          clear hb
          go_wp2_with fail
          refine (lower_any _ _ W0.out).mono ?_
          rintro e w5 ⟨rfl, hb⟩
          have BC := Lib.hid (BB.out.trans (hb.mono BB.out.size))
          clear hb
          go_wp2_with fail
          refine (lower_any _ _ W0.out).mono ?_
          rintro e w6 ⟨rfl, hb⟩
          have BD := Lib.hid (BC.out.trans (hb.mono BC.out.size))
          clear hb
          go_wp2_with fail
          refine (same_any _ _ _ WL.out W0.out).mono ?_
          rw [same_low]
          rintro e w7 ⟨rfl, hb⟩
          have BE := Lib.hid (BD.out.trans (hb.mono BD.out.size))
          clear hb
          go_wp2_with fail
          refine (trim_any _ _ W0.out).mono ?_
          rintro e w' ⟨rfl, rfl⟩
          go_wp2_with fail
          refine (trim_any _ _ WT.out).mono ?_
          rw [StrM.trimS_trimS]
          rintro e w' ⟨rfl, rfl⟩
          go_wp2_with fail
          refine (trim_any _ _ W0.out).mono ?_
          rintro e w' ⟨rfl, rfl⟩
          go_wp2_with fail
          refine (awake_any _).mono ?_
          rintro e w8 ⟨rfl, hb⟩
          go_wp2_with fail
          go_ret
          exact ⟨rfl, BE.out.trans (hb.mono BE.out.size)⟩
        · have hjoin := cut_join hcb
          have hcv := run_text_own (HO2.out.alloc (.cells #[.int .u8 (c.toNat : Int)] 5))
          rw [HFIN.out] at hcv
          have hone := one_text c w2
          clear hcb
          generalize StrM.cutA c a0 = A at *
          generalize StrM.cutZ c a0 = Z at *
          go_wp2_with fail
          have BW := Lib.hid (BR2.out.alloc BR2.out.size (.cells #[.int .u8 (c.toNat : Int)] 5))
          clear hjoin hcv HO2 HR HPS HJ HIN HML SEE HN HFIN hA hZ hn1 hone
          refine (lower_any _ _ W0.out).mono ?_
          rintro e w3 ⟨rfl, hb⟩
          have BA := Lib.hid (BW.out.trans (hb.mono BW.out.size))
          clear hb
          go_wp2_with fail
          refine (lower_any _ _ WL.out).mono ?_
          rw [StrM.lowS_low]
          rintro e w4 ⟨rfl, hb⟩
          have BB := Lib.hid (BA.out.trans (hb.mono BA.out.size))
          clear hb
          go_wp2_with fail
          refine (lower_any _ _ W0.out).mono ?_
          rintro e w5 ⟨rfl, hb⟩
          have BC := Lib.hid (BB.out.trans (hb.mono BB.out.size))
          clear hb
          go_wp2_with fail
          refine (lower_any _ _ W0.out).mono ?_
          rintro e w6 ⟨rfl, hb⟩
          have BD := Lib.hid (BC.out.trans (hb.mono BC.out.size))
          clear hb
          go_wp2_with fail
          refine (same_any _ _ _ WL.out W0.out).mono ?_
          rw [same_low]
          rintro e w7 ⟨rfl, hb⟩
          have BE := Lib.hid (BD.out.trans (hb.mono BD.out.size))
          clear hb
          go_wp2_with fail
          refine (trim_any _ _ W0.out).mono ?_
          rintro e w' ⟨rfl, rfl⟩
          go_wp2_with fail
          refine (trim_any _ _ WT.out).mono ?_
          rw [StrM.trimS_trimS]
          rintro e w' ⟨rfl, rfl⟩
          go_wp2_with fail
          refine (trim_any _ _ W0.out).mono ?_
          rintro e w' ⟨rfl, rfl⟩
          go_wp2_with fail
          refine (awake_any _).mono ?_
          rintro e w8 ⟨rfl, hb⟩
          go_wp2_with fail
          go_ret
          exact ⟨rfl, BE.out.trans (hb.mono BE.out.size)⟩

/-! ### THE ROW's STEP: WRITTEN OUT: LEAVE IT -/
set_option maxRecDepth 100000 in
theorem lifted (os : Os) (started : os.Started) (H : Type) (enc : TypeId × Value → H) :
    ReturnsInHanded {} Try.checked os 5 .any (Rows.textBackSpec.pre6 enc Try.prog Try.f5 Rows.textBackRow.domain false) (Rows.textBackSpec.post enc Try.prog Try.f5 false true false false) := by
  refine returnsInHanded_of_change (C := Try.checked) own started (by kernel_rfl) Try.func5
    (ChangeSpec.witness6 (enc := enc) (C := Try.checked) false ⟨#[], #[.string ByteArray.empty, .int .u8 0], []⟩ 8 (by kernel_rfl) (by kernel_rfl) (by kernel_rfl) (by kernel_rfl)) ?_
  intro W base args ds gs before hval0 hW hcnd _
  have hval : ∀ (j : Nat) t v, Try.f5.params[j]? = some t → args[j]? = some v → Value.okWide Try.prog W .any base t v := hval0
  have hW' := hW
  obtain ⟨p, q, hA0, hV, rfl, hfz, hnd⟩ := hW
  have hA : DataW.TrodAll enc Try.prog W 0 (fun _ => true) true Try.f5.params.toList args.toList ds p := hA0
  rw [Try.params5] at hA hval
  obtain ⟨v0, vs0, d0, ds0, p0, q0, hargs, rfl, rfl, h0, r0⟩ := trodAll_cons hA
  obtain ⟨v1, vs1, d1, ds1, p1, q1, rfl, rfl, rfl, h1, r1⟩ := trodAll_cons r0
  obtain ⟨rfl, rfl, rfl⟩ := trodAll_nil r1
  obtain rfl : args = #[v0, v1] := by cases args; simp_all
  obtain ⟨rfl, rfl⟩ := trodVars_none hV
  obtain ⟨a0, rfl, rfl, rfl, w0⟩ := open_string Try.underlying9 (hval 0 9 v0 rfl rfl) h0
  obtain ⟨a1, rfl, rfl, rfl, w1⟩ := open_int Try.underlying5 (hval 1 5 v1 rfl rfl) h1
  clear hA0 hval0
  refine (walk a0 a1 w0 w1 W).mono fun e W' ⟨he, bel⟩ => ?_
  subst he
  exact ⟨_, rfl, _, _, _, [], _, [], hW', (trodAll_cons_mk (shut_bool Try.underlying4 _) trodAll_mk0), (trodAll_cons_mk (shut_string Try.underlying9 w0) (trodAll_cons_mk (shut_int Try.underlying5 w1) trodAll_mk0)), rfl, bel.frame _, fun h => by cases h⟩

theorem over : Rows.textBackRow.holds Try.pinned (OpenSpec.ofChange Rows.textBackSpec) :=
  OpenClaim.holds_of_wide 5 Try.f5 rfl rfl rfl rfl rfl rfl rfl ⟨rfl, rfl, rfl, rfl, rfl⟩ rfl rfl rfl rfl rfl (by kernel_rfl) Try.func5 (by kernel_rfl)
    (of_decide_eq_true (by kernel_rfl)) (by unfold Func.isWrapper; first | (rw [if_pos (by decide +kernel)]; kernel_rfl) | (rw [if_neg (by decide +kernel)]; exact ⟨rfl, rfl⟩))
    (fun os started H enc _ => lifted os started H enc)

/-- ████ THE STATEMENT ████ -/
theorem proved : Rows.TextBackSaid :=
  over
#print axioms proved
end Go.Proofs.Ytpcepkdnclbndaa.textBack
