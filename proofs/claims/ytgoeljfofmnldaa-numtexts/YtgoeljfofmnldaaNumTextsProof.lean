/-
  Proved: for every n and s the call NumTexts(n, s) returns true and leaves its arguments as they were (no condition).
  The frame of the proof was laid by the guide's program; the walk is by hand.
-/
import Derived.Test.YtgoeljfofmnldaaRows
import Derived.WalkKit
import Derived.ProofKit
import Derived.OpenShut
import Derived.ShutString
import Derived.Test.YtgoeljfofmnldaaNumRefPut
import Derived.Test.YtgoeljfofmnldaaNumAwake
import Derived.Test.YtgoeljfofmnldaaPutBack
namespace Go.Proofs.Ytgoeljfofmnldaa.numTexts
open Go.ChangeShapes Go.WideShapes Go.ChangeAt Go.RowKit
open Go.ChangeMaps (open_string shut_string)
set_option linter.unusedVariables false      -- a walk need not use every 'w<i>' (that an integer argument fits its kind)

theorem own : ownKnob Try.prog.godebug = none := by kernel_rfl

/-! ### STEP 1: THE WALK: the Go text returns true. 'Grown w w'': the world has at most new blocks (Derived/RowKit3.lean). Part the cases AHEAD of 'go_enter' where a test parts the walk; take each callee by a contract of your own. -/
set_option maxHeartbeats 1000000 in
set_option maxRecDepth 100000 in
theorem walk (a0 : Int) (a1 : ByteArray) (w0 : (Lit.int .i64 a0).wf = true) (w1 : a1.size ≤ maxLen) (w : World) :
    Calls Try.prog 5 #[.int .i64 a0, .string a1] w fun e w' => e = .returned (.bool true) ∧ Below w.heap.size w w' := by
  obtain ⟨wb1, wb2⟩ := bounds_i64 w0
  clear w0
  by_cases h : 100 < a1.size
  · have h' : (100 : Int) < (a1.size : Int) := by omega
    go_enter Try.func5, Try.ntmps5
    go_wp2_with fail
    refine (awake_any _).mono ?_
    rintro e w' ⟨rfl, hb⟩
    go_wp2_with fail
    go_ret
    exact ⟨rfl, hb⟩
  · have h' : decide ((100 : Int) < (a1.size : Int)) = false := by simp; omega
    have hd : (⟨(NumM.putL a0).toArray⟩ : ByteArray).data.toList = NumM.putL a0 := rfl
    have hz : (⟨(NumM.putL a0).toArray⟩ : ByteArray).size ≤ maxLen := by
      have := putL_len a0 wb1 wb2
      have e : (⟨(NumM.putL a0).toArray⟩ : ByteArray).size = (NumM.putL a0).length := by simp [ByteArray.size]
      rw [e]; unfold maxLen; omega
    have hk : a0.natAbs < 10 ^ (18 + 1) := by omega
    have c1 : ∀ w, Calls Try.prog 15 #[.int .i64 a0] w fun e w' => e = .returned (.string ⟨(NumM.putL a0).toArray⟩) ∧ Below w.heap.size w w' := fun w => put_any a0 w wb1 wb2
    have c2 : ∀ w, Calls Try.prog 16 #[.int .i64 a0] w fun e w' => e = .returned (.string ⟨(NumM.putL a0).toArray⟩) ∧ w = w' := fun w => rput_any 18 a0 w hk wb1 wb2
    have c3 : ∀ w, Calls Try.prog 13 #[.string ⟨(NumM.putL a0).toArray⟩] w fun e w' => e = .returned (.tuple #[.int .i64 (NumM.getV (NumM.putL a0)), .int .i64 (NumM.getE (NumM.putL a0))]) ∧ w = w' := fun w => by
      have := get_any ⟨(NumM.putL a0).toArray⟩ w hz
      rw [hd] at this; exact this
    have hcase : (NumM.isB a0 = true ∧ NumM.getV (NumM.putL a0) = a0 ∧ NumM.getE (NumM.putL a0) = 0) ∨ (NumM.isB a0 = false ∧ NumM.getV (NumM.putL a0) = 0 ∧ (a0 < 0 ∧ NumM.getE (NumM.putL a0) = 2 ∨ 0 ≤ a0 ∧ NumM.getE (NumM.putL a0) = 3)) := by
      cases hb : NumM.isB a0
      · rcases NumM.isB_false hb with hn | hn
        · have := NumM.back_neg a0 hn; exact .inr ⟨rfl, this.1, .inl ⟨hn, this.2⟩⟩
        · have := NumM.back_big a0 hn; exact .inr ⟨rfl, this.1, .inr ⟨by omega, this.2⟩⟩
      · have := NumM.back_size a0 hb; exact .inl ⟨rfl, this.1, this.2⟩
    generalize NumM.getV (NumM.putL a0) = gv at *
    generalize NumM.getE (NumM.putL a0) = ge at *
    generalize (⟨(NumM.putL a0).toArray⟩ : ByteArray) = P at *
    have C1 := Lib.hid c1
    have C2 := Lib.hid c2
    have C3 := Lib.hid c3
    have W1 := Lib.hid w1
    have HC := Lib.hid hcase
    clear c1 c2 c3 w1 hd hz hk hcase
    go_enter Try.func5, Try.ntmps5
    go_wp2_with fail
    refine (get_any _ _ W1.out).mono ?_
    rintro e w' ⟨rfl, rfl⟩
    go_wp2_with fail
    refine (rget_any _ _ W1.out).mono ?_
    rintro e w' ⟨rfl, rfl⟩
    generalize NumM.getV a1.data.toList = v1 at *
    generalize NumM.getE a1.data.toList = v2 at *
    go_wp2_with fail
    refine (C1.out _).mono ?_
    rintro e wa ⟨rfl, hb1⟩
    have B1 := Lib.hid hb1
    clear hb1
    go_wp2_with fail
    refine (C2.out _).mono ?_
    rintro e w' ⟨rfl, rfl⟩
    go_wp2_with fail
    refine (C1.out _).mono ?_
    rintro e wc ⟨rfl, hb2⟩
    have B2 := Lib.hid (B1.out.trans (hb2.mono B1.out.size))
    clear hb2 B1
    go_wp2_with fail
    refine (C3.out _).mono ?_
    rintro e w' ⟨rfl, rfl⟩
    go_wp2_with fail
    refine (is_any _ _).mono ?_
    rcases HC.out with ⟨hb, rfl, rfl⟩ | ⟨hb, rfl, ⟨hn, rfl⟩ | ⟨hn, rfl⟩⟩
    · rw [hb]
      rintro e w' ⟨rfl, rfl⟩
      clear hb
      go_wp2_with fail
      refine (awake_any _).mono ?_
      rintro e w' ⟨rfl, hb3⟩
      go_wp2_with fail
      go_ret
      exact ⟨rfl, B2.out.trans (hb3.mono B2.out.size)⟩
    · rw [hb]
      rintro e w' ⟨rfl, rfl⟩
      clear hb
      go_wp2_with fail
      refine (awake_any _).mono ?_
      rintro e w' ⟨rfl, hb3⟩
      go_wp2_with fail
      go_ret
      exact ⟨rfl, B2.out.trans (hb3.mono B2.out.size)⟩
    · rw [hb]
      rintro e w' ⟨rfl, rfl⟩
      clear hb
      have hn' : decide (a0 < 0) = false := by simp; omega
      go_wp2_with fail
      refine (awake_any _).mono ?_
      rintro e w' ⟨rfl, hb3⟩
      go_wp2_with fail
      go_ret
      exact ⟨rfl, B2.out.trans (hb3.mono B2.out.size)⟩

/-! ### THE ROW's STEP: WRITTEN OUT: LEAVE IT -/
set_option maxRecDepth 100000 in
theorem lifted (os : Os) (started : os.Started) (H : Type) (enc : TypeId × Value → H) :
    ReturnsInHanded {} Try.checked os 5 .any (Rows.numTextsSpec.pre6 enc Try.prog Try.f5 Rows.numTextsRow.domain false) (Rows.numTextsSpec.post enc Try.prog Try.f5 false true false false) := by
  refine returnsInHanded_of_change (C := Try.checked) own started (by kernel_rfl) Try.func5
    (ChangeSpec.witness6 (enc := enc) (C := Try.checked) false ⟨#[], #[.int .i64 0, .string ByteArray.empty], []⟩ 8 (by kernel_rfl) (by kernel_rfl) (by kernel_rfl) (by kernel_rfl)) ?_
  intro W base args ds gs before hval0 hW hcnd _
  have hval : ∀ (j : Nat) t v, Try.f5.params[j]? = some t → args[j]? = some v → Value.okWide Try.prog W .any base t v := hval0
  have hW' := hW
  obtain ⟨p, q, hA0, hV, rfl, hfz, hnd⟩ := hW
  have hA : DataW.TrodAll enc Try.prog W 0 (fun _ => true) true Try.f5.params.toList args.toList ds p := hA0
  rw [Try.params5] at hA hval
  obtain ⟨v0, vs0, d0, ds0, p0, q0, hargs, rfl, rfl, h0, r0⟩ := trodAll_cons hA
  obtain ⟨v1, vs1, d1, ds1, p1, q1, rfl, rfl, rfl, h1, r1⟩ := trodAll_cons r0
  obtain ⟨rfl, rfl, rfl⟩ := trodAll_nil r1
  obtain rfl : args = #[v0, v1] := by cases args; simp_all
  obtain ⟨rfl, rfl⟩ := trodVars_none hV
  obtain ⟨a0, rfl, rfl, rfl, w0⟩ := open_int Try.underlying2 (hval 0 2 v0 rfl rfl) h0
  obtain ⟨a1, rfl, rfl, rfl, w1⟩ := open_string Try.underlying9 (hval 1 9 v1 rfl rfl) h1
  clear hA0 hval0
  refine (walk a0 a1 w0 w1 W).mono fun e W' ⟨he, bel⟩ => ?_
  subst he
  exact ⟨_, rfl, _, _, _, [], _, [], hW', (trodAll_cons_mk (shut_bool Try.underlying4 _) trodAll_mk0), (trodAll_cons_mk (shut_int Try.underlying2 w0) (trodAll_cons_mk (shut_string Try.underlying9 w1) trodAll_mk0)), rfl, bel.frame _, fun h => by cases h⟩

theorem over : Rows.numTextsRow.holds Try.pinned (OpenSpec.ofChange Rows.numTextsSpec) :=
  OpenClaim.holds_of_wide 5 Try.f5 rfl rfl rfl rfl rfl rfl rfl ⟨rfl, rfl, rfl, rfl, rfl⟩ rfl rfl rfl rfl rfl (by kernel_rfl) Try.func5 (by kernel_rfl)
    (of_decide_eq_true (by kernel_rfl)) (by unfold Func.isWrapper; first | (rw [if_pos (by decide +kernel)]; kernel_rfl) | (rw [if_neg (by decide +kernel)]; exact ⟨rfl, rfl⟩))
    (fun os started H enc _ => lifted os started H enc)

/-- ████ THE STATEMENT ████ -/
theorem proved : Rows.NumTextsSaid :=
  over
#print axioms proved
end Go.Proofs.Ytgoeljfofmnldaa.numTexts
