/-
  A struct that is known whole in its box; which episodes are right.
-/
import Derived.Test.YtahocamjihhjhaaRowsRight
import Derived.BigFrame
import Derived.Laws.Rows
namespace Go.Proofs.Ytahocamjihhjhaa
open Go.RowKit StrM VaryM CodeM RowsM

/-- A struct is read whole, guarded or not. -/
theorem wpList_loadg {P : Program} {ops : Array Oper} {rest : List Oper} {o : Oper} {a : Act} {w : World} {Q : Exit → Act → World → Prop} {t : TypeId} {x : Operand} {v : Value} (hw : Region.wanted o (yielded ops a.tmps) = true) (ho : o.op = .load t x) (p : Value) (hx : a.eval x = p) (hrun : (Instr.loadAt t p).run P w = .ok v w) (h : wpList P ops Q rest (a.put o.dst v) w) : wpList P ops Q (o :: rest) a w := by
  refine BigFrame.wpList_want hw fun K hK => ?_
  unfold Oper.wp execOp
  simp only [ho, Sem.run_bind, Sem.run_pure, hx, hrun, Result.andThen_ok]
  exact hK _ _ h

theorem loadX {cs : Array Value} (hn : cs.size = 20) (W : World) (g : Nat) (h : W.heap[g]? = some (.cells cs 25)) : (Instr.loadAt 25 (.pointer (some ⟨g, 0, none⟩))).run Try.prog W = .ok (.agg cs) W := by
  unfold Instr.loadAt
  simp only [Instr.sureAddr, Sem.run_bind, Sem.run_pure, Result.andThen_ok]
  exact run_loadVar_row W g 25 25 cs _ _ h Try.underlying25 rfl (by rw [hn]; kernel_rfl)
theorem xcs_size (x : X) : (xcs x).size = 20 := rfl

/-- A box stays in what is made later. -/
theorem keepX {W W' : World} {g : Nat} {o : Obj} (h : W.heap[g]? = some o) (hb : Below W.heap.size W W') : W'.heap[g]? = some o :=
  (hb.block g (Array.getElem?_eq_some_iff.1 h).1).trans h
theorem fieldX {cs : Array Value} {W : World} {g : Nat} {t : TypeId} (h : W.heap[g]? = some (.cells cs t)) {i : Nat} {u : Value} (hu : cs[i]? = some u) : W.cell? ⟨g, i, none⟩ = some u := by
  rw [cell_of_row W g i cs t _ h]; exact hu

set_option maxHeartbeats 1000000 in
set_option maxRecDepth 100000 in
theorem xst_any (x : X) (w : World) : Calls Try.prog 37 #[xagg x] w fun e w' => e = .returned (.bool (stOk x)) ∧ Below w.heap.size w w' := by
  have UN := Lib.hid (fun w => xunp_any x w)
  have IH := Lib.hid (fun w => ishash_any x.sha w)
  unfold xagg at *
  have HN := Lib.hid (xcs_size x)
  have f7 : (xcs x)[7]? = some (.int .i64 x.st) := rfl
  have f8 : (xcs x)[8]? = some (.int .i64 x.why) := rfl
  have f19 : (xcs x)[19]? = some (.string x.sha) := rfl
  obtain ⟨r, hr⟩ : ∃ r, r = stOk x := ⟨_, rfl⟩
  rw [← hr]
  have HS := Lib.hid (show r = (if x.st = 1 ∨ x.st = 2 ∨ x.st = 5 then x.why == 0 && unp x else if x.st = 3 then x.why == 0 && hashOk x.sha else if x.st = 4 then decide (1 ≤ x.why) && (decide (x.why ≤ 4) && unp x) else false) from hr)
  clear hr
  generalize unp x = b at *
  generalize xcs x = cs at *
  generalize x.st = st at *
  generalize x.why = why at *
  generalize x.sha = sha at *
  have R0 := Lib.hid (heap_alloc_new w (.cells cs 25))
  have L0 := Lib.hid (loadX HN.out _ _ R0.out)
  have c7 := fieldX R0.out f7
  have c8 := fieldX R0.out f8
  have c19 := fieldX R0.out f19
  have K0 := Lib.hid (below_made w (.cells cs 25))
  by_cases s1 : st = 1 ∨ st = 2 ∨ st = 5
  · have HQ := Lib.hid (show r = (why == 0 && b) by rw [HS.out, if_pos s1])
    by_cases h1 : why = 0
    · have HX := Lib.hid (show b = r by rw [HQ.out, h1]; simp)
      subst h1
      rcases s1 with rfl | rfl | rfl
      all_goals
        go_enter Try.func37, Try.ntmps37
        go_wp2_with (refine wpList_loadg (t := 25) (x := .tmp 1) rfl rfl (.pointer (some ⟨w.heap.size, 0, none⟩)) rfl L0.out ?_)
        refine (UN.out _).mono ?_
        rintro e w1 ⟨rfl, hb⟩
        have BB := Lib.hid (K0.out.trans (hb.mono K0.out.size))
        clear hb
        go_wp2_with fail
        go_ret
        exact ⟨ret_bool HX.out, BB.out⟩
    · have HX := Lib.hid (show false = r by rw [HQ.out]; simp [h1])
      have d1 : (why == 0) = false := by simpa using h1
      rcases s1 with rfl | rfl | rfl
      all_goals
        go_enter Try.func37, Try.ntmps37
        go_wp2_with fail
        go_ret
        exact ⟨ret_bool HX.out, K0.out⟩
  have n1 : (st == 1) = false := by simp; omega
  have n2 : (st == 2) = false := by simp; omega
  have n5 : (st == 5) = false := by simp; omega
  have m1 : ¬ st = 1 := by omega
  have m2 : ¬ st = 2 := by omega
  have m5 : ¬ st = 5 := by omega
  have HS2 := Lib.hid (show r = (if st = 3 then why == 0 && hashOk sha else if st = 4 then decide (1 ≤ why) && (decide (why ≤ 4) && b) else false) by rw [HS.out, if_neg s1])
  clear s1
  by_cases s3 : st = 3
  · subst s3
    clear n1 n2 n5 m1 m2 m5
    by_cases h1 : why = 0
    · have HX := Lib.hid (show hashOk sha = r by rw [HS2.out, h1]; simp)
      subst h1
      go_enter Try.func37, Try.ntmps37
      go_wp2_with fail
      refine (IH.out _).mono ?_
      rintro e w1 ⟨rfl, rfl⟩
      go_wp2_with fail
      go_ret
      exact ⟨ret_bool HX.out, K0.out⟩
    · have HX := Lib.hid (show false = r by rw [HS2.out]; simp [h1])
      have d1 : (why == 0) = false := by simpa using h1
      go_enter Try.func37, Try.ntmps37
      go_wp2_with fail
      go_ret
      exact ⟨ret_bool HX.out, K0.out⟩
  have HS4 := Lib.hid (show r = (if st = 4 then decide (1 ≤ why) && (decide (why ≤ 4) && b) else false) by rw [HS2.out, if_neg s3])
  by_cases s4 : st = 4
  · subst s4
    clear n1 n2 n5 m1 m2 m5 s3
    have HQ := Lib.hid (show r = (decide (1 ≤ why) && (decide (why ≤ 4) && b)) by rw [HS4.out, if_pos rfl])
    by_cases h1 : 1 ≤ why
    · by_cases h4 : why ≤ 4
      · have HX := Lib.hid (show b = r by rw [HQ.out, decide_eq_true h1, decide_eq_true h4]; rfl)
        go_enter Try.func37, Try.ntmps37
        go_wp2_with (refine wpList_loadg (t := 25) (x := .tmp 1) rfl rfl (.pointer (some ⟨w.heap.size, 0, none⟩)) rfl L0.out ?_)
        refine (UN.out _).mono ?_
        rintro e w1 ⟨rfl, hb⟩
        have BB := Lib.hid (K0.out.trans (hb.mono K0.out.size))
        clear hb
        go_wp2_with fail
        go_ret
        exact ⟨ret_bool HX.out, BB.out⟩
      · have HX := Lib.hid (show false = r by rw [HQ.out, decide_eq_false h4]; simp)
        have d4 : decide (why ≤ (4 : Int)) = false := decide_eq_false h4
        clear h4
        go_enter Try.func37, Try.ntmps37
        go_wp2_with fail
        go_ret
        exact ⟨ret_bool HX.out, K0.out⟩
    · have HX := Lib.hid (show false = r by rw [HQ.out, decide_eq_false h1]; rfl)
      have d4 : decide ((1 : Int) ≤ why) = false := decide_eq_false h1
      clear h1
      go_enter Try.func37, Try.ntmps37
      go_wp2_with fail
      go_ret
      exact ⟨ret_bool HX.out, K0.out⟩
  · have HX := Lib.hid (show false = r by rw [HS4.out, if_neg s4])
    have n3 : (st == 3) = false := by simpa using s3
    have n4 : (st == 4) = false := by simpa using s4
    go_enter Try.func37, Try.ntmps37
    go_wp2_with fail
    go_ret
    exact ⟨ret_bool HX.out, K0.out⟩

set_option maxHeartbeats 1000000 in
set_option maxRecDepth 100000 in
theorem xright_any (x : X) (w : World) : Calls Try.prog 14 #[xagg x] w fun e w' => e = .returned (.bool (xOk x)) ∧ Below w.heap.size w w' := by
  have C0 := Lib.hid (fun w => xnum_any x w)
  have C1 := Lib.hid (fun w => xtxt_any x w)
  have C2 := Lib.hid (fun w => xst_any x w)
  unfold xagg at *
  have HS := Lib.hid (show xOk x = (numOk x && (txtOk x && stOk x)) from rfl)
  have HN := Lib.hid (xcs_size x)
  generalize numOk x = b0 at *
  generalize txtOk x = b1 at *
  generalize stOk x = b2 at *
  generalize xOk x = r at *
  generalize xcs x = cs at *
  have R0 := Lib.hid (heap_alloc_new w (.cells cs 25))
  have L0 := Lib.hid (loadX HN.out _ _ R0.out)
  have K0 := Lib.hid (below_made w (.cells cs 25))
  go_enter Try.func14, Try.ntmps14
  go_wp2_with (refine wpList_loadg (t := 25) (x := .tmp 1) rfl rfl (.pointer (some ⟨w.heap.size, 0, none⟩)) rfl L0.out ?_)
  refine (C0.out _).mono ?_
  rintro e w1 ⟨rfl, hb⟩
  have R1 := Lib.hid (keepX R0.out hb)
  have L1 := Lib.hid (loadX HN.out _ _ R1.out)
  have K1 := Lib.hid (K0.out.trans (hb.mono K0.out.size))
  clear hb
  cases b0
  · have HX := Lib.hid (show false = r by rw [HS.out]; rfl)
    go_wp2_with fail
    go_ret
    exact ⟨ret_bool HX.out, K1.out⟩
  go_wp2_with (refine wpList_loadg (t := 25) (x := .tmp 1) rfl rfl (.pointer (some ⟨w.heap.size, 0, none⟩)) rfl L1.out ?_)
  refine (C1.out _).mono ?_
  rintro e w2 ⟨rfl, hb⟩
  have R2 := Lib.hid (keepX R1.out hb)
  have L2 := Lib.hid (loadX HN.out _ _ R2.out)
  have K2 := Lib.hid (K1.out.trans (hb.mono K1.out.size))
  clear hb
  cases b1
  · have HX := Lib.hid (show false = r by rw [HS.out]; rfl)
    go_wp2_with fail
    go_ret
    exact ⟨ret_bool HX.out, K2.out⟩
  go_wp2_with (refine wpList_loadg (t := 25) (x := .tmp 1) rfl rfl (.pointer (some ⟨w.heap.size, 0, none⟩)) rfl L2.out ?_)
  refine (C2.out _).mono ?_
  rintro e w3 ⟨rfl, hb⟩
  have K3 := Lib.hid (K2.out.trans (hb.mono K2.out.size))
  clear hb
  have HX := Lib.hid (show b2 = r by rw [HS.out]; rfl)
  go_wp2_with fail
  go_ret
  exact ⟨ret_bool HX.out, K3.out⟩
end Go.Proofs.Ytahocamjihhjhaa
