/-
  A feed, an episode, compared with itself.
-/
import Derived.Test.YtahocamjihhjhaaRowsTake
import Derived.Laws.StructEq
namespace Go.Proofs.Ytahocamjihhjhaa
open Go.RowKit StrM VaryM CodeM RowsM

theorem eqF_same (f : F) (W : World) : (Op.equalIn 10000 23 (.agg (fcs f)) (.agg (fcs f))).run Try.prog W = .ok true W := by
  rw [show (10000 : Nat) = 9999 + 1 from rfl, run_equalIn_agg W 9999 23 _ _ (by kernel_rfl) (by kernel_rfl)]
  obtain ⟨id, url, tag, next, fails⟩ := f
  simp [fcs, go_sem, Try.underlying23]
set_option maxHeartbeats 2000000 in
set_option maxRecDepth 100000 in
theorem eqX_same (x : X) (W : World) : (Op.equalIn 10000 25 (.agg (xcs x)) (.agg (xcs x))).run Try.prog W = .ok true W := by
  rw [show (10000 : Nat) = 9999 + 1 from rfl, run_equalIn_agg W 9999 25 _ _ (by kernel_rfl) (by kernel_rfl)]
  obtain ⟨id, feed, guid, url, title, date, long, st, why, pin, pos, tries, next, cur, hops, gen, tag, total, size, sha⟩ := x
  simp [xcs, go_sem, Try.underlying25]

/-- An operation that gives a value, guarded or not. -/
theorem wpList_val {P : Program} {ops : Array Oper} {rest : List Oper} {o : Oper} {a : Act} {w : World} {Q : Exit → Act → World → Prop} (v : Value) (hw : Region.wanted o (yielded ops a.tmps) = true) (hr : (execOp a.eval o).run P w = .ok (.value v) w) (h : wpList P ops Q rest (a.put o.dst v) w) : wpList P ops Q (o :: rest) a w := by
  refine BigFrame.wpList_want hw fun K hK => ?_
  unfold Oper.wp
  rw [hr]
  exact hK _ _ h
theorem exec_eql {P : Program} {o : Oper} {a : Act} {w : World} {t t' : TypeId} {x y : Operand} {xs ys : Array Value} {b : Bool} (ho : o.op = .binOp .eql t x y t') (hx : a.eval x = .agg xs) (hy : a.eval y = .agg ys) (hm : P.eqGuardType P.depth t = false) (hr : (Op.equalIn 10000 t (.agg xs) (.agg ys)).run P w = .ok b w) : (execOp a.eval o).run P w = .ok (.value (.bool b)) w := by
  unfold execOp
  simp only [ho, Sem.run_bind, Sem.run_pure, hx, hy]
  simp [run_eqGuard_agg _ _ _ _ _ _ _ hm, run_eql_struct, hr, Result.andThen_ok]
theorem exec_neq {P : Program} {o : Oper} {a : Act} {w : World} {t t' : TypeId} {x y : Operand} {xs ys : Array Value} {b : Bool} (ho : o.op = .binOp .neq t x y t') (hx : a.eval x = .agg xs) (hy : a.eval y = .agg ys) (hm : P.eqGuardType P.depth t = false) (hr : (Op.equalIn 10000 t (.agg xs) (.agg ys)).run P w = .ok b w) : (execOp a.eval o).run P w = .ok (.value (.bool !b)) w := by
  unfold execOp
  simp only [ho, Sem.run_bind, Sem.run_pure, hx, hy]
  simp [run_eqGuard_agg _ _ _ _ _ _ _ hm, run_neq_struct, hr, Result.andThen_ok]
theorem guardF : Try.prog.eqGuardType Try.prog.depth 23 = false := by kernel_rfl
theorem guardX : Try.prog.eqGuardType Try.prog.depth 25 = false := by kernel_rfl
end Go.Proofs.Ytahocamjihhjhaa
