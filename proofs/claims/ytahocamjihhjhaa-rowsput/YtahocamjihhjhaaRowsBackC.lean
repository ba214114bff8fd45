/-
  What the calls of RowsBack give, said once.
-/
import Derived.Test.YtahocamjihhjhaaRowsAwake
import Derived.Test.YtahocamjihhjhaaRowsShort
import Derived.Deep.CutRange
namespace Go.Proofs.Ytahocamjihhjhaa
open Go.RowKit StrM VaryM CodeM RowsM

theorem fput_any (f : F) (w : World) : Calls Try.prog 9 #[fagg f] w fun e w' => (∃ v er, e = .returned (.tuple #[v, .int .i64 er]) ∧ (er = 0 → fOk f = true ∧ SeesS w' v (fRow f)) ∧ Below w.heap.size w w') := by
  cases h : fOk f
  · refine (fput_no f w h).mono ?_
    rintro e w' ⟨rfl, hb⟩
    exact ⟨_, 1, rfl, fun h => absurd h (by decide), hb⟩
  · refine (fput_yes f w h).mono ?_
    rintro e w' ⟨a, rfl, hs, hb⟩
    exact ⟨_, 0, rfl, fun _ => ⟨rfl, hs⟩, hb⟩
theorem xput_any (x : X) (w : World) : Calls Try.prog 10 #[xagg x] w fun e w' => (∃ v er, e = .returned (.tuple #[v, .int .i64 er]) ∧ (er = 0 → xOk x = true ∧ SeesS w' v (xRow x)) ∧ Below w.heap.size w w') := by
  cases h : xOk x
  · refine (xput_no x w h).mono ?_
    rintro e w' ⟨rfl, hb⟩
    exact ⟨_, 1, rfl, fun h => absurd h (by decide), hb⟩
  · refine (xput_yes x w h).mono ?_
    rintro e w' ⟨a, rfl, hs, hb⟩
    exact ⟨_, 0, rfl, fun _ => ⟨rfl, hs⟩, hb⟩
theorem ftake_put (f : F) (u : Value) (w : World) (h : fOk f = true) (hs : SeesS w u (fRow f)) : Calls Try.prog 19 #[u] w fun e w' => e = .returned (.tuple #[fagg f, .int .i64 0]) ∧ Below w.heap.size w w' := by
  have h2 := tkfeed_any u (fRow f) w hs
  rw [takeF_row h] at h2
  exact h2
theorem xtake_put (x : X) (u : Value) (w : World) (h : xOk x = true) (hs : SeesS w u (xRow x)) : Calls Try.prog 21 #[u] w fun e w' => e = .returned (.tuple #[xagg x, .int .i64 0]) ∧ Below w.heap.size w w' := by
  have h2 := tkep_any u (xRow x) w hs
  rw [takeX_row h] at h2
  exact h2
theorem fput_back (l : List V) (w : World) : Calls Try.prog 9 #[fagg (takeF l).1] w fun e w' => (∃ v er, e = .returned (.tuple #[v, .int .i64 er]) ∧ ((takeF l).2 = 0 → er = 0 ∧ SeesS w' v l) ∧ Below w.heap.size w w') := by
  by_cases h : (takeF l).2 = 0
  · obtain ⟨h1, h2⟩ := takeF_back h
    refine (fput_yes _ w h1).mono ?_
    rintro e w' ⟨a, rfl, hs, hb⟩
    rw [h2] at hs
    exact ⟨_, 0, rfl, fun _ => ⟨rfl, hs⟩, hb⟩
  · refine (fput_any _ w).mono ?_
    rintro e w' ⟨v, er, rfl, -, hb⟩
    exact ⟨v, er, rfl, fun h' => absurd h' h, hb⟩
theorem xput_back (l : List V) (w : World) : Calls Try.prog 10 #[xagg (takeX l).1] w fun e w' => (∃ v er, e = .returned (.tuple #[v, .int .i64 er]) ∧ ((takeX l).2 = 0 → er = 0 ∧ SeesS w' v l) ∧ Below w.heap.size w w') := by
  by_cases h : (takeX l).2 = 0
  · obtain ⟨h1, h2⟩ := takeX_back h
    refine (xput_yes _ w h1).mono ?_
    rintro e w' ⟨a, rfl, hs, hb⟩
    rw [h2] at hs
    exact ⟨_, 0, rfl, fun _ => ⟨rfl, hs⟩, hb⟩
  · refine (xput_any _ w).mono ?_
    rintro e w' ⟨v, er, rfl, -, hb⟩
    exact ⟨v, er, rfl, fun h' => absurd h' h, hb⟩
theorem vsame_true (u v : Value) (l : List V) (w : World) (h1 : SeesS w u l) (h2 : SeesS w v l) (hn : l.length ≤ 1000000) : Calls Try.prog 15 #[u, v] w fun e w' => e = .returned (.bool true) ∧ Below w.heap.size w w' := by
  have h := vsame_any u v l l w h1 h2 hn
  rw [show decide (l = l) = true from decide_eq_true rfl] at h
  exact h
theorem exec_loadS {P : Program} {o : Oper} {a : Act} {w : World} {t : TypeId} {x : Operand} {v : Value} (ho : o.op = .load t x) (p : Value) (hx : a.eval x = p) (hrun : (Instr.loadAt t p).run P w = .ok v w) : (execOp a.eval o).run P w = .ok (.value v) w := by
  unfold execOp
  simp only [ho, Sem.run_bind, Sem.run_pure, hx, hrun, Result.andThen_ok]
end Go.Proofs.Ytahocamjihhjhaa
