/-
  The walks of valid, state, attempt, reached, Down, Ops, Trip and Stop.
-/
import Derived.Test.YtaklilhnikmmfaaGreatDiskRow
namespace Go.Proofs.YtaklilhnikmmfaaGreat
open Go.RowKit StrM BlockM FileM DirM DiskM

/-- A disk that New did not create. -/
def ZBox (w : World) (p : Nat) : Prop := w.heap[p]? = some (.cells #[.int .i64 0, .slice none 0 0, .slice none 0 0, .slice none 0 0, .map none, .int .i64 0, .int .i64 0, .int .i64 0, .int .i64 0, .bool false] 59 (0, 0))
def Dead (w : World) (v : Value) : Prop := v = .pointer none ∨ ∃ p, v = .pointer (some ⟨p, 0, none⟩) ∧ ZBox w p
theorem ZBox.cells {w : World} {p : Nat} (h : ZBox w p) : w.cell? ⟨p, 4, none⟩ = some (.map none) := by
  unfold ZBox at h
  rw [cell_of_row w p _ _ _ (0, 0) h]; rfl
theorem Dead.later {w w' : World} {v : Value} (h : Dead w v) (hb : Below w.heap.size w w') : Dead w' v := by
  rcases h with h | ⟨p, h, hz⟩
  · exact .inl h
  · refine .inr ⟨p, h, ?_⟩
    have := hb.block p (Array.getElem?_eq_some_iff.1 hz).1
    unfold ZBox at hz ⊢
    rw [this]; exact hz

theorem neq_map (W : World) (m : Option Nat) : (binOp .neq 57 (.map m) (.map none)).run Tryz.prog W = .ok (.bool m.isSome) W := by
  have h : ∀ d : Nat, (Op.equalIn (d + 1) 57 (.map m) (.map none)).run Tryz.prog W = .ok m.isNone W := fun d => by
    cases m <;> simp [Op.equalIn, run_underlying Tryz.underlying57]
  simp only [binOp]
  simp [Op.equal, Op.maxDepth, h 9999]
set_option maxRecDepth 100000 in
theorem valid_dead (v : Value) (w : World) (h : Dead w v) : Calls Tryz.prog 37 #[v] w fun e w' => e = .returned (.bool false) ∧ w = w' := by
  rcases h with rfl | ⟨p, rfl, hz⟩
  · go_enter Tryz.func37, Tryz.ntmps37
    go_wp2_with fail
    go_ret
    exact ⟨rfl, rfl⟩
  · have c4 := hz.cells
    have EM := fun W => neq_map W none
    clear hz
    go_enter Tryz.func37, Tryz.ntmps37
    go_wp2_with fail
    go_ret
    exact ⟨rfl, rfl⟩
set_option maxRecDepth 100000 in
theorem valid_live (p : Nat) (r : Raw) (w : World) (h : KBox w p r) : Calls Tryz.prog 37 #[.pointer (some ⟨p, 0, none⟩)] w fun e w' => e = .returned (.bool true) ∧ w = w' := by
  obtain ⟨-, -, -, -, c4, -⟩ := h.cells
  have EM := fun W => neq_map W (some r.m)
  clear h
  go_enter Tryz.func37, Tryz.ntmps37
  go_wp2_with fail
  go_ret
  exact ⟨rfl, rfl⟩

theorem state_dead (v : Value) (w : World) (h : Dead w v) : Calls Tryz.prog 38 #[v] w fun e w' => e = .returned (.int .i64 10) ∧ w = w' := by
  have VD := Lib.hid (valid_dead v w h)
  clear h
  go_enter Tryz.func38, Tryz.ntmps38
  go_wp2_with fail
  refine VD.out.mono ?_
  rintro e w' ⟨rfl, rfl⟩
  go_wp2_with fail
  go_ret
  exact ⟨rfl, rfl⟩
theorem state_live (p : Nat) (r : Raw) (w : World) (h : KBox w p r) : Calls Tryz.prog 38 #[.pointer (some ⟨p, 0, none⟩)] w fun e w' => e = .returned (.int .i64 (if r.down then 9 else 0)) ∧ w = w' := by
  have VD := Lib.hid (valid_live p r w h)
  obtain ⟨-, -, -, -, -, -, -, -, -, c9⟩ := h.cells
  clear h
  generalize r.down = d at *
  go_enter Tryz.func38, Tryz.ntmps38
  go_wp2_with fail
  refine VD.out.mono ?_
  rintro e w' ⟨rfl, rfl⟩
  clear VD
  cases d with
  | true =>
    go_wp2_with fail
    go_ret
    exact ⟨rfl, rfl⟩
  | false =>
    go_wp2_with fail
    go_ret
    exact ⟨rfl, rfl⟩

theorem attempt_dead (v : Value) (w : World) (h : Dead w v) : Calls Tryz.prog 47 #[v] w fun e w' => e = .returned (.int .i64 10) ∧ w = w' := by
  have VD := Lib.hid (state_dead v w h)
  clear h
  go_enter Tryz.func47, Tryz.ntmps47
  go_wp2_with fail
  refine VD.out.mono ?_
  rintro e w' ⟨rfl, rfl⟩
  go_wp2_with fail
  go_ret
  exact ⟨rfl, rfl⟩
theorem attempt_up (p : Nat) (r : Raw) (w : World) (h : KBox w p r) (hd : r.down = false) : Calls Tryz.prog 47 #[.pointer (some ⟨p, 0, none⟩)] w fun e w' => e = .returned (.int .i64 0) ∧ w = w' := by
  have VD := Lib.hid (state_live p r w h)
  rw [hd] at VD
  clear h hd
  go_enter Tryz.func47, Tryz.ntmps47
  go_wp2_with fail
  refine VD.out.mono ?_
  rintro e w' ⟨rfl, rfl⟩
  clear VD
  go_wp2_with fail
  go_ret
  exact ⟨rfl, rfl⟩
theorem attempt_down (p : Nat) (r : Raw) (w : World) (h : KBox w p r) (hd : r.down = true) (h0 : 0 ≤ r.ops) (h1 : r.ops ≤ 1000000) :
    Calls Tryz.prog 47 #[.pointer (some ⟨p, 0, none⟩)] w fun e w' => e = .returned (.int .i64 9) ∧ w' = w.setCell ⟨p, 6, none⟩ (.int .i64 (r.ops + 1)) := by
  have VD := Lib.hid (state_live p r w h)
  rw [hd] at VD
  obtain ⟨-, -, -, -, -, -, c6, -⟩ := h.cells
  have f6 := h.soft 6
  clear h hd
  generalize r.ops = n at *
  go_enter Tryz.func47, Tryz.ntmps47
  go_wp2_with fail
  refine VD.out.mono ?_
  rintro e w' ⟨rfl, rfl⟩
  clear VD
  go_wp2_with fail
  go_ret
  exact ⟨rfl, rfl⟩

/-- reached, at a cell that holds a number. -/
theorem reached_any (p i : Nat) (n : Int) (w : World) (hc : w.cell? ⟨p, i, none⟩ = some (.int .i64 n)) (hf : w.frozen? ⟨p, i, none⟩ = false) (h1 : n ≤ 9223372036854775807) :
    Calls Tryz.prog 80 #[.pointer (some ⟨p, i, none⟩)] w fun e w' => e = .returned (.bool (decide (n = 1))) ∧ w' = if n < 1 then w else w.setCell ⟨p, i, none⟩ (.int .i64 (n - 1)) := by
  by_cases hn : n < 1
  · have HX := Lib.hid (show false = decide (n = 1) by simp; omega)
    rw [if_pos hn]
    go_enter Tryz.func80, Tryz.ntmps80
    go_wp2_with fail
    go_ret
    exact ⟨ret_bool HX.out, rfl⟩
  · rw [if_neg hn]
    by_cases h0 : n = 1
    · subst h0
      go_enter Tryz.func80, Tryz.ntmps80
      go_wp2_with fail
      go_ret
      exact ⟨rfl, rfl⟩
    · have HX := Lib.hid (show false = decide (n = 1) by simp; omega)
      have d1 : (n - 1 == 0) = false := by simp; omega
      have b1 : 1 ≤ n := by omega
      clear h0
      go_enter Tryz.func80, Tryz.ntmps80
      go_wp2_with fail
      go_ret
      exact ⟨ret_bool HX.out, rfl⟩

theorem down_dead (v : Value) (w : World) (h : Dead w v) : Calls Tryz.prog 12 #[v] w fun e w' => e = .returned (.bool false) ∧ w = w' := by
  have VD := Lib.hid (valid_dead v w h)
  clear h
  go_enter Tryz.func12, Tryz.ntmps12
  go_wp2_with fail
  refine VD.out.mono ?_
  rintro e w' ⟨rfl, rfl⟩
  go_wp2_with fail
  go_ret
  exact ⟨rfl, rfl⟩
theorem down_live (p : Nat) (r : Raw) (w : World) (h : KBox w p r) : Calls Tryz.prog 12 #[.pointer (some ⟨p, 0, none⟩)] w fun e w' => e = .returned (.bool r.down) ∧ w = w' := by
  have VD := Lib.hid (valid_live p r w h)
  obtain ⟨-, -, -, -, -, -, -, -, -, c9⟩ := h.cells
  clear h
  generalize r.down = d at *
  go_enter Tryz.func12, Tryz.ntmps12
  go_wp2_with fail
  refine VD.out.mono ?_
  rintro e w' ⟨rfl, rfl⟩
  clear VD
  go_wp2_with fail
  go_ret
  exact ⟨rfl, rfl⟩
theorem ops_dead (v : Value) (w : World) (h : Dead w v) : Calls Tryz.prog 13 #[v] w fun e w' => e = .returned (.int .i64 0) ∧ w = w' := by
  have VD := Lib.hid (valid_dead v w h)
  clear h
  go_enter Tryz.func13, Tryz.ntmps13
  go_wp2_with fail
  refine VD.out.mono ?_
  rintro e w' ⟨rfl, rfl⟩
  go_wp2_with fail
  go_ret
  exact ⟨rfl, rfl⟩
theorem ops_live (p : Nat) (r : Raw) (w : World) (h : KBox w p r) : Calls Tryz.prog 13 #[.pointer (some ⟨p, 0, none⟩)] w fun e w' => e = .returned (.int .i64 r.ops) ∧ w = w' := by
  have VD := Lib.hid (valid_live p r w h)
  obtain ⟨-, -, -, -, -, -, c6, -⟩ := h.cells
  clear h
  generalize r.ops = d at *
  go_enter Tryz.func13, Tryz.ntmps13
  go_wp2_with fail
  refine VD.out.mono ?_
  rintro e w' ⟨rfl, rfl⟩
  clear VD
  go_wp2_with fail
  go_ret
  exact ⟨rfl, rfl⟩

theorem trip_dead (v : Value) (n : Int) (w : World) (h : Dead w v) : Calls Tryz.prog 31 #[v, .int .i64 n] w fun e w' => e = .returned (.tuple #[]) ∧ w = w' := by
  have VD := Lib.hid (valid_dead v w h)
  clear h
  go_enter Tryz.func31, Tryz.ntmps31
  go_wp2_with fail
  refine VD.out.mono ?_
  rintro e w' ⟨rfl, rfl⟩
  go_wp2_with fail
  exact bodyPost_end (results_none rfl _ _ _) rfl ⟨rfl, rfl⟩
theorem trip_live (p : Nat) (r : Raw) (n : Int) (w : World) (h : KBox w p r) : Calls Tryz.prog 31 #[.pointer (some ⟨p, 0, none⟩), .int .i64 n] w fun e w' => e = .returned (.tuple #[]) ∧ w' = w.setCell ⟨p, 7, none⟩ (.int .i64 n) := by
  have VD := Lib.hid (valid_live p r w h)
  obtain ⟨-, -, -, -, -, -, -, c7, -⟩ := h.cells
  have f7 := h.soft 7
  clear h
  go_enter Tryz.func31, Tryz.ntmps31
  go_wp2_with fail
  refine VD.out.mono ?_
  rintro e w' ⟨rfl, rfl⟩
  clear VD
  go_wp2_with fail
  exact bodyPost_end (results_none rfl _ _ _) rfl ⟨rfl, rfl⟩
theorem stop_dead (v : Value) (n : Int) (w : World) (h : Dead w v) : Calls Tryz.prog 27 #[v, .int .i64 n] w fun e w' => e = .returned (.tuple #[]) ∧ w = w' := by
  have VD := Lib.hid (valid_dead v w h)
  clear h
  go_enter Tryz.func27, Tryz.ntmps27
  go_wp2_with fail
  refine VD.out.mono ?_
  rintro e w' ⟨rfl, rfl⟩
  go_wp2_with fail
  exact bodyPost_end (results_none rfl _ _ _) rfl ⟨rfl, rfl⟩
theorem stop_live (p : Nat) (r : Raw) (n : Int) (w : World) (h : KBox w p r) : Calls Tryz.prog 27 #[.pointer (some ⟨p, 0, none⟩), .int .i64 n] w fun e w' => e = .returned (.tuple #[]) ∧ w' = w.setCell ⟨p, 8, none⟩ (.int .i64 n) := by
  have VD := Lib.hid (valid_live p r w h)
  obtain ⟨-, -, -, -, -, -, -, -, c8, -⟩ := h.cells
  have f8 := h.soft 8
  clear h
  go_enter Tryz.func27, Tryz.ntmps27
  go_wp2_with fail
  refine VD.out.mono ?_
  rintro e w' ⟨rfl, rfl⟩
  clear VD
  go_wp2_with fail
  exact bodyPost_end (results_none rfl _ _ _) rfl ⟨rfl, rfl⟩
end Go.Proofs.YtaklilhnikmmfaaGreat
