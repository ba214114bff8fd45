/-
  What a row is read as: the walks of readFeed and readEp.
-/
import Derived.Test.YtahocamjihhjhaaRowsPut
import Derived.StillTailTactics
import Derived.BigQuiet
import Derived.Laws.Tables
namespace Go.Proofs.Ytahocamjihhjhaa
open Go.RowKit StrM VaryM CodeM RowsM

/-- A struct is written whole, guarded or not. -/
theorem storeF {cs ds : Array Value} (hn : cs.size = 5) (hd : ds.size = 5) (h1 : (ds.all fun x => x.oneCell') = true) (W : World) (g : Nat) (h : W.heap[g]? = some (.cells cs 23)) : (Instr.storeAt 23 (.pointer (some ⟨g, 0, none⟩)) (.agg ds)).run Try.prog W = .ok () (W.setRow g ds) := by
  unfold Instr.storeAt
  simp only [Instr.sureAddr, Sem.run_bind, Sem.run_pure, Result.andThen_ok]
  exact run_storeVar_row W g 23 23 cs ds h (by rw [hd]; kernel_rfl) (by rw [hn, hd]) h1

theorem fcs_one (f : F) : ((fcs f).all fun x => x.oneCell') = true := by simp [fcs, Value.oneCell']
theorem xcs_one (x : X) : ((xcs x).all fun x => x.oneCell') = true := by simp [xcs, Value.oneCell']
theorem storeX {cs ds : Array Value} (hn : cs.size = 20) (hd : ds.size = 20) (h1 : (ds.all fun x => x.oneCell') = true) (W : World) (g : Nat) (h : W.heap[g]? = some (.cells cs 25)) : (Instr.storeAt 25 (.pointer (some ⟨g, 0, none⟩)) (.agg ds)).run Try.prog W = .ok () (W.setRow g ds) := by
  unfold Instr.storeAt
  simp only [Instr.sureAddr, Sem.run_bind, Sem.run_pure, Result.andThen_ok]
  exact run_storeVar_row W g 25 25 cs ds h (by rw [hd]; kernel_rfl) (by rw [hn, hd]) h1
theorem wpList_storeg {P : Program} {ops : Array Oper} {rest : List Oper} {o : Oper} {a : Act} {w w' : World} {Q : Exit → Act → World → Prop} {t : TypeId} {x y : Operand} (hw : Region.wanted o (yielded ops a.tmps) = true) (ho : o.op = .store t x y) (p u : Value) (hx : a.eval x = p) (hy : a.eval y = u) (hrun : (Instr.storeAt t p u).run P w = .ok () w') (h : wpList P ops Q rest (a.put o.dst undef) w') : wpList P ops Q (o :: rest) a w := by
  refine BigFrame.wpList_want hw fun K hK => ?_
  unfold Oper.wp execOp
  simp only [ho, Sem.run_bind, Sem.run_pure, hx, hy, hrun, Result.andThen_ok]
  exact hK _ _ h
/-- A box is written whole: what was below stays. -/
theorem below_put {B : Nat} {A W : World} (h : Below B A W) {g : Nat} (hg : B ≤ g) (cs : Array Value) : Below B A (W.setRow g cs) :=
  ⟨h.os, h.tape, h.output, by rw [setRow_size]; exact h.size, fun j hj => (setRow_other W g j cs (by omega)).trans (h.block j hj)⟩

-- laid from here (gen_rowsread.py)

set_option maxHeartbeats 8000000 in
set_option maxRecDepth 100000 in
theorem rdfeed_any (v : Value) (l : List V) (w : World) (hs : SeesS w v l) : Calls Try.prog 40 #[v] w fun e w' => e = .returned (fagg (fOf l)) ∧ Below w.heap.size w w' := by
  obtain ⟨a, cap, rfl, -⟩ := id hs
  obtain ⟨n, hn⟩ : ∃ n, n = l.length := ⟨_, rfl⟩
  have HS := Lib.hid hs
  rw [← hn] at HS ⊢
  clear hs
  have R1 := Lib.hid (heap_alloc_new w (.cells (fcs zF) 23))
  have K1 := Lib.hid (below_made w (.cells (fcs zF) 23))
  by_cases h6 : n = 6
  · subst h6
    obtain ⟨a0, a1, a2, a3, a4, a5, rfl⟩ := list6 l hn.symm
    clear hn
    obtain ⟨g, off, rfl, hg, -, c1, -⟩ := HS.out.cells (k := 1) (by simp)
    obtain ⟨g2, off2, e2, -, -, -, c2⟩ := HS.out.cells (k := 2) (by simp)
    cases e2
    obtain ⟨g2, off2, e2, -, -, -, c3⟩ := HS.out.cells (k := 3) (by simp)
    cases e2
    obtain ⟨g2, off2, e2, -, -, c4, -⟩ := HS.out.cells (k := 4) (by simp)
    cases e2
    obtain ⟨g2, off2, e2, -, -, c5, -⟩ := HS.out.cells (k := 5) (by simp)
    cases e2
    simp only [List.getElem_cons_succ, List.getElem_cons_zero, Nat.reduceMul, Nat.add_assoc, Nat.reduceAdd] at c1 c2 c3 c4 c5
    change Calls Try.prog 40 #[.slice (some ⟨g, off, none⟩) 6 cap] w fun e w' => e = .returned (.agg (fcs ⟨a1.n, a2.t, a3.t, a4.n, a5.n⟩)) ∧ Below w.heap.size w w'
    generalize a1.n = b1 at *
    generalize a2.t = b2 at *
    generalize a3.t = b3 at *
    generalize a4.n = b4 at *
    generalize a5.n = b5 at *
    clear HS
    replace c1 := (K1.out.cell (p := ⟨g, _, none⟩) hg).trans c1
    replace c2 := (K1.out.cell (p := ⟨g, _, none⟩) hg).trans c2
    replace c3 := (K1.out.cell (p := ⟨g, _, none⟩) hg).trans c3
    replace c4 := (K1.out.cell (p := ⟨g, _, none⟩) hg).trans c4
    replace c5 := (K1.out.cell (p := ⟨g, _, none⟩) hg).trans c5
    go_enter Try.func40, Try.ntmps40
    go_wp2_with fail
    change Code.wp _ _ _ _ (w.alloc (.cells (fcs zF) 23))
    generalize w.alloc (.cells (fcs zF) 23) = w1 at *
    have S1 := Lib.hid (storeF (ds := fcs ⟨b1, b2, b3, b4, b5⟩) rfl rfl (fcs_one _) w1.drew w.heap.size R1.out)
    have R2 := Lib.hid (setRow_heap w1.drew w.heap.size _ (fcs ⟨b1, b2, b3, b4, b5⟩) _ _ R1.out)
    have K2 := Lib.hid (below_put (K1.out.trans (show Below w.heap.size w1 w1.drew from ⟨rfl, rfl, rfl, Nat.le_refl _, fun _ _ => rfl⟩)) (Nat.le_refl _) (fcs ⟨b1, b2, b3, b4, b5⟩))
    go_still_tail 21, (by kernel_rfl)
    change wpList _ _ _ _ _ w1.drew
    go_wp2_with (refine wpList_storeg (t := 23) (x := .tmp 2) (y := .tmp 27) rfl rfl (.pointer (some ⟨w.heap.size, 0, none⟩)) (.agg (fcs ⟨b1, b2, b3, b4, b5⟩)) rfl rfl S1.out ?_)
    exact bodyPost_ret (results_cell_row rfl _ _ w.heap.size _ _ _ _ rfl R2.out Try.underlying23 rfl (by kernel_rfl)) rfl ⟨rfl, K2.out⟩
  · rw [fOf_else (by omega)]
    have d1 : ((n : Int) == 6) = false := by simp; omega
    have d2 : (n == 6) = false := by simpa using h6
    have S1 := Lib.hid (storeF (ds := fcs zF) rfl rfl (fcs_one _) _ w.heap.size R1.out)
    have R2 := Lib.hid (setRow_heap _ w.heap.size _ (fcs zF) _ _ R1.out)
    have K2 := Lib.hid (below_put K1.out (Nat.le_refl _) (fcs zF))
    clear hn HS
    go_enter Try.func40, Try.ntmps40
    go_wp2_with (refine wpList_storeg (t := 23) (x := .tmp 2) (y := .tmp 6) rfl rfl (.pointer (some ⟨w.heap.size, 0, none⟩)) (.agg (fcs zF)) rfl rfl S1.out ?_)
    exact bodyPost_ret (results_cell_row rfl _ _ w.heap.size _ _ _ _ rfl R2.out Try.underlying23 rfl (by kernel_rfl)) rfl ⟨rfl, K2.out⟩

set_option maxHeartbeats 8000000 in
set_option maxRecDepth 100000 in
theorem rdep_any (v : Value) (l : List V) (w : World) (hs : SeesS w v l) : Calls Try.prog 43 #[v] w fun e w' => e = .returned (xagg (xOf l)) ∧ Below w.heap.size w w' := by
  obtain ⟨a, cap, rfl, -⟩ := id hs
  obtain ⟨n, hn⟩ : ∃ n, n = l.length := ⟨_, rfl⟩
  have HS := Lib.hid hs
  rw [← hn] at HS ⊢
  clear hs
  have R1 := Lib.hid (heap_alloc_new w (.cells (xcs zX) 25))
  have K1 := Lib.hid (below_made w (.cells (xcs zX) 25))
  by_cases h6 : n = 21
  · subst h6
    obtain ⟨a0, a1, a2, a3, a4, a5, a6, a7, a8, a9, a10, a11, a12, a13, a14, a15, a16, a17, a18, a19, a20, rfl⟩ := list21 l hn.symm
    clear hn
    obtain ⟨g, off, rfl, hg, -, c1, -⟩ := HS.out.cells (k := 1) (by simp)
    obtain ⟨g2, off2, e2, -, -, c2, -⟩ := HS.out.cells (k := 2) (by simp)
    cases e2
    obtain ⟨g2, off2, e2, -, -, -, c3⟩ := HS.out.cells (k := 3) (by simp)
    cases e2
    obtain ⟨g2, off2, e2, -, -, -, c4⟩ := HS.out.cells (k := 4) (by simp)
    cases e2
    obtain ⟨g2, off2, e2, -, -, -, c5⟩ := HS.out.cells (k := 5) (by simp)
    cases e2
    obtain ⟨g2, off2, e2, -, -, c6, -⟩ := HS.out.cells (k := 6) (by simp)
    cases e2
    obtain ⟨g2, off2, e2, -, -, c7, -⟩ := HS.out.cells (k := 7) (by simp)
    cases e2
    obtain ⟨g2, off2, e2, -, -, c8, -⟩ := HS.out.cells (k := 8) (by simp)
    cases e2
    obtain ⟨g2, off2, e2, -, -, c9, -⟩ := HS.out.cells (k := 9) (by simp)
    cases e2
    obtain ⟨g2, off2, e2, -, -, c10, -⟩ := HS.out.cells (k := 10) (by simp)
    cases e2
    obtain ⟨g2, off2, e2, -, -, c11, -⟩ := HS.out.cells (k := 11) (by simp)
    cases e2
    obtain ⟨g2, off2, e2, -, -, c12, -⟩ := HS.out.cells (k := 12) (by simp)
    cases e2
    obtain ⟨g2, off2, e2, -, -, c13, -⟩ := HS.out.cells (k := 13) (by simp)
    cases e2
    obtain ⟨g2, off2, e2, -, -, -, c14⟩ := HS.out.cells (k := 14) (by simp)
    cases e2
    obtain ⟨g2, off2, e2, -, -, c15, -⟩ := HS.out.cells (k := 15) (by simp)
    cases e2
    obtain ⟨g2, off2, e2, -, -, c16, -⟩ := HS.out.cells (k := 16) (by simp)
    cases e2
    obtain ⟨g2, off2, e2, -, -, -, c17⟩ := HS.out.cells (k := 17) (by simp)
    cases e2
    obtain ⟨g2, off2, e2, -, -, c18, -⟩ := HS.out.cells (k := 18) (by simp)
    cases e2
    obtain ⟨g2, off2, e2, -, -, c19, -⟩ := HS.out.cells (k := 19) (by simp)
    cases e2
    obtain ⟨g2, off2, e2, -, -, -, c20⟩ := HS.out.cells (k := 20) (by simp)
    cases e2
    simp only [List.getElem_cons_succ, List.getElem_cons_zero, Nat.reduceMul, Nat.add_assoc, Nat.reduceAdd] at c1 c2 c3 c4 c5 c6 c7 c8 c9 c10 c11 c12 c13 c14 c15 c16 c17 c18 c19 c20
    change Calls Try.prog 43 #[.slice (some ⟨g, off, none⟩) 21 cap] w fun e w' => e = .returned (.agg (xcs ⟨a1.n, a2.n, a3.t, a4.t, a5.t, a6.n, a7.n, a8.n, a9.n, (a10.n == 1), a11.n, a12.n, a13.n, a14.t, a15.n, a16.n, a17.t, a18.n, a19.n, a20.t⟩)) ∧ Below w.heap.size w w'
    generalize a1.n = b1 at *
    generalize a2.n = b2 at *
    generalize a3.t = b3 at *
    generalize a4.t = b4 at *
    generalize a5.t = b5 at *
    generalize a6.n = b6 at *
    generalize a7.n = b7 at *
    generalize a8.n = b8 at *
    generalize a9.n = b9 at *
    generalize a10.n = b10 at *
    generalize a11.n = b11 at *
    generalize a12.n = b12 at *
    generalize a13.n = b13 at *
    generalize a14.t = b14 at *
    generalize a15.n = b15 at *
    generalize a16.n = b16 at *
    generalize a17.t = b17 at *
    generalize a18.n = b18 at *
    generalize a19.n = b19 at *
    generalize a20.t = b20 at *
    clear HS
    replace c1 := (K1.out.cell (p := ⟨g, _, none⟩) hg).trans c1
    replace c2 := (K1.out.cell (p := ⟨g, _, none⟩) hg).trans c2
    replace c3 := (K1.out.cell (p := ⟨g, _, none⟩) hg).trans c3
    replace c4 := (K1.out.cell (p := ⟨g, _, none⟩) hg).trans c4
    replace c5 := (K1.out.cell (p := ⟨g, _, none⟩) hg).trans c5
    replace c6 := (K1.out.cell (p := ⟨g, _, none⟩) hg).trans c6
    replace c7 := (K1.out.cell (p := ⟨g, _, none⟩) hg).trans c7
    replace c8 := (K1.out.cell (p := ⟨g, _, none⟩) hg).trans c8
    replace c9 := (K1.out.cell (p := ⟨g, _, none⟩) hg).trans c9
    replace c10 := (K1.out.cell (p := ⟨g, _, none⟩) hg).trans c10
    replace c11 := (K1.out.cell (p := ⟨g, _, none⟩) hg).trans c11
    replace c12 := (K1.out.cell (p := ⟨g, _, none⟩) hg).trans c12
    replace c13 := (K1.out.cell (p := ⟨g, _, none⟩) hg).trans c13
    replace c14 := (K1.out.cell (p := ⟨g, _, none⟩) hg).trans c14
    replace c15 := (K1.out.cell (p := ⟨g, _, none⟩) hg).trans c15
    replace c16 := (K1.out.cell (p := ⟨g, _, none⟩) hg).trans c16
    replace c17 := (K1.out.cell (p := ⟨g, _, none⟩) hg).trans c17
    replace c18 := (K1.out.cell (p := ⟨g, _, none⟩) hg).trans c18
    replace c19 := (K1.out.cell (p := ⟨g, _, none⟩) hg).trans c19
    replace c20 := (K1.out.cell (p := ⟨g, _, none⟩) hg).trans c20
    go_enter Try.func43, Try.ntmps43
    go_wp2_with fail
    change Code.wp _ _ _ _ (w.alloc (.cells (xcs zX) 25))
    generalize w.alloc (.cells (xcs zX) 25) = w1 at *
    have S1 := Lib.hid (storeX (ds := xcs ⟨b1, b2, b3, b4, b5, b6, b7, b8, b9, (b10 == 1), b11, b12, b13, b14, b15, b16, b17, b18, b19, b20⟩) rfl rfl (xcs_one _) w1.drew w.heap.size R1.out)
    have R2 := Lib.hid (setRow_heap w1.drew w.heap.size _ (xcs ⟨b1, b2, b3, b4, b5, b6, b7, b8, b9, (b10 == 1), b11, b12, b13, b14, b15, b16, b17, b18, b19, b20⟩) _ _ R1.out)
    have K2 := Lib.hid (below_put (K1.out.trans (show Below w.heap.size w1 w1.drew from ⟨rfl, rfl, rfl, Nat.le_refl _, fun _ _ => rfl⟩)) (Nat.le_refl _) (xcs ⟨b1, b2, b3, b4, b5, b6, b7, b8, b9, (b10 == 1), b11, b12, b13, b14, b15, b16, b17, b18, b19, b20⟩))
    dsimp only [List.append]
    go_still_tail 82, (by kernel_rfl)
    change wpList _ _ _ _ _ w1.drew
    go_wp2_with (refine wpList_storeg (t := 25) (x := .tmp 2) (y := .tmp 88) rfl rfl (.pointer (some ⟨w.heap.size, 0, none⟩)) (.agg (xcs ⟨b1, b2, b3, b4, b5, b6, b7, b8, b9, (b10 == 1), b11, b12, b13, b14, b15, b16, b17, b18, b19, b20⟩)) rfl rfl S1.out ?_)
    exact bodyPost_ret (results_cell_row rfl _ _ w.heap.size _ _ _ _ rfl R2.out Try.underlying25 rfl (by kernel_rfl)) rfl ⟨rfl, K2.out⟩
  · rw [xOf_else (by omega)]
    have d1 : ((n : Int) == 21) = false := by simp; omega
    have d2 : (n == 21) = false := by simpa using h6
    have S1 := Lib.hid (storeX (ds := xcs zX) rfl rfl (xcs_one _) _ w.heap.size R1.out)
    have R2 := Lib.hid (setRow_heap _ w.heap.size _ (xcs zX) _ _ R1.out)
    have K2 := Lib.hid (below_put K1.out (Nat.le_refl _) (xcs zX))
    clear hn HS
    go_enter Try.func43, Try.ntmps43
    go_wp2_with (refine wpList_storeg (t := 25) (x := .tmp 2) (y := .tmp 6) rfl rfl (.pointer (some ⟨w.heap.size, 0, none⟩)) (.agg (xcs zX)) rfl rfl S1.out ?_)
    exact bodyPost_ret (results_cell_row rfl _ _ w.heap.size _ _ _ _ rfl R2.out Try.underlying25 rfl (by kernel_rfl)) rfl ⟨rfl, K2.out⟩
end Go.Proofs.Ytahocamjihhjhaa
