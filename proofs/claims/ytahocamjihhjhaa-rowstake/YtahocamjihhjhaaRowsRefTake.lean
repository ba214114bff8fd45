/-
  The feed, and the episode, of a row: the reference's walks (laid by gen_rowsreftake.py).
-/
import Derived.Test.YtahocamjihhjhaaRowsTake
import Derived.Test.YtahocamjihhjhaaRowsRefRight
import Derived.Test.YtahocamjihhjhaaRowsRefPut
namespace Go.Proofs.Ytahocamjihhjhaa
open Go.RowKit StrM VaryM CodeM RowsM

theorem step_storeW {P : Program} {ops : Array Oper} {o : Oper} {a : Act} {w w' : World} {Q : Exit → Act → World → Prop} {t : TypeId} {x y : Operand} {K : Act → World → Prop} {E : Prop} (hgd : o.guard = none) (ho : o.op = .store t x y) (p u : Value) (hx : a.eval x = p) (hy : a.eval y = u) (hrun : (Instr.storeAt t p u).run P w = .ok () w') (h : K (a.put o.dst undef) w') :
    if Region.wanted o (yielded ops a.tmps) = true then Oper.wp P o a w K Q else E := by
  have hw : Region.wanted o (yielded ops a.tmps) = true := by simp [Region.wanted, hgd]
  rw [if_pos hw]
  unfold Oper.wp execOp
  simp only [ho, Sem.run_bind, Sem.run_pure, hx, hy, hrun, Result.andThen_ok]
  exact h
set_option maxRecDepth 100000 in
theorem allocF (W : World) : (Instr.alloc 23 true (.tuple #[])).run Try.prog W = .ok (.pointer (some ⟨W.heap.size, 0, none⟩)) (W.alloc (.cells (fcs zF) 23)) := by
  kernel_rfl
set_option maxRecDepth 100000 in
theorem allocX (W : World) : (Instr.alloc 25 true (.tuple #[])).run Try.prog W = .ok (.pointer (some ⟨W.heap.size, 0, none⟩)) (W.alloc (.cells (xcs zX) 25)) := by
  kernel_rfl
theorem step_allocW {P : Program} {ops : Array Oper} {o : Oper} {a : Act} {w w' : World} {Q : Exit → Act → World → Prop} {t : TypeId} {p : Value} {K : Act → World → Prop} {E : Prop} (hgd : o.guard = none) (ho : o.op = .alloc t) (hrun : (Instr.alloc t true (.tuple #[])).run P w = .ok p w') (h : ∀ W, w' = W → K (a.put o.dst p) W) :
    if Region.wanted o (yielded ops a.tmps) = true then Oper.wp P o a w K Q else E := by
  have hw : Region.wanted o (yielded ops a.tmps) = true := by simp [Region.wanted, hgd]
  rw [if_pos hw]
  unfold Oper.wp execOp
  simp only [ho, Sem.run_bind, Sem.run_pure, hrun, Result.andThen_ok]
  exact h _ rfl

set_option maxHeartbeats 16000000 in
set_option maxRecDepth 100000 in
theorem rtkfeed_any (v : Value) (l : List V) (w : World) (hs : SeesS w v l) : Calls Try.prog 20 #[v] w fun e w' => e = .returned (.tuple #[fagg (takeF l).1, .int .i64 (takeF l).2]) ∧ Below w.heap.size w w' := by
  obtain ⟨a, cap, rfl, -⟩ := id hs
  obtain ⟨n, hn⟩ : ∃ n, n = l.length := ⟨_, rfl⟩
  have HS := Lib.hid hs
  rw [← hn] at HS ⊢
  clear hs
  have R1 := Lib.hid (heap_alloc_new w (.cells (fcs zF) 23))
  have K1 := Lib.hid (below_made w (.cells (fcs zF) 23))
  rw [fagg_cs]
  by_cases h6 : n = 6
  · subst h6
    have SM := Lib.hid (fun (W : World) (u : Value) (hu : SeesS W u (fRow (fOf2 (fOf l)))) (hb : Below w.heap.size w W) => vsame_any u _ (fRow (fOf2 (fOf l))) l W hu (HS.out.later hb) (by rw [fRow_len]; decide))
    have HT := Lib.hid (take2F l)
    obtain ⟨a0, a1, a2, a3, a4, a5, hl⟩ := list6 l hn.symm
    have hl2 : l.length = 6 := hn.symm
    clear hn
    obtain ⟨g, off, rfl, hg, -, c1, -⟩ := HS.out.cells (k := 1) (by omega)
    obtain ⟨g2, off2, e2, -, -, -, c2⟩ := HS.out.cells (k := 2) (by omega)
    cases e2
    obtain ⟨g2, off2, e2, -, -, -, c3⟩ := HS.out.cells (k := 3) (by omega)
    cases e2
    obtain ⟨g2, off2, e2, -, -, c4, -⟩ := HS.out.cells (k := 4) (by omega)
    cases e2
    obtain ⟨g2, off2, e2, -, -, c5, -⟩ := HS.out.cells (k := 5) (by omega)
    cases e2
    simp only [hl, List.getElem_cons_succ, List.getElem_cons_zero, Nat.reduceMul, Nat.add_assoc, Nat.reduceAdd] at c1 c2 c3 c4 c5
    obtain ⟨f2, hf2⟩ : ∃ f2, f2 = fOf2 (fOf l) := ⟨_, rfl⟩
    have he : f2 = ⟨i20 a1.n, a2.t, a3.t, a4.n, i20 a5.n⟩ := by rw [hf2, hl]; rfl
    rw [← hf2] at SM HT
    clear hf2 hl hl2
    generalize a1.n = b1 at *
    generalize a2.t = b2 at *
    generalize a3.t = b3 at *
    generalize a4.n = b4 at *
    generalize a5.n = b5 at *
    have HE := Lib.hid he
    clear he
    clear a0 a1 a2 a3 a4 a5
    have HC1 := Lib.hid (fun W (hW : Below w.heap.size w W) => (hW.cell (p := ⟨g, _, none⟩) hg).trans c1)
    have HC2 := Lib.hid (fun W (hW : Below w.heap.size w W) => (hW.cell (p := ⟨g, _, none⟩) hg).trans c2)
    have HC3 := Lib.hid (fun W (hW : Below w.heap.size w W) => (hW.cell (p := ⟨g, _, none⟩) hg).trans c3)
    have HC4 := Lib.hid (fun W (hW : Below w.heap.size w W) => (hW.cell (p := ⟨g, _, none⟩) hg).trans c4)
    have HC5 := Lib.hid (fun W (hW : Below w.heap.size w W) => (hW.cell (p := ⟨g, _, none⟩) hg).trans c5)
    clear hg c1 c2 c3 c4 c5
    generalize htk : takeF l = tk at *
    clear htk
    have RR := Lib.hid (fun W => rfright_any f2 W)
    have RW := Lib.hid (fun W => rfrow_any f2 W)
    rw [fagg_cs] at RR RW
    have IX := Lib.hid (fun n W => ri20_any n W)
    go_enter Try.func20, Try.ntmps20
    go_upto_region 3 with fail
    obtain ⟨w1, hw1⟩ : ∃ w1, w1 = w.alloc (.cells (fcs zF) 23) := ⟨_, rfl⟩
    rw [← hw1] at R1 K1
    have hw2 : w.alloc (.cells #[.int .i64 0, .string ⟨#[]⟩, .string ⟨#[]⟩, .int .i64 0, .int .i64 0] 23) = w1 := hw1.symm
    rw [hw2]
    clear hw1 hw2
    go_cut [4] from 9 to 31 (fun s4 wx => s4 = .pointer (some ⟨w1.heap.size, 0, none⟩) ∧ wx.heap[w1.heap.size]? = some (.cells (fcs f2) 23) ∧ Below w1.heap.size w1 wx)
    case first =>
      have BD := Lib.hid (below_drew w1 (Nat.le_refl _))
      have hE := HE.out
      subst hE
      refine wp_region_held_drew (S := fun W => Below w.heap.size w W) (by kernel_rfl) (K1.out.trans (BD.out.mono K1.out.size)) (fun hHeld => ?_)
      refine wpAnyH_take (i := 0) (oi := ⟨some 9, _, _, _, _, _⟩) (v := .slice (some ⟨g, off, none⟩) 6 cap) rfl (by as_aux_lemma => kernel_rfl) (by as_aux_lemma => kernel_rfl) (by as_aux_lemma => kernel_rfl) (fun _ _ _ h => h) (Or.inl ⟨by rfl, ?_⟩) (by assumption) ?_
      · intro W hSw
        kernel_rfl
      try simp only [Act.put, List.setIfInBounds_toArray, List.set_cons_zero, List.set_cons_succ]
      refine wpAnyH_take (i := 1) (oi := ⟨some 10, _, _, _, _, _⟩) (v := .pointer (some ⟨g, off + 3, none⟩)) rfl (by as_aux_lemma => kernel_rfl) (by as_aux_lemma => kernel_rfl) (by as_aux_lemma => kernel_rfl) (fun _ _ _ h => h) (Or.inl ⟨by rfl, ?_⟩) (by assumption) ?_
      · intro W hSw
        try dsimp only at hSw
        go_simp
      try simp only [Act.put, List.setIfInBounds_toArray, List.set_cons_zero, List.set_cons_succ]
      refine wpAnyH_take (i := 2) (oi := ⟨some 11, _, _, _, _, _⟩) (v := .pointer (some ⟨g, off + 3 + 1, none⟩)) rfl (by as_aux_lemma => kernel_rfl) (by as_aux_lemma => kernel_rfl) (by as_aux_lemma => kernel_rfl) (fun _ _ _ h => h) (Or.inl ⟨by rfl, ?_⟩) (by assumption) ?_
      · intro W hSw
        try dsimp only at hSw
        go_simp
      try simp only [Act.put, List.setIfInBounds_toArray, List.set_cons_zero, List.set_cons_succ]
      refine wpAnyH_take (i := 3) (oi := ⟨some 12, _, _, _, _, _⟩) (v := .int .i64 b1) rfl (by as_aux_lemma => kernel_rfl) (by as_aux_lemma => kernel_rfl) (by as_aux_lemma => kernel_rfl) (fun _ _ _ h => h) (Or.inl ⟨by rfl, ?_⟩) (by assumption) ?_
      · intro W hSw
        have hc := HC1.out W hSw
        clear hSw
        go_simp
      try simp only [Act.put, List.setIfInBounds_toArray, List.set_cons_zero, List.set_cons_succ]
      refine wpAnyH_take (i := 5) (oi := ⟨some 14, _, _, _, _, _⟩) (v := .slice (some ⟨g, off, none⟩) 6 cap) rfl (by as_aux_lemma => kernel_rfl) (by as_aux_lemma => kernel_rfl) (by as_aux_lemma => kernel_rfl) (fun _ _ _ h => h) (Or.inl ⟨by rfl, ?_⟩) (by assumption) ?_
      · intro W hSw
        kernel_rfl
      try simp only [Act.put, List.setIfInBounds_toArray, List.set_cons_zero, List.set_cons_succ]
      refine wpAnyH_take (i := 6) (oi := ⟨some 15, _, _, _, _, _⟩) (v := .pointer (some ⟨g, off + 6, none⟩)) rfl (by as_aux_lemma => kernel_rfl) (by as_aux_lemma => kernel_rfl) (by as_aux_lemma => kernel_rfl) (fun _ _ _ h => h) (Or.inl ⟨by rfl, ?_⟩) (by assumption) ?_
      · intro W hSw
        try dsimp only at hSw
        go_simp
      try simp only [Act.put, List.setIfInBounds_toArray, List.set_cons_zero, List.set_cons_succ]
      refine wpAnyH_take (i := 7) (oi := ⟨some 16, _, _, _, _, _⟩) (v := .pointer (some ⟨g, off + 6 + 2, none⟩)) rfl (by as_aux_lemma => kernel_rfl) (by as_aux_lemma => kernel_rfl) (by as_aux_lemma => kernel_rfl) (fun _ _ _ h => h) (Or.inl ⟨by rfl, ?_⟩) (by assumption) ?_
      · intro W hSw
        try dsimp only at hSw
        go_simp
      try simp only [Act.put, List.setIfInBounds_toArray, List.set_cons_zero, List.set_cons_succ]
      refine wpAnyH_take (i := 8) (oi := ⟨some 17, _, _, _, _, _⟩) (v := .string b2) rfl (by as_aux_lemma => kernel_rfl) (by as_aux_lemma => kernel_rfl) (by as_aux_lemma => kernel_rfl) (fun _ _ _ h => h) (Or.inl ⟨by rfl, ?_⟩) (by assumption) ?_
      · intro W hSw
        have hc := HC2.out W hSw
        clear hSw
        go_simp
      try simp only [Act.put, List.setIfInBounds_toArray, List.set_cons_zero, List.set_cons_succ]
      refine wpAnyH_take (i := 9) (oi := ⟨some 18, _, _, _, _, _⟩) (v := .slice (some ⟨g, off, none⟩) 6 cap) rfl (by as_aux_lemma => kernel_rfl) (by as_aux_lemma => kernel_rfl) (by as_aux_lemma => kernel_rfl) (fun _ _ _ h => h) (Or.inl ⟨by rfl, ?_⟩) (by assumption) ?_
      · intro W hSw
        kernel_rfl
      try simp only [Act.put, List.setIfInBounds_toArray, List.set_cons_zero, List.set_cons_succ]
      refine wpAnyH_take (i := 10) (oi := ⟨some 19, _, _, _, _, _⟩) (v := .pointer (some ⟨g, off + 9, none⟩)) rfl (by as_aux_lemma => kernel_rfl) (by as_aux_lemma => kernel_rfl) (by as_aux_lemma => kernel_rfl) (fun _ _ _ h => h) (Or.inl ⟨by rfl, ?_⟩) (by assumption) ?_
      · intro W hSw
        try dsimp only at hSw
        go_simp
      try simp only [Act.put, List.setIfInBounds_toArray, List.set_cons_zero, List.set_cons_succ]
      refine wpAnyH_take (i := 11) (oi := ⟨some 20, _, _, _, _, _⟩) (v := .pointer (some ⟨g, off + 9 + 2, none⟩)) rfl (by as_aux_lemma => kernel_rfl) (by as_aux_lemma => kernel_rfl) (by as_aux_lemma => kernel_rfl) (fun _ _ _ h => h) (Or.inl ⟨by rfl, ?_⟩) (by assumption) ?_
      · intro W hSw
        try dsimp only at hSw
        go_simp
      try simp only [Act.put, List.setIfInBounds_toArray, List.set_cons_zero, List.set_cons_succ]
      refine wpAnyH_take (i := 12) (oi := ⟨some 21, _, _, _, _, _⟩) (v := .string b3) rfl (by as_aux_lemma => kernel_rfl) (by as_aux_lemma => kernel_rfl) (by as_aux_lemma => kernel_rfl) (fun _ _ _ h => h) (Or.inl ⟨by rfl, ?_⟩) (by assumption) ?_
      · intro W hSw
        have hc := HC3.out W hSw
        clear hSw
        go_simp
      try simp only [Act.put, List.setIfInBounds_toArray, List.set_cons_zero, List.set_cons_succ]
      refine wpAnyH_take (i := 13) (oi := ⟨some 22, _, _, _, _, _⟩) (v := .slice (some ⟨g, off, none⟩) 6 cap) rfl (by as_aux_lemma => kernel_rfl) (by as_aux_lemma => kernel_rfl) (by as_aux_lemma => kernel_rfl) (fun _ _ _ h => h) (Or.inl ⟨by rfl, ?_⟩) (by assumption) ?_
      · intro W hSw
        kernel_rfl
      try simp only [Act.put, List.setIfInBounds_toArray, List.set_cons_zero, List.set_cons_succ]
      refine wpAnyH_take (i := 14) (oi := ⟨some 23, _, _, _, _, _⟩) (v := .pointer (some ⟨g, off + 12, none⟩)) rfl (by as_aux_lemma => kernel_rfl) (by as_aux_lemma => kernel_rfl) (by as_aux_lemma => kernel_rfl) (fun _ _ _ h => h) (Or.inl ⟨by rfl, ?_⟩) (by assumption) ?_
      · intro W hSw
        try dsimp only at hSw
        go_simp
      try simp only [Act.put, List.setIfInBounds_toArray, List.set_cons_zero, List.set_cons_succ]
      refine wpAnyH_take (i := 15) (oi := ⟨some 24, _, _, _, _, _⟩) (v := .pointer (some ⟨g, off + 12 + 1, none⟩)) rfl (by as_aux_lemma => kernel_rfl) (by as_aux_lemma => kernel_rfl) (by as_aux_lemma => kernel_rfl) (fun _ _ _ h => h) (Or.inl ⟨by rfl, ?_⟩) (by assumption) ?_
      · intro W hSw
        try dsimp only at hSw
        go_simp
      try simp only [Act.put, List.setIfInBounds_toArray, List.set_cons_zero, List.set_cons_succ]
      refine wpAnyH_take (i := 16) (oi := ⟨some 25, _, _, _, _, _⟩) (v := .int .i64 b4) rfl (by as_aux_lemma => kernel_rfl) (by as_aux_lemma => kernel_rfl) (by as_aux_lemma => kernel_rfl) (fun _ _ _ h => h) (Or.inl ⟨by rfl, ?_⟩) (by assumption) ?_
      · intro W hSw
        have hc := HC4.out W hSw
        clear hSw
        go_simp
      try simp only [Act.put, List.setIfInBounds_toArray, List.set_cons_zero, List.set_cons_succ]
      refine wpAnyH_take (i := 17) (oi := ⟨some 26, _, _, _, _, _⟩) (v := .slice (some ⟨g, off, none⟩) 6 cap) rfl (by as_aux_lemma => kernel_rfl) (by as_aux_lemma => kernel_rfl) (by as_aux_lemma => kernel_rfl) (fun _ _ _ h => h) (Or.inl ⟨by rfl, ?_⟩) (by assumption) ?_
      · intro W hSw
        kernel_rfl
      try simp only [Act.put, List.setIfInBounds_toArray, List.set_cons_zero, List.set_cons_succ]
      refine wpAnyH_take (i := 18) (oi := ⟨some 27, _, _, _, _, _⟩) (v := .pointer (some ⟨g, off + 15, none⟩)) rfl (by as_aux_lemma => kernel_rfl) (by as_aux_lemma => kernel_rfl) (by as_aux_lemma => kernel_rfl) (fun _ _ _ h => h) (Or.inl ⟨by rfl, ?_⟩) (by assumption) ?_
      · intro W hSw
        try dsimp only at hSw
        go_simp
      try simp only [Act.put, List.setIfInBounds_toArray, List.set_cons_zero, List.set_cons_succ]
      refine wpAnyH_take (i := 19) (oi := ⟨some 28, _, _, _, _, _⟩) (v := .pointer (some ⟨g, off + 15 + 1, none⟩)) rfl (by as_aux_lemma => kernel_rfl) (by as_aux_lemma => kernel_rfl) (by as_aux_lemma => kernel_rfl) (fun _ _ _ h => h) (Or.inl ⟨by rfl, ?_⟩) (by assumption) ?_
      · intro W hSw
        try dsimp only at hSw
        go_simp
      try simp only [Act.put, List.setIfInBounds_toArray, List.set_cons_zero, List.set_cons_succ]
      refine wpAnyH_take (i := 20) (oi := ⟨some 29, _, _, _, _, _⟩) (v := .int .i64 b5) rfl (by as_aux_lemma => kernel_rfl) (by as_aux_lemma => kernel_rfl) (by as_aux_lemma => kernel_rfl) (fun _ _ _ h => h) (Or.inl ⟨by rfl, ?_⟩) (by assumption) ?_
      · intro W hSw
        have hc := HC5.out W hSw
        clear hSw
        go_simp
      try simp only [Act.put, List.setIfInBounds_toArray, List.set_cons_zero, List.set_cons_succ]
      refine wpAnyH_ready (rs := [4, 23]) (by as_aux_lemma => kernel_rfl) (by simp) ?_
      refine AllReadyH.cons (o := ⟨some 13, _, _, _, _, _⟩) rfl (fun K hK => ?_) (AllReadyH.cons (o := ⟨some 4, _, _, _, _, _⟩) rfl (fun K hK => ?_) AllReadyH.nil)
      rotate_left
      · skip
        refine step_allocW (t := 23) rfl rfl (allocF _) ?_
        intro w2 hw2
        have RZ := Lib.hid (show w2.heap[w1.heap.size]? = some (.cells (fcs zF) 23) by rw [← hw2]; exact heap_alloc_new w1.drew _)
        have BZ := Lib.hid (show Below w1.heap.size w1 w2 by rw [← hw2]; exact BD.out.alloc (Nat.le_refl _) _)
        clear hw2 hHeld
        refine hK.out _ _ (K1.out.trans (BZ.out.mono K1.out.size)) (fun hHeld => ?_)
        clear hK K
        try simp only [Act.put, List.setIfInBounds_toArray, List.set_cons_zero, List.set_cons_succ]
        refine wpAnyH_ready (rs := [4]) (by as_aux_lemma => kernel_rfl) (by simp) ?_
        refine AllReadyH.cons (o := ⟨some 13, _, _, _, _, _⟩) rfl (fun K hK => ?_) AllReadyH.nil
        go_simp
        (with_reducible refine (IX.out _ _).mono ?_)
        rintro e w' ⟨rfl, rfl⟩
        clear hHeld
        refine hK.out _ _ (K1.out.trans (BZ.out.mono K1.out.size)) (fun hHeld => ?_)
        clear hK K
        try simp only [Act.put, List.setIfInBounds_toArray, List.set_cons_zero, List.set_cons_succ]
        refine wpAnyH_ready (rs := [21]) (by as_aux_lemma => kernel_rfl) (by simp) ?_
        refine AllReadyH.cons (o := ⟨some 30, _, _, _, _, _⟩) rfl (fun K hK => ?_) AllReadyH.nil
        go_simp
        (with_reducible refine (IX.out _ _).mono ?_)
        rintro e w' ⟨rfl, rfl⟩
        clear hHeld
        refine hK.out _ _ (K1.out.trans (BZ.out.mono K1.out.size)) (fun hHeld => ?_)
        clear hK K
        try simp only [Act.put, List.setIfInBounds_toArray, List.set_cons_zero, List.set_cons_succ]
        refine wpAnyH_take (i := 22) (oi := ⟨some 31, _, _, _, _, _⟩) (v := .agg (fcs ⟨i20 b1, b2, b3, b4, i20 b5⟩)) rfl (by as_aux_lemma => kernel_rfl) (by as_aux_lemma => kernel_rfl) (by as_aux_lemma => kernel_rfl) (fun _ _ _ h => h) (Or.inl ⟨by rfl, ?_⟩) (by assumption) ?_
        · intro W hSw
          first | kernel_rfl | go_simp
        try simp only [Act.put, List.setIfInBounds_toArray, List.set_cons_zero, List.set_cons_succ]
        refine wpAnyH_ready (rs := [24]) (by as_aux_lemma => kernel_rfl) (by simp) ?_
        refine AllReadyH.cons (o := ⟨none, _, _, _, _, _⟩) rfl (fun K hK => ?_) AllReadyH.nil
        refine step_storeW (t := 23) (x := .tmp 4) (y := .tmp 31) rfl rfl (.pointer (some ⟨w1.heap.size, 0, none⟩)) (.agg (fcs ⟨i20 b1, b2, b3, b4, i20 b5⟩)) rfl rfl (storeF rfl rfl (fcs_one _) _ _ RZ.out) ?_
        clear hHeld
        refine hK.out _ _ (K1.out.trans ((below_put BZ.out (Nat.le_refl _) _).mono K1.out.size)) (fun hHeld => ?_)
        clear hK K hHeld
        try simp only [Act.put]
        refine wpAnyH_done (by as_aux_lemma => kernel_rfl) ?_ _
        go_wp2_with fail
        go_meet
        exact ⟨rfl, setRow_heap _ _ _ _ _ _ RZ.out, below_put BZ.out (Nat.le_refl _) _⟩
      go_simp
      (with_reducible refine (IX.out _ _).mono ?_)
      rintro e w' ⟨rfl, rfl⟩
      clear hHeld
      refine hK.out _ _ (K1.out.trans (BD.out.mono K1.out.size)) (fun hHeld => ?_)
      clear hK K
      try simp only [Act.put, List.setIfInBounds_toArray, List.set_cons_zero, List.set_cons_succ]
      refine wpAnyH_ready (rs := [21, 23]) (by as_aux_lemma => kernel_rfl) (by simp) ?_
      refine AllReadyH.cons (o := ⟨some 30, _, _, _, _, _⟩) rfl (fun K hK => ?_) (AllReadyH.cons (o := ⟨some 4, _, _, _, _, _⟩) rfl (fun K hK => ?_) AllReadyH.nil)
      rotate_left
      · skip
        refine step_allocW (t := 23) rfl rfl (allocF _) ?_
        intro w2 hw2
        have RZ := Lib.hid (show w2.heap[w1.heap.size]? = some (.cells (fcs zF) 23) by rw [← hw2]; exact heap_alloc_new w1.drew _)
        have BZ := Lib.hid (show Below w1.heap.size w1 w2 by rw [← hw2]; exact BD.out.alloc (Nat.le_refl _) _)
        clear hw2 hHeld
        refine hK.out _ _ (K1.out.trans (BZ.out.mono K1.out.size)) (fun hHeld => ?_)
        clear hK K
        try simp only [Act.put, List.setIfInBounds_toArray, List.set_cons_zero, List.set_cons_succ]
        refine wpAnyH_ready (rs := [21]) (by as_aux_lemma => kernel_rfl) (by simp) ?_
        refine AllReadyH.cons (o := ⟨some 30, _, _, _, _, _⟩) rfl (fun K hK => ?_) AllReadyH.nil
        go_simp
        (with_reducible refine (IX.out _ _).mono ?_)
        rintro e w' ⟨rfl, rfl⟩
        clear hHeld
        refine hK.out _ _ (K1.out.trans (BZ.out.mono K1.out.size)) (fun hHeld => ?_)
        clear hK K
        try simp only [Act.put, List.setIfInBounds_toArray, List.set_cons_zero, List.set_cons_succ]
        refine wpAnyH_take (i := 22) (oi := ⟨some 31, _, _, _, _, _⟩) (v := .agg (fcs ⟨i20 b1, b2, b3, b4, i20 b5⟩)) rfl (by as_aux_lemma => kernel_rfl) (by as_aux_lemma => kernel_rfl) (by as_aux_lemma => kernel_rfl) (fun _ _ _ h => h) (Or.inl ⟨by rfl, ?_⟩) (by assumption) ?_
        · intro W hSw
          first | kernel_rfl | go_simp
        try simp only [Act.put, List.setIfInBounds_toArray, List.set_cons_zero, List.set_cons_succ]
        refine wpAnyH_ready (rs := [24]) (by as_aux_lemma => kernel_rfl) (by simp) ?_
        refine AllReadyH.cons (o := ⟨none, _, _, _, _, _⟩) rfl (fun K hK => ?_) AllReadyH.nil
        refine step_storeW (t := 23) (x := .tmp 4) (y := .tmp 31) rfl rfl (.pointer (some ⟨w1.heap.size, 0, none⟩)) (.agg (fcs ⟨i20 b1, b2, b3, b4, i20 b5⟩)) rfl rfl (storeF rfl rfl (fcs_one _) _ _ RZ.out) ?_
        clear hHeld
        refine hK.out _ _ (K1.out.trans ((below_put BZ.out (Nat.le_refl _) _).mono K1.out.size)) (fun hHeld => ?_)
        clear hK K hHeld
        try simp only [Act.put]
        refine wpAnyH_done (by as_aux_lemma => kernel_rfl) ?_ _
        go_wp2_with fail
        go_meet
        exact ⟨rfl, setRow_heap _ _ _ _ _ _ RZ.out, below_put BZ.out (Nat.le_refl _) _⟩
      go_simp
      (with_reducible refine (IX.out _ _).mono ?_)
      rintro e w' ⟨rfl, rfl⟩
      clear hHeld
      refine hK.out _ _ (K1.out.trans (BD.out.mono K1.out.size)) (fun hHeld => ?_)
      clear hK K
      try simp only [Act.put, List.setIfInBounds_toArray, List.set_cons_zero, List.set_cons_succ]
      refine wpAnyH_take (i := 22) (oi := ⟨some 31, _, _, _, _, _⟩) (v := .agg (fcs ⟨i20 b1, b2, b3, b4, i20 b5⟩)) rfl (by as_aux_lemma => kernel_rfl) (by as_aux_lemma => kernel_rfl) (by as_aux_lemma => kernel_rfl) (fun _ _ _ h => h) (Or.inl ⟨by rfl, ?_⟩) (by assumption) ?_
      · intro W hSw
        first | kernel_rfl | go_simp
      try simp only [Act.put, List.setIfInBounds_toArray, List.set_cons_zero, List.set_cons_succ]
      refine wpAnyH_ready (rs := [23]) (by as_aux_lemma => kernel_rfl) (by simp) ?_
      refine AllReadyH.cons (o := ⟨some 4, _, _, _, _, _⟩) rfl (fun K hK => ?_) AllReadyH.nil
      refine step_allocW (t := 23) rfl rfl (allocF _) ?_
      intro w2 hw2
      have RZ := Lib.hid (show w2.heap[w1.heap.size]? = some (.cells (fcs zF) 23) by rw [← hw2]; exact heap_alloc_new w1.drew _)
      have BZ := Lib.hid (show Below w1.heap.size w1 w2 by rw [← hw2]; exact BD.out.alloc (Nat.le_refl _) _)
      clear hw2 hHeld
      refine hK.out _ _ (K1.out.trans (BZ.out.mono K1.out.size)) (fun hHeld => ?_)
      clear hK K
      try simp only [Act.put, List.setIfInBounds_toArray, List.set_cons_zero, List.set_cons_succ]
      refine wpAnyH_ready (rs := [24]) (by as_aux_lemma => kernel_rfl) (by simp) ?_
      refine AllReadyH.cons (o := ⟨none, _, _, _, _, _⟩) rfl (fun K hK => ?_) AllReadyH.nil
      refine step_storeW (t := 23) (x := .tmp 4) (y := .tmp 31) rfl rfl (.pointer (some ⟨w1.heap.size, 0, none⟩)) (.agg (fcs ⟨i20 b1, b2, b3, b4, i20 b5⟩)) rfl rfl (storeF rfl rfl (fcs_one _) _ _ RZ.out) ?_
      clear hHeld
      refine hK.out _ _ (K1.out.trans ((below_put BZ.out (Nat.le_refl _) _).mono K1.out.size)) (fun hHeld => ?_)
      clear hK K hHeld
      try simp only [Act.put]
      refine wpAnyH_done (by as_aux_lemma => kernel_rfl) ?_ _
      go_wp2_with fail
      go_meet
      exact ⟨rfl, setRow_heap _ _ _ _ _ _ RZ.out, below_put BZ.out (Nat.le_refl _) _⟩
    obtain ⟨rfl, R4, B4⟩ := hcut
    have K2 := Lib.hid (K1.out.trans (B4.mono K1.out.size))
    have R2 := Lib.hid (keepX R1.out B4)
    have BX := Lib.hid R4
    have L2 := Lib.hid (loadF (show (fcs f2).size = 5 from rfl) _ _ R4)
    have BLT := Lib.hid (box_lt R1.out)
    have BL2 := Lib.hid (box_lt R4)
    clear R4 B4 HE IX
    go_wp2_with (refine wpList_loadg (t := 23) (x := .tmp 4) rfl rfl (.pointer (some ⟨w1.heap.size, 0, none⟩)) rfl L2.out ?_)
    refine (RR.out _).mono ?_
    rintro e w3 ⟨rfl, hb⟩
    have K3 := Lib.hid (K2.out.trans (hb.mono K2.out.size))
    have R3 := Lib.hid (keepX R2.out hb)
    have B3 := Lib.hid (keepX BX.out hb)
    clear hb
    cases hok : fOk f2 with
    | false =>
      have HX := Lib.hid (show tk = (zF, 12) by rw [← HT.out, hok]; simp)
      have S3 := Lib.hid (storeF (ds := fcs zF) rfl rfl (fcs_one zF) _ _ R3.out)
      have R5 := Lib.hid (setRow_heap _ w.heap.size _ (fcs zF) _ _ R3.out)
      have K5 := Lib.hid (below_put K3.out (Nat.le_refl _) (fcs zF))
      clear hok
      go_wp2_with (refine wpList_storeg (t := 23) (x := .tmp 2) (y := .tmp 42) rfl rfl (.pointer (some ⟨w.heap.size, 0, none⟩)) (.agg (fcs zF)) rfl rfl S3.out ?_)
      exact bodyPost_ret (results_cell_tmp rfl _ _ w.heap.size _ _ _ _ rfl R5.out Try.underlying23 rfl (by kernel_rfl)) rfl ⟨by rw [HX.out]; rfl, K5.out⟩
    | true =>
      have L3 := Lib.hid (loadF (show (fcs f2).size = 5 from rfl) _ _ B3.out)
      go_wp2_with (refine wpList_loadg (t := 23) (x := .tmp 4) rfl rfl (.pointer (some ⟨w1.heap.size, 0, none⟩)) rfl L3.out ?_)
      refine (RW.out _).mono ?_
      rintro e w5 ⟨a5, rfl, hs5, hb⟩
      have K5 := Lib.hid (K3.out.trans (hb.mono K3.out.size))
      have R5 := Lib.hid (keepX R3.out hb)
      have B5 := Lib.hid (keepX B3.out hb)
      have SM5 := Lib.hid (SM.out w5 _ hs5 K5.out)
      clear hb hs5
      go_wp2_with fail
      refine SM5.out.mono ?_
      rintro e w6 ⟨rfl, hb⟩
      have K6 := Lib.hid (K5.out.trans (hb.mono K5.out.size))
      have R6 := Lib.hid (keepX R5.out hb)
      have B6 := Lib.hid (keepX B5.out hb)
      clear hb
      cases heq : decide (fRow f2 = l) with
      | false =>
        have HX := Lib.hid (show tk = (zF, 12) by rw [← HT.out, if_neg (fun h => of_decide_eq_false heq h.2)])
        have S7 := Lib.hid (storeF (ds := fcs zF) rfl rfl (fcs_one zF) _ _ R6.out)
        have R7 := Lib.hid (setRow_heap _ w.heap.size _ (fcs zF) _ _ R6.out)
        have K7 := Lib.hid (below_put K6.out (Nat.le_refl _) (fcs zF))
        clear heq hok
        go_wp2_with (refine wpList_storeg (t := 23) (x := .tmp 2) (y := .tmp 42) rfl rfl (.pointer (some ⟨w.heap.size, 0, none⟩)) (.agg (fcs zF)) rfl rfl S7.out ?_)
        exact bodyPost_ret (results_cell_tmp rfl _ _ w.heap.size _ _ _ _ rfl R7.out Try.underlying23 rfl (by kernel_rfl)) rfl ⟨by rw [HX.out]; rfl, K7.out⟩
      | true =>
        have HX := Lib.hid (show tk = (f2, 0) by rw [← HT.out, if_pos ⟨hok, of_decide_eq_true heq⟩])
        have L6 := Lib.hid (loadF (show (fcs f2).size = 5 from rfl) _ _ B6.out)
        have S7 := Lib.hid (storeF (ds := fcs f2) rfl rfl (fcs_one f2) _ _ R6.out)
        have R7 := Lib.hid (setRow_heap _ w.heap.size _ (fcs f2) _ _ R6.out)
        have K7 := Lib.hid (below_put K6.out (Nat.le_refl _) (fcs f2))
        clear heq hok
        go_wp2_with (first
          | (refine wpList_loadg (t := 23) (x := .tmp 4) rfl rfl (.pointer (some ⟨w1.heap.size, 0, none⟩)) rfl L6.out ?_)
          | (refine wpList_storeg (t := 23) (x := .tmp 2) (y := .tmp 43) rfl rfl (.pointer (some ⟨w.heap.size, 0, none⟩)) (.agg (fcs f2)) rfl rfl S7.out ?_))
        exact bodyPost_ret (results_cell_tmp rfl _ _ w.heap.size _ _ _ _ rfl R7.out Try.underlying23 rfl (by kernel_rfl)) rfl ⟨by rw [HX.out]; rfl, K7.out⟩
  · rw [takeF_else (by omega)]
    have d1 : ((n : Int) == 6) = false := by simp; omega
    have d2 : (n == 6) = false := by simpa using h6
    have S1 := Lib.hid (storeF (ds := fcs zF) rfl rfl (fcs_one _) _ w.heap.size R1.out)
    have R2 := Lib.hid (setRow_heap _ w.heap.size _ (fcs zF) _ _ R1.out)
    have K2 := Lib.hid (below_put K1.out (Nat.le_refl _) (fcs zF))
    clear hn HS 
    go_enter Try.func20, Try.ntmps20
    go_wp2_with (refine wpList_storeg (t := 23) (x := .tmp 2) (y := .tmp 8) rfl rfl (.pointer (some ⟨w.heap.size, 0, none⟩)) (.agg (fcs zF)) rfl rfl S1.out ?_)
    exact bodyPost_ret (results_cell_tmp rfl _ _ w.heap.size _ _ _ _ rfl R2.out Try.underlying23 rfl (by kernel_rfl)) rfl ⟨rfl, K2.out⟩

set_option maxHeartbeats 16000000 in
set_option maxRecDepth 100000 in
theorem rtkep_any (v : Value) (l : List V) (w : World) (hs : SeesS w v l) (hsz : ∀ v ∈ l, v.t.size ≤ maxLen) : Calls Try.prog 22 #[v] w fun e w' => e = .returned (.tuple #[xagg (takeX l).1, .int .i64 (takeX l).2]) ∧ Below w.heap.size w w' := by
  obtain ⟨a, cap, rfl, -⟩ := id hs
  obtain ⟨n, hn⟩ : ∃ n, n = l.length := ⟨_, rfl⟩
  have HS := Lib.hid hs
  rw [← hn] at HS ⊢
  clear hs
  have R1 := Lib.hid (heap_alloc_new w (.cells (xcs zX) 25))
  have K1 := Lib.hid (below_made w (.cells (xcs zX) 25))
  rw [xagg_cs]
  by_cases h6 : n = 21
  · subst h6
    have SM := Lib.hid (fun (W : World) (u : Value) (hu : SeesS W u (xRow (xOf2 (xOf l)))) (hb : Below w.heap.size w W) => vsame_any u _ (xRow (xOf2 (xOf l))) l W hu (HS.out.later hb) (by rw [xRow_len]; decide))
    have HT := Lib.hid (take2X l)
    have HZ := Lib.hid (show (xOf2 (xOf l)).sha.size ≤ maxLen from by
      obtain ⟨a0, a1, a2, a3, a4, a5, a6, a7, a8, a9, a10, a11, a12, a13, a14, a15, a16, a17, a18, a19, a20, rfl⟩ := list21 l hn.symm
      exact hsz a20 (by simp))
    clear hsz
    obtain ⟨a0, a1, a2, a3, a4, a5, a6, a7, a8, a9, a10, a11, a12, a13, a14, a15, a16, a17, a18, a19, a20, hl⟩ := list21 l hn.symm
    have hl2 : l.length = 21 := hn.symm
    clear hn
    obtain ⟨g, off, rfl, hg, -, c1, -⟩ := HS.out.cells (k := 1) (by omega)
    obtain ⟨g2, off2, e2, -, -, c2, -⟩ := HS.out.cells (k := 2) (by omega)
    cases e2
    obtain ⟨g2, off2, e2, -, -, -, c3⟩ := HS.out.cells (k := 3) (by omega)
    cases e2
    obtain ⟨g2, off2, e2, -, -, -, c4⟩ := HS.out.cells (k := 4) (by omega)
    cases e2
    obtain ⟨g2, off2, e2, -, -, -, c5⟩ := HS.out.cells (k := 5) (by omega)
    cases e2
    obtain ⟨g2, off2, e2, -, -, c6, -⟩ := HS.out.cells (k := 6) (by omega)
    cases e2
    obtain ⟨g2, off2, e2, -, -, c7, -⟩ := HS.out.cells (k := 7) (by omega)
    cases e2
    obtain ⟨g2, off2, e2, -, -, c8, -⟩ := HS.out.cells (k := 8) (by omega)
    cases e2
    obtain ⟨g2, off2, e2, -, -, c9, -⟩ := HS.out.cells (k := 9) (by omega)
    cases e2
    obtain ⟨g2, off2, e2, -, -, c10, -⟩ := HS.out.cells (k := 10) (by omega)
    cases e2
    obtain ⟨g2, off2, e2, -, -, c11, -⟩ := HS.out.cells (k := 11) (by omega)
    cases e2
    obtain ⟨g2, off2, e2, -, -, c12, -⟩ := HS.out.cells (k := 12) (by omega)
    cases e2
    obtain ⟨g2, off2, e2, -, -, c13, -⟩ := HS.out.cells (k := 13) (by omega)
    cases e2
    obtain ⟨g2, off2, e2, -, -, -, c14⟩ := HS.out.cells (k := 14) (by omega)
    cases e2
    obtain ⟨g2, off2, e2, -, -, c15, -⟩ := HS.out.cells (k := 15) (by omega)
    cases e2
    obtain ⟨g2, off2, e2, -, -, c16, -⟩ := HS.out.cells (k := 16) (by omega)
    cases e2
    obtain ⟨g2, off2, e2, -, -, -, c17⟩ := HS.out.cells (k := 17) (by omega)
    cases e2
    obtain ⟨g2, off2, e2, -, -, c18, -⟩ := HS.out.cells (k := 18) (by omega)
    cases e2
    obtain ⟨g2, off2, e2, -, -, c19, -⟩ := HS.out.cells (k := 19) (by omega)
    cases e2
    obtain ⟨g2, off2, e2, -, -, -, c20⟩ := HS.out.cells (k := 20) (by omega)
    cases e2
    simp only [hl, List.getElem_cons_succ, List.getElem_cons_zero, Nat.reduceMul, Nat.add_assoc, Nat.reduceAdd] at c1 c2 c3 c4 c5 c6 c7 c8 c9 c10 c11 c12 c13 c14 c15 c16 c17 c18 c19 c20
    obtain ⟨f2, hf2⟩ : ∃ f2, f2 = xOf2 (xOf l) := ⟨_, rfl⟩
    have he : f2 = ⟨i20 a1.n, i20 a2.n, a3.t, a4.t, a5.t, a6.n, a7.n, i20 a8.n, i20 a9.n, (a10.n == 1), a11.n, i20 a12.n, a13.n, a14.t, i20 a15.n, i20 a16.n, a17.t, a18.n, a19.n, a20.t⟩ := by rw [hf2, hl]; rfl
    rw [← hf2] at SM HT HZ
    clear hf2 hl hl2
    generalize a1.n = b1 at *
    generalize a2.n = b2 at *
    generalize a3.t = b3 at *
    generalize a4.t = b4 at *
    generalize a5.t = b5 at *
    generalize a6.n = b6 at *
    generalize a7.n = b7 at *
    generalize a8.n = b8 at *
    generalize a9.n = b9 at *
    generalize a10.n = b10 at *
    generalize a11.n = b11 at *
    generalize a12.n = b12 at *
    generalize a13.n = b13 at *
    generalize a14.t = b14 at *
    generalize a15.n = b15 at *
    generalize a16.n = b16 at *
    generalize a17.t = b17 at *
    generalize a18.n = b18 at *
    generalize a19.n = b19 at *
    generalize a20.t = b20 at *
    have HE := Lib.hid he
    clear he
    clear a0 a1 a2 a3 a4 a5 a6 a7 a8 a9 a10 a11 a12 a13 a14 a15 a16 a17 a18 a19 a20
    have HC1 := Lib.hid (fun W (hW : Below w.heap.size w W) => (hW.cell (p := ⟨g, _, none⟩) hg).trans c1)
    have HC2 := Lib.hid (fun W (hW : Below w.heap.size w W) => (hW.cell (p := ⟨g, _, none⟩) hg).trans c2)
    have HC3 := Lib.hid (fun W (hW : Below w.heap.size w W) => (hW.cell (p := ⟨g, _, none⟩) hg).trans c3)
    have HC4 := Lib.hid (fun W (hW : Below w.heap.size w W) => (hW.cell (p := ⟨g, _, none⟩) hg).trans c4)
    have HC5 := Lib.hid (fun W (hW : Below w.heap.size w W) => (hW.cell (p := ⟨g, _, none⟩) hg).trans c5)
    have HC6 := Lib.hid (fun W (hW : Below w.heap.size w W) => (hW.cell (p := ⟨g, _, none⟩) hg).trans c6)
    have HC7 := Lib.hid (fun W (hW : Below w.heap.size w W) => (hW.cell (p := ⟨g, _, none⟩) hg).trans c7)
    have HC8 := Lib.hid (fun W (hW : Below w.heap.size w W) => (hW.cell (p := ⟨g, _, none⟩) hg).trans c8)
    have HC9 := Lib.hid (fun W (hW : Below w.heap.size w W) => (hW.cell (p := ⟨g, _, none⟩) hg).trans c9)
    have HC10 := Lib.hid (fun W (hW : Below w.heap.size w W) => (hW.cell (p := ⟨g, _, none⟩) hg).trans c10)
    have HC11 := Lib.hid (fun W (hW : Below w.heap.size w W) => (hW.cell (p := ⟨g, _, none⟩) hg).trans c11)
    have HC12 := Lib.hid (fun W (hW : Below w.heap.size w W) => (hW.cell (p := ⟨g, _, none⟩) hg).trans c12)
    have HC13 := Lib.hid (fun W (hW : Below w.heap.size w W) => (hW.cell (p := ⟨g, _, none⟩) hg).trans c13)
    have HC14 := Lib.hid (fun W (hW : Below w.heap.size w W) => (hW.cell (p := ⟨g, _, none⟩) hg).trans c14)
    have HC15 := Lib.hid (fun W (hW : Below w.heap.size w W) => (hW.cell (p := ⟨g, _, none⟩) hg).trans c15)
    have HC16 := Lib.hid (fun W (hW : Below w.heap.size w W) => (hW.cell (p := ⟨g, _, none⟩) hg).trans c16)
    have HC17 := Lib.hid (fun W (hW : Below w.heap.size w W) => (hW.cell (p := ⟨g, _, none⟩) hg).trans c17)
    have HC18 := Lib.hid (fun W (hW : Below w.heap.size w W) => (hW.cell (p := ⟨g, _, none⟩) hg).trans c18)
    have HC19 := Lib.hid (fun W (hW : Below w.heap.size w W) => (hW.cell (p := ⟨g, _, none⟩) hg).trans c19)
    have HC20 := Lib.hid (fun W (hW : Below w.heap.size w W) => (hW.cell (p := ⟨g, _, none⟩) hg).trans c20)
    clear hg c1 c2 c3 c4 c5 c6 c7 c8 c9 c10 c11 c12 c13 c14 c15 c16 c17 c18 c19 c20
    generalize htk : takeX l = tk at *
    clear htk
    have RR := Lib.hid (fun W => rxright_any f2 HZ.out W)
    have RW := Lib.hid (fun W => rxrow_any f2 W)
    rw [xagg_cs] at RR RW
    have IX := Lib.hid (fun n W => ri20_any n W)
    go_enter Try.func22, Try.ntmps22
    go_upto_region 3 with fail
    obtain ⟨w1, hw1⟩ : ∃ w1, w1 = w.alloc (.cells (xcs zX) 25) := ⟨_, rfl⟩
    rw [← hw1] at R1 K1
    have hw2 : w.alloc (.cells #[.int .i64 0, .int .i64 0, .string ⟨#[]⟩, .string ⟨#[]⟩, .string ⟨#[]⟩, .int .i64 0, .int .i64 0, .int .i64 0, .int .i64 0, .bool false, .int .i64 0, .int .i64 0, .int .i64 0, .string ⟨#[]⟩, .int .i64 0, .int .i64 0, .string ⟨#[]⟩, .int .i64 0, .int .i64 0, .string ⟨#[]⟩] 25) = w1 := hw1.symm
    rw [hw2]
    clear hw1 hw2
    go_cut [4] from 9 to 97 (fun s4 wx => s4 = .pointer (some ⟨w1.heap.size, 0, none⟩) ∧ wx.heap[w1.heap.size]? = some (.cells (xcs f2) 25) ∧ Below w1.heap.size w1 wx)
    case first =>
      have BD := Lib.hid (below_drew w1 (Nat.le_refl _))
      have hE := HE.out
      subst hE
      dsimp only [List.append]
      refine wp_region_held_drew (S := fun W => Below w.heap.size w W) (by kernel_rfl) (K1.out.trans (BD.out.mono K1.out.size)) (fun hHeld => ?_)
      refine wpAnyH_take (i := 0) (oi := ⟨some 9, _, _, _, _, _⟩) (v := .slice (some ⟨g, off, none⟩) 21 cap) rfl (by as_aux_lemma => kernel_rfl) (by as_aux_lemma => kernel_rfl) (by as_aux_lemma => kernel_rfl) (fun _ _ _ h => h) (Or.inl ⟨by rfl, ?_⟩) (by assumption) ?_
      · intro W hSw
        kernel_rfl
      try simp only [Act.put, List.setIfInBounds_toArray, List.set_cons_zero, List.set_cons_succ]
      refine wpAnyH_take (i := 1) (oi := ⟨some 10, _, _, _, _, _⟩) (v := .pointer (some ⟨g, off + 3, none⟩)) rfl (by as_aux_lemma => kernel_rfl) (by as_aux_lemma => kernel_rfl) (by as_aux_lemma => kernel_rfl) (fun _ _ _ h => h) (Or.inl ⟨by rfl, ?_⟩) (by assumption) ?_
      · intro W hSw
        try dsimp only at hSw
        go_simp
      try simp only [Act.put, List.setIfInBounds_toArray, List.set_cons_zero, List.set_cons_succ]
      refine wpAnyH_take (i := 2) (oi := ⟨some 11, _, _, _, _, _⟩) (v := .pointer (some ⟨g, off + 3 + 1, none⟩)) rfl (by as_aux_lemma => kernel_rfl) (by as_aux_lemma => kernel_rfl) (by as_aux_lemma => kernel_rfl) (fun _ _ _ h => h) (Or.inl ⟨by rfl, ?_⟩) (by assumption) ?_
      · intro W hSw
        try dsimp only at hSw
        go_simp
      try simp only [Act.put, List.setIfInBounds_toArray, List.set_cons_zero, List.set_cons_succ]
      refine wpAnyH_take (i := 3) (oi := ⟨some 12, _, _, _, _, _⟩) (v := .int .i64 b1) rfl (by as_aux_lemma => kernel_rfl) (by as_aux_lemma => kernel_rfl) (by as_aux_lemma => kernel_rfl) (fun _ _ _ h => h) (Or.inl ⟨by rfl, ?_⟩) (by assumption) ?_
      · intro W hSw
        have hc := HC1.out W hSw
        clear hSw
        go_simp
      try simp only [Act.put, List.setIfInBounds_toArray, List.set_cons_zero, List.set_cons_succ]
      refine wpAnyH_take (i := 5) (oi := ⟨some 14, _, _, _, _, _⟩) (v := .slice (some ⟨g, off, none⟩) 21 cap) rfl (by as_aux_lemma => kernel_rfl) (by as_aux_lemma => kernel_rfl) (by as_aux_lemma => kernel_rfl) (fun _ _ _ h => h) (Or.inl ⟨by rfl, ?_⟩) (by assumption) ?_
      · intro W hSw
        kernel_rfl
      try simp only [Act.put, List.setIfInBounds_toArray, List.set_cons_zero, List.set_cons_succ]
      refine wpAnyH_take (i := 6) (oi := ⟨some 15, _, _, _, _, _⟩) (v := .pointer (some ⟨g, off + 6, none⟩)) rfl (by as_aux_lemma => kernel_rfl) (by as_aux_lemma => kernel_rfl) (by as_aux_lemma => kernel_rfl) (fun _ _ _ h => h) (Or.inl ⟨by rfl, ?_⟩) (by assumption) ?_
      · intro W hSw
        try dsimp only at hSw
        go_simp
      try simp only [Act.put, List.setIfInBounds_toArray, List.set_cons_zero, List.set_cons_succ]
      refine wpAnyH_take (i := 7) (oi := ⟨some 16, _, _, _, _, _⟩) (v := .pointer (some ⟨g, off + 6 + 1, none⟩)) rfl (by as_aux_lemma => kernel_rfl) (by as_aux_lemma => kernel_rfl) (by as_aux_lemma => kernel_rfl) (fun _ _ _ h => h) (Or.inl ⟨by rfl, ?_⟩) (by assumption) ?_
      · intro W hSw
        try dsimp only at hSw
        go_simp
      try simp only [Act.put, List.setIfInBounds_toArray, List.set_cons_zero, List.set_cons_succ]
      refine wpAnyH_take (i := 8) (oi := ⟨some 17, _, _, _, _, _⟩) (v := .int .i64 b2) rfl (by as_aux_lemma => kernel_rfl) (by as_aux_lemma => kernel_rfl) (by as_aux_lemma => kernel_rfl) (fun _ _ _ h => h) (Or.inl ⟨by rfl, ?_⟩) (by assumption) ?_
      · intro W hSw
        have hc := HC2.out W hSw
        clear hSw
        go_simp
      try simp only [Act.put, List.setIfInBounds_toArray, List.set_cons_zero, List.set_cons_succ]
      refine wpAnyH_take (i := 10) (oi := ⟨some 19, _, _, _, _, _⟩) (v := .slice (some ⟨g, off, none⟩) 21 cap) rfl (by as_aux_lemma => kernel_rfl) (by as_aux_lemma => kernel_rfl) (by as_aux_lemma => kernel_rfl) (fun _ _ _ h => h) (Or.inl ⟨by rfl, ?_⟩) (by assumption) ?_
      · intro W hSw
        kernel_rfl
      try simp only [Act.put, List.setIfInBounds_toArray, List.set_cons_zero, List.set_cons_succ]
      refine wpAnyH_take (i := 11) (oi := ⟨some 20, _, _, _, _, _⟩) (v := .pointer (some ⟨g, off + 9, none⟩)) rfl (by as_aux_lemma => kernel_rfl) (by as_aux_lemma => kernel_rfl) (by as_aux_lemma => kernel_rfl) (fun _ _ _ h => h) (Or.inl ⟨by rfl, ?_⟩) (by assumption) ?_
      · intro W hSw
        try dsimp only at hSw
        go_simp
      try simp only [Act.put, List.setIfInBounds_toArray, List.set_cons_zero, List.set_cons_succ]
      refine wpAnyH_take (i := 12) (oi := ⟨some 21, _, _, _, _, _⟩) (v := .pointer (some ⟨g, off + 9 + 2, none⟩)) rfl (by as_aux_lemma => kernel_rfl) (by as_aux_lemma => kernel_rfl) (by as_aux_lemma => kernel_rfl) (fun _ _ _ h => h) (Or.inl ⟨by rfl, ?_⟩) (by assumption) ?_
      · intro W hSw
        try dsimp only at hSw
        go_simp
      try simp only [Act.put, List.setIfInBounds_toArray, List.set_cons_zero, List.set_cons_succ]
      refine wpAnyH_take (i := 13) (oi := ⟨some 22, _, _, _, _, _⟩) (v := .string b3) rfl (by as_aux_lemma => kernel_rfl) (by as_aux_lemma => kernel_rfl) (by as_aux_lemma => kernel_rfl) (fun _ _ _ h => h) (Or.inl ⟨by rfl, ?_⟩) (by assumption) ?_
      · intro W hSw
        have hc := HC3.out W hSw
        clear hSw
        go_simp
      try simp only [Act.put, List.setIfInBounds_toArray, List.set_cons_zero, List.set_cons_succ]
      refine wpAnyH_take (i := 14) (oi := ⟨some 23, _, _, _, _, _⟩) (v := .slice (some ⟨g, off, none⟩) 21 cap) rfl (by as_aux_lemma => kernel_rfl) (by as_aux_lemma => kernel_rfl) (by as_aux_lemma => kernel_rfl) (fun _ _ _ h => h) (Or.inl ⟨by rfl, ?_⟩) (by assumption) ?_
      · intro W hSw
        kernel_rfl
      try simp only [Act.put, List.setIfInBounds_toArray, List.set_cons_zero, List.set_cons_succ]
      refine wpAnyH_take (i := 15) (oi := ⟨some 24, _, _, _, _, _⟩) (v := .pointer (some ⟨g, off + 12, none⟩)) rfl (by as_aux_lemma => kernel_rfl) (by as_aux_lemma => kernel_rfl) (by as_aux_lemma => kernel_rfl) (fun _ _ _ h => h) (Or.inl ⟨by rfl, ?_⟩) (by assumption) ?_
      · intro W hSw
        try dsimp only at hSw
        go_simp
      try simp only [Act.put, List.setIfInBounds_toArray, List.set_cons_zero, List.set_cons_succ]
      refine wpAnyH_take (i := 16) (oi := ⟨some 25, _, _, _, _, _⟩) (v := .pointer (some ⟨g, off + 12 + 2, none⟩)) rfl (by as_aux_lemma => kernel_rfl) (by as_aux_lemma => kernel_rfl) (by as_aux_lemma => kernel_rfl) (fun _ _ _ h => h) (Or.inl ⟨by rfl, ?_⟩) (by assumption) ?_
      · intro W hSw
        try dsimp only at hSw
        go_simp
      try simp only [Act.put, List.setIfInBounds_toArray, List.set_cons_zero, List.set_cons_succ]
      refine wpAnyH_take (i := 17) (oi := ⟨some 26, _, _, _, _, _⟩) (v := .string b4) rfl (by as_aux_lemma => kernel_rfl) (by as_aux_lemma => kernel_rfl) (by as_aux_lemma => kernel_rfl) (fun _ _ _ h => h) (Or.inl ⟨by rfl, ?_⟩) (by assumption) ?_
      · intro W hSw
        have hc := HC4.out W hSw
        clear hSw
        go_simp
      try simp only [Act.put, List.setIfInBounds_toArray, List.set_cons_zero, List.set_cons_succ]
      refine wpAnyH_take (i := 18) (oi := ⟨some 27, _, _, _, _, _⟩) (v := .slice (some ⟨g, off, none⟩) 21 cap) rfl (by as_aux_lemma => kernel_rfl) (by as_aux_lemma => kernel_rfl) (by as_aux_lemma => kernel_rfl) (fun _ _ _ h => h) (Or.inl ⟨by rfl, ?_⟩) (by assumption) ?_
      · intro W hSw
        kernel_rfl
      try simp only [Act.put, List.setIfInBounds_toArray, List.set_cons_zero, List.set_cons_succ]
      refine wpAnyH_take (i := 19) (oi := ⟨some 28, _, _, _, _, _⟩) (v := .pointer (some ⟨g, off + 15, none⟩)) rfl (by as_aux_lemma => kernel_rfl) (by as_aux_lemma => kernel_rfl) (by as_aux_lemma => kernel_rfl) (fun _ _ _ h => h) (Or.inl ⟨by rfl, ?_⟩) (by assumption) ?_
      · intro W hSw
        try dsimp only at hSw
        go_simp
      try simp only [Act.put, List.setIfInBounds_toArray, List.set_cons_zero, List.set_cons_succ]
      refine wpAnyH_take (i := 20) (oi := ⟨some 29, _, _, _, _, _⟩) (v := .pointer (some ⟨g, off + 15 + 2, none⟩)) rfl (by as_aux_lemma => kernel_rfl) (by as_aux_lemma => kernel_rfl) (by as_aux_lemma => kernel_rfl) (fun _ _ _ h => h) (Or.inl ⟨by rfl, ?_⟩) (by assumption) ?_
      · intro W hSw
        try dsimp only at hSw
        go_simp
      try simp only [Act.put, List.setIfInBounds_toArray, List.set_cons_zero, List.set_cons_succ]
      refine wpAnyH_take (i := 21) (oi := ⟨some 30, _, _, _, _, _⟩) (v := .string b5) rfl (by as_aux_lemma => kernel_rfl) (by as_aux_lemma => kernel_rfl) (by as_aux_lemma => kernel_rfl) (fun _ _ _ h => h) (Or.inl ⟨by rfl, ?_⟩) (by assumption) ?_
      · intro W hSw
        have hc := HC5.out W hSw
        clear hSw
        go_simp
      try simp only [Act.put, List.setIfInBounds_toArray, List.set_cons_zero, List.set_cons_succ]
      refine wpAnyH_take (i := 22) (oi := ⟨some 31, _, _, _, _, _⟩) (v := .slice (some ⟨g, off, none⟩) 21 cap) rfl (by as_aux_lemma => kernel_rfl) (by as_aux_lemma => kernel_rfl) (by as_aux_lemma => kernel_rfl) (fun _ _ _ h => h) (Or.inl ⟨by rfl, ?_⟩) (by assumption) ?_
      · intro W hSw
        kernel_rfl
      try simp only [Act.put, List.setIfInBounds_toArray, List.set_cons_zero, List.set_cons_succ]
      refine wpAnyH_take (i := 23) (oi := ⟨some 32, _, _, _, _, _⟩) (v := .pointer (some ⟨g, off + 18, none⟩)) rfl (by as_aux_lemma => kernel_rfl) (by as_aux_lemma => kernel_rfl) (by as_aux_lemma => kernel_rfl) (fun _ _ _ h => h) (Or.inl ⟨by rfl, ?_⟩) (by assumption) ?_
      · intro W hSw
        try dsimp only at hSw
        go_simp
      try simp only [Act.put, List.setIfInBounds_toArray, List.set_cons_zero, List.set_cons_succ]
      refine wpAnyH_take (i := 24) (oi := ⟨some 33, _, _, _, _, _⟩) (v := .pointer (some ⟨g, off + 18 + 1, none⟩)) rfl (by as_aux_lemma => kernel_rfl) (by as_aux_lemma => kernel_rfl) (by as_aux_lemma => kernel_rfl) (fun _ _ _ h => h) (Or.inl ⟨by rfl, ?_⟩) (by assumption) ?_
      · intro W hSw
        try dsimp only at hSw
        go_simp
      try simp only [Act.put, List.setIfInBounds_toArray, List.set_cons_zero, List.set_cons_succ]
      refine wpAnyH_take (i := 25) (oi := ⟨some 34, _, _, _, _, _⟩) (v := .int .i64 b6) rfl (by as_aux_lemma => kernel_rfl) (by as_aux_lemma => kernel_rfl) (by as_aux_lemma => kernel_rfl) (fun _ _ _ h => h) (Or.inl ⟨by rfl, ?_⟩) (by assumption) ?_
      · intro W hSw
        have hc := HC6.out W hSw
        clear hSw
        go_simp
      try simp only [Act.put, List.setIfInBounds_toArray, List.set_cons_zero, List.set_cons_succ]
      refine wpAnyH_take (i := 26) (oi := ⟨some 35, _, _, _, _, _⟩) (v := .slice (some ⟨g, off, none⟩) 21 cap) rfl (by as_aux_lemma => kernel_rfl) (by as_aux_lemma => kernel_rfl) (by as_aux_lemma => kernel_rfl) (fun _ _ _ h => h) (Or.inl ⟨by rfl, ?_⟩) (by assumption) ?_
      · intro W hSw
        kernel_rfl
      try simp only [Act.put, List.setIfInBounds_toArray, List.set_cons_zero, List.set_cons_succ]
      refine wpAnyH_take (i := 27) (oi := ⟨some 36, _, _, _, _, _⟩) (v := .pointer (some ⟨g, off + 21, none⟩)) rfl (by as_aux_lemma => kernel_rfl) (by as_aux_lemma => kernel_rfl) (by as_aux_lemma => kernel_rfl) (fun _ _ _ h => h) (Or.inl ⟨by rfl, ?_⟩) (by assumption) ?_
      · intro W hSw
        try dsimp only at hSw
        go_simp
      try simp only [Act.put, List.setIfInBounds_toArray, List.set_cons_zero, List.set_cons_succ]
      refine wpAnyH_take (i := 28) (oi := ⟨some 37, _, _, _, _, _⟩) (v := .pointer (some ⟨g, off + 21 + 1, none⟩)) rfl (by as_aux_lemma => kernel_rfl) (by as_aux_lemma => kernel_rfl) (by as_aux_lemma => kernel_rfl) (fun _ _ _ h => h) (Or.inl ⟨by rfl, ?_⟩) (by assumption) ?_
      · intro W hSw
        try dsimp only at hSw
        go_simp
      try simp only [Act.put, List.setIfInBounds_toArray, List.set_cons_zero, List.set_cons_succ]
      refine wpAnyH_take (i := 29) (oi := ⟨some 38, _, _, _, _, _⟩) (v := .int .i64 b7) rfl (by as_aux_lemma => kernel_rfl) (by as_aux_lemma => kernel_rfl) (by as_aux_lemma => kernel_rfl) (fun _ _ _ h => h) (Or.inl ⟨by rfl, ?_⟩) (by assumption) ?_
      · intro W hSw
        have hc := HC7.out W hSw
        clear hSw
        go_simp
      try simp only [Act.put, List.setIfInBounds_toArray, List.set_cons_zero, List.set_cons_succ]
      refine wpAnyH_take (i := 30) (oi := ⟨some 39, _, _, _, _, _⟩) (v := .slice (some ⟨g, off, none⟩) 21 cap) rfl (by as_aux_lemma => kernel_rfl) (by as_aux_lemma => kernel_rfl) (by as_aux_lemma => kernel_rfl) (fun _ _ _ h => h) (Or.inl ⟨by rfl, ?_⟩) (by assumption) ?_
      · intro W hSw
        kernel_rfl
      try simp only [Act.put, List.setIfInBounds_toArray, List.set_cons_zero, List.set_cons_succ]
      refine wpAnyH_take (i := 31) (oi := ⟨some 40, _, _, _, _, _⟩) (v := .pointer (some ⟨g, off + 24, none⟩)) rfl (by as_aux_lemma => kernel_rfl) (by as_aux_lemma => kernel_rfl) (by as_aux_lemma => kernel_rfl) (fun _ _ _ h => h) (Or.inl ⟨by rfl, ?_⟩) (by assumption) ?_
      · intro W hSw
        try dsimp only at hSw
        go_simp
      try simp only [Act.put, List.setIfInBounds_toArray, List.set_cons_zero, List.set_cons_succ]
      refine wpAnyH_take (i := 32) (oi := ⟨some 41, _, _, _, _, _⟩) (v := .pointer (some ⟨g, off + 24 + 1, none⟩)) rfl (by as_aux_lemma => kernel_rfl) (by as_aux_lemma => kernel_rfl) (by as_aux_lemma => kernel_rfl) (fun _ _ _ h => h) (Or.inl ⟨by rfl, ?_⟩) (by assumption) ?_
      · intro W hSw
        try dsimp only at hSw
        go_simp
      try simp only [Act.put, List.setIfInBounds_toArray, List.set_cons_zero, List.set_cons_succ]
      refine wpAnyH_take (i := 33) (oi := ⟨some 42, _, _, _, _, _⟩) (v := .int .i64 b8) rfl (by as_aux_lemma => kernel_rfl) (by as_aux_lemma => kernel_rfl) (by as_aux_lemma => kernel_rfl) (fun _ _ _ h => h) (Or.inl ⟨by rfl, ?_⟩) (by assumption) ?_
      · intro W hSw
        have hc := HC8.out W hSw
        clear hSw
        go_simp
      try simp only [Act.put, List.setIfInBounds_toArray, List.set_cons_zero, List.set_cons_succ]
      refine wpAnyH_take (i := 35) (oi := ⟨some 44, _, _, _, _, _⟩) (v := .slice (some ⟨g, off, none⟩) 21 cap) rfl (by as_aux_lemma => kernel_rfl) (by as_aux_lemma => kernel_rfl) (by as_aux_lemma => kernel_rfl) (fun _ _ _ h => h) (Or.inl ⟨by rfl, ?_⟩) (by assumption) ?_
      · intro W hSw
        kernel_rfl
      try simp only [Act.put, List.setIfInBounds_toArray, List.set_cons_zero, List.set_cons_succ]
      refine wpAnyH_take (i := 36) (oi := ⟨some 45, _, _, _, _, _⟩) (v := .pointer (some ⟨g, off + 27, none⟩)) rfl (by as_aux_lemma => kernel_rfl) (by as_aux_lemma => kernel_rfl) (by as_aux_lemma => kernel_rfl) (fun _ _ _ h => h) (Or.inl ⟨by rfl, ?_⟩) (by assumption) ?_
      · intro W hSw
        try dsimp only at hSw
        go_simp
      try simp only [Act.put, List.setIfInBounds_toArray, List.set_cons_zero, List.set_cons_succ]
      refine wpAnyH_take (i := 37) (oi := ⟨some 46, _, _, _, _, _⟩) (v := .pointer (some ⟨g, off + 27 + 1, none⟩)) rfl (by as_aux_lemma => kernel_rfl) (by as_aux_lemma => kernel_rfl) (by as_aux_lemma => kernel_rfl) (fun _ _ _ h => h) (Or.inl ⟨by rfl, ?_⟩) (by assumption) ?_
      · intro W hSw
        try dsimp only at hSw
        go_simp
      try simp only [Act.put, List.setIfInBounds_toArray, List.set_cons_zero, List.set_cons_succ]
      refine wpAnyH_take (i := 38) (oi := ⟨some 47, _, _, _, _, _⟩) (v := .int .i64 b9) rfl (by as_aux_lemma => kernel_rfl) (by as_aux_lemma => kernel_rfl) (by as_aux_lemma => kernel_rfl) (fun _ _ _ h => h) (Or.inl ⟨by rfl, ?_⟩) (by assumption) ?_
      · intro W hSw
        have hc := HC9.out W hSw
        clear hSw
        go_simp
      try simp only [Act.put, List.setIfInBounds_toArray, List.set_cons_zero, List.set_cons_succ]
      refine wpAnyH_take (i := 40) (oi := ⟨some 49, _, _, _, _, _⟩) (v := .slice (some ⟨g, off, none⟩) 21 cap) rfl (by as_aux_lemma => kernel_rfl) (by as_aux_lemma => kernel_rfl) (by as_aux_lemma => kernel_rfl) (fun _ _ _ h => h) (Or.inl ⟨by rfl, ?_⟩) (by assumption) ?_
      · intro W hSw
        kernel_rfl
      try simp only [Act.put, List.setIfInBounds_toArray, List.set_cons_zero, List.set_cons_succ]
      refine wpAnyH_take (i := 41) (oi := ⟨some 50, _, _, _, _, _⟩) (v := .pointer (some ⟨g, off + 30, none⟩)) rfl (by as_aux_lemma => kernel_rfl) (by as_aux_lemma => kernel_rfl) (by as_aux_lemma => kernel_rfl) (fun _ _ _ h => h) (Or.inl ⟨by rfl, ?_⟩) (by assumption) ?_
      · intro W hSw
        try dsimp only at hSw
        go_simp
      try simp only [Act.put, List.setIfInBounds_toArray, List.set_cons_zero, List.set_cons_succ]
      refine wpAnyH_take (i := 42) (oi := ⟨some 51, _, _, _, _, _⟩) (v := .pointer (some ⟨g, off + 30 + 1, none⟩)) rfl (by as_aux_lemma => kernel_rfl) (by as_aux_lemma => kernel_rfl) (by as_aux_lemma => kernel_rfl) (fun _ _ _ h => h) (Or.inl ⟨by rfl, ?_⟩) (by assumption) ?_
      · intro W hSw
        try dsimp only at hSw
        go_simp
      try simp only [Act.put, List.setIfInBounds_toArray, List.set_cons_zero, List.set_cons_succ]
      refine wpAnyH_take (i := 43) (oi := ⟨some 52, _, _, _, _, _⟩) (v := .int .i64 b10) rfl (by as_aux_lemma => kernel_rfl) (by as_aux_lemma => kernel_rfl) (by as_aux_lemma => kernel_rfl) (fun _ _ _ h => h) (Or.inl ⟨by rfl, ?_⟩) (by assumption) ?_
      · intro W hSw
        have hc := HC10.out W hSw
        clear hSw
        go_simp
      try simp only [Act.put, List.setIfInBounds_toArray, List.set_cons_zero, List.set_cons_succ]
      refine wpAnyH_take (i := 44) (oi := ⟨some 53, _, _, _, _, _⟩) (v := .bool (b10 == 1)) rfl (by as_aux_lemma => kernel_rfl) (by as_aux_lemma => kernel_rfl) (by as_aux_lemma => kernel_rfl) (fun _ _ _ h => h) (Or.inl ⟨by rfl, ?_⟩) (by assumption) ?_
      · intro W hSw
        clear hSw
        go_simp
      try simp only [Act.put, List.setIfInBounds_toArray, List.set_cons_zero, List.set_cons_succ]
      refine wpAnyH_take (i := 45) (oi := ⟨some 54, _, _, _, _, _⟩) (v := .slice (some ⟨g, off, none⟩) 21 cap) rfl (by as_aux_lemma => kernel_rfl) (by as_aux_lemma => kernel_rfl) (by as_aux_lemma => kernel_rfl) (fun _ _ _ h => h) (Or.inl ⟨by rfl, ?_⟩) (by assumption) ?_
      · intro W hSw
        kernel_rfl
      try simp only [Act.put, List.setIfInBounds_toArray, List.set_cons_zero, List.set_cons_succ]
      refine wpAnyH_take (i := 46) (oi := ⟨some 55, _, _, _, _, _⟩) (v := .pointer (some ⟨g, off + 33, none⟩)) rfl (by as_aux_lemma => kernel_rfl) (by as_aux_lemma => kernel_rfl) (by as_aux_lemma => kernel_rfl) (fun _ _ _ h => h) (Or.inl ⟨by rfl, ?_⟩) (by assumption) ?_
      · intro W hSw
        try dsimp only at hSw
        go_simp
      try simp only [Act.put, List.setIfInBounds_toArray, List.set_cons_zero, List.set_cons_succ]
      refine wpAnyH_take (i := 47) (oi := ⟨some 56, _, _, _, _, _⟩) (v := .pointer (some ⟨g, off + 33 + 1, none⟩)) rfl (by as_aux_lemma => kernel_rfl) (by as_aux_lemma => kernel_rfl) (by as_aux_lemma => kernel_rfl) (fun _ _ _ h => h) (Or.inl ⟨by rfl, ?_⟩) (by assumption) ?_
      · intro W hSw
        try dsimp only at hSw
        go_simp
      try simp only [Act.put, List.setIfInBounds_toArray, List.set_cons_zero, List.set_cons_succ]
      refine wpAnyH_take (i := 48) (oi := ⟨some 57, _, _, _, _, _⟩) (v := .int .i64 b11) rfl (by as_aux_lemma => kernel_rfl) (by as_aux_lemma => kernel_rfl) (by as_aux_lemma => kernel_rfl) (fun _ _ _ h => h) (Or.inl ⟨by rfl, ?_⟩) (by assumption) ?_
      · intro W hSw
        have hc := HC11.out W hSw
        clear hSw
        go_simp
      try simp only [Act.put, List.setIfInBounds_toArray, List.set_cons_zero, List.set_cons_succ]
      refine wpAnyH_take (i := 49) (oi := ⟨some 58, _, _, _, _, _⟩) (v := .slice (some ⟨g, off, none⟩) 21 cap) rfl (by as_aux_lemma => kernel_rfl) (by as_aux_lemma => kernel_rfl) (by as_aux_lemma => kernel_rfl) (fun _ _ _ h => h) (Or.inl ⟨by rfl, ?_⟩) (by assumption) ?_
      · intro W hSw
        kernel_rfl
      try simp only [Act.put, List.setIfInBounds_toArray, List.set_cons_zero, List.set_cons_succ]
      refine wpAnyH_take (i := 50) (oi := ⟨some 59, _, _, _, _, _⟩) (v := .pointer (some ⟨g, off + 36, none⟩)) rfl (by as_aux_lemma => kernel_rfl) (by as_aux_lemma => kernel_rfl) (by as_aux_lemma => kernel_rfl) (fun _ _ _ h => h) (Or.inl ⟨by rfl, ?_⟩) (by assumption) ?_
      · intro W hSw
        try dsimp only at hSw
        go_simp
      try simp only [Act.put, List.setIfInBounds_toArray, List.set_cons_zero, List.set_cons_succ]
      refine wpAnyH_take (i := 51) (oi := ⟨some 60, _, _, _, _, _⟩) (v := .pointer (some ⟨g, off + 36 + 1, none⟩)) rfl (by as_aux_lemma => kernel_rfl) (by as_aux_lemma => kernel_rfl) (by as_aux_lemma => kernel_rfl) (fun _ _ _ h => h) (Or.inl ⟨by rfl, ?_⟩) (by assumption) ?_
      · intro W hSw
        try dsimp only at hSw
        go_simp
      try simp only [Act.put, List.setIfInBounds_toArray, List.set_cons_zero, List.set_cons_succ]
      refine wpAnyH_take (i := 52) (oi := ⟨some 61, _, _, _, _, _⟩) (v := .int .i64 b12) rfl (by as_aux_lemma => kernel_rfl) (by as_aux_lemma => kernel_rfl) (by as_aux_lemma => kernel_rfl) (fun _ _ _ h => h) (Or.inl ⟨by rfl, ?_⟩) (by assumption) ?_
      · intro W hSw
        have hc := HC12.out W hSw
        clear hSw
        go_simp
      try simp only [Act.put, List.setIfInBounds_toArray, List.set_cons_zero, List.set_cons_succ]
      refine wpAnyH_take (i := 54) (oi := ⟨some 63, _, _, _, _, _⟩) (v := .slice (some ⟨g, off, none⟩) 21 cap) rfl (by as_aux_lemma => kernel_rfl) (by as_aux_lemma => kernel_rfl) (by as_aux_lemma => kernel_rfl) (fun _ _ _ h => h) (Or.inl ⟨by rfl, ?_⟩) (by assumption) ?_
      · intro W hSw
        kernel_rfl
      try simp only [Act.put, List.setIfInBounds_toArray, List.set_cons_zero, List.set_cons_succ]
      refine wpAnyH_take (i := 55) (oi := ⟨some 64, _, _, _, _, _⟩) (v := .pointer (some ⟨g, off + 39, none⟩)) rfl (by as_aux_lemma => kernel_rfl) (by as_aux_lemma => kernel_rfl) (by as_aux_lemma => kernel_rfl) (fun _ _ _ h => h) (Or.inl ⟨by rfl, ?_⟩) (by assumption) ?_
      · intro W hSw
        try dsimp only at hSw
        go_simp
      try simp only [Act.put, List.setIfInBounds_toArray, List.set_cons_zero, List.set_cons_succ]
      refine wpAnyH_take (i := 56) (oi := ⟨some 65, _, _, _, _, _⟩) (v := .pointer (some ⟨g, off + 39 + 1, none⟩)) rfl (by as_aux_lemma => kernel_rfl) (by as_aux_lemma => kernel_rfl) (by as_aux_lemma => kernel_rfl) (fun _ _ _ h => h) (Or.inl ⟨by rfl, ?_⟩) (by assumption) ?_
      · intro W hSw
        try dsimp only at hSw
        go_simp
      try simp only [Act.put, List.setIfInBounds_toArray, List.set_cons_zero, List.set_cons_succ]
      refine wpAnyH_take (i := 57) (oi := ⟨some 66, _, _, _, _, _⟩) (v := .int .i64 b13) rfl (by as_aux_lemma => kernel_rfl) (by as_aux_lemma => kernel_rfl) (by as_aux_lemma => kernel_rfl) (fun _ _ _ h => h) (Or.inl ⟨by rfl, ?_⟩) (by assumption) ?_
      · intro W hSw
        have hc := HC13.out W hSw
        clear hSw
        go_simp
      try simp only [Act.put, List.setIfInBounds_toArray, List.set_cons_zero, List.set_cons_succ]
      refine wpAnyH_take (i := 58) (oi := ⟨some 67, _, _, _, _, _⟩) (v := .slice (some ⟨g, off, none⟩) 21 cap) rfl (by as_aux_lemma => kernel_rfl) (by as_aux_lemma => kernel_rfl) (by as_aux_lemma => kernel_rfl) (fun _ _ _ h => h) (Or.inl ⟨by rfl, ?_⟩) (by assumption) ?_
      · intro W hSw
        kernel_rfl
      try simp only [Act.put, List.setIfInBounds_toArray, List.set_cons_zero, List.set_cons_succ]
      refine wpAnyH_take (i := 59) (oi := ⟨some 68, _, _, _, _, _⟩) (v := .pointer (some ⟨g, off + 42, none⟩)) rfl (by as_aux_lemma => kernel_rfl) (by as_aux_lemma => kernel_rfl) (by as_aux_lemma => kernel_rfl) (fun _ _ _ h => h) (Or.inl ⟨by rfl, ?_⟩) (by assumption) ?_
      · intro W hSw
        try dsimp only at hSw
        go_simp
      try simp only [Act.put, List.setIfInBounds_toArray, List.set_cons_zero, List.set_cons_succ]
      refine wpAnyH_take (i := 60) (oi := ⟨some 69, _, _, _, _, _⟩) (v := .pointer (some ⟨g, off + 42 + 2, none⟩)) rfl (by as_aux_lemma => kernel_rfl) (by as_aux_lemma => kernel_rfl) (by as_aux_lemma => kernel_rfl) (fun _ _ _ h => h) (Or.inl ⟨by rfl, ?_⟩) (by assumption) ?_
      · intro W hSw
        try dsimp only at hSw
        go_simp
      try simp only [Act.put, List.setIfInBounds_toArray, List.set_cons_zero, List.set_cons_succ]
      refine wpAnyH_take (i := 61) (oi := ⟨some 70, _, _, _, _, _⟩) (v := .string b14) rfl (by as_aux_lemma => kernel_rfl) (by as_aux_lemma => kernel_rfl) (by as_aux_lemma => kernel_rfl) (fun _ _ _ h => h) (Or.inl ⟨by rfl, ?_⟩) (by assumption) ?_
      · intro W hSw
        have hc := HC14.out W hSw
        clear hSw
        go_simp
      try simp only [Act.put, List.setIfInBounds_toArray, List.set_cons_zero, List.set_cons_succ]
      refine wpAnyH_take (i := 62) (oi := ⟨some 71, _, _, _, _, _⟩) (v := .slice (some ⟨g, off, none⟩) 21 cap) rfl (by as_aux_lemma => kernel_rfl) (by as_aux_lemma => kernel_rfl) (by as_aux_lemma => kernel_rfl) (fun _ _ _ h => h) (Or.inl ⟨by rfl, ?_⟩) (by assumption) ?_
      · intro W hSw
        kernel_rfl
      try simp only [Act.put, List.setIfInBounds_toArray, List.set_cons_zero, List.set_cons_succ]
      refine wpAnyH_take (i := 63) (oi := ⟨some 72, _, _, _, _, _⟩) (v := .pointer (some ⟨g, off + 45, none⟩)) rfl (by as_aux_lemma => kernel_rfl) (by as_aux_lemma => kernel_rfl) (by as_aux_lemma => kernel_rfl) (fun _ _ _ h => h) (Or.inl ⟨by rfl, ?_⟩) (by assumption) ?_
      · intro W hSw
        try dsimp only at hSw
        go_simp
      try simp only [Act.put, List.setIfInBounds_toArray, List.set_cons_zero, List.set_cons_succ]
      refine wpAnyH_take (i := 64) (oi := ⟨some 73, _, _, _, _, _⟩) (v := .pointer (some ⟨g, off + 45 + 1, none⟩)) rfl (by as_aux_lemma => kernel_rfl) (by as_aux_lemma => kernel_rfl) (by as_aux_lemma => kernel_rfl) (fun _ _ _ h => h) (Or.inl ⟨by rfl, ?_⟩) (by assumption) ?_
      · intro W hSw
        try dsimp only at hSw
        go_simp
      try simp only [Act.put, List.setIfInBounds_toArray, List.set_cons_zero, List.set_cons_succ]
      refine wpAnyH_take (i := 65) (oi := ⟨some 74, _, _, _, _, _⟩) (v := .int .i64 b15) rfl (by as_aux_lemma => kernel_rfl) (by as_aux_lemma => kernel_rfl) (by as_aux_lemma => kernel_rfl) (fun _ _ _ h => h) (Or.inl ⟨by rfl, ?_⟩) (by assumption) ?_
      · intro W hSw
        have hc := HC15.out W hSw
        clear hSw
        go_simp
      try simp only [Act.put, List.setIfInBounds_toArray, List.set_cons_zero, List.set_cons_succ]
      refine wpAnyH_take (i := 67) (oi := ⟨some 76, _, _, _, _, _⟩) (v := .slice (some ⟨g, off, none⟩) 21 cap) rfl (by as_aux_lemma => kernel_rfl) (by as_aux_lemma => kernel_rfl) (by as_aux_lemma => kernel_rfl) (fun _ _ _ h => h) (Or.inl ⟨by rfl, ?_⟩) (by assumption) ?_
      · intro W hSw
        kernel_rfl
      try simp only [Act.put, List.setIfInBounds_toArray, List.set_cons_zero, List.set_cons_succ]
      refine wpAnyH_take (i := 68) (oi := ⟨some 77, _, _, _, _, _⟩) (v := .pointer (some ⟨g, off + 48, none⟩)) rfl (by as_aux_lemma => kernel_rfl) (by as_aux_lemma => kernel_rfl) (by as_aux_lemma => kernel_rfl) (fun _ _ _ h => h) (Or.inl ⟨by rfl, ?_⟩) (by assumption) ?_
      · intro W hSw
        try dsimp only at hSw
        go_simp
      try simp only [Act.put, List.setIfInBounds_toArray, List.set_cons_zero, List.set_cons_succ]
      refine wpAnyH_take (i := 69) (oi := ⟨some 78, _, _, _, _, _⟩) (v := .pointer (some ⟨g, off + 48 + 1, none⟩)) rfl (by as_aux_lemma => kernel_rfl) (by as_aux_lemma => kernel_rfl) (by as_aux_lemma => kernel_rfl) (fun _ _ _ h => h) (Or.inl ⟨by rfl, ?_⟩) (by assumption) ?_
      · intro W hSw
        try dsimp only at hSw
        go_simp
      try simp only [Act.put, List.setIfInBounds_toArray, List.set_cons_zero, List.set_cons_succ]
      refine wpAnyH_take (i := 70) (oi := ⟨some 79, _, _, _, _, _⟩) (v := .int .i64 b16) rfl (by as_aux_lemma => kernel_rfl) (by as_aux_lemma => kernel_rfl) (by as_aux_lemma => kernel_rfl) (fun _ _ _ h => h) (Or.inl ⟨by rfl, ?_⟩) (by assumption) ?_
      · intro W hSw
        have hc := HC16.out W hSw
        clear hSw
        go_simp
      try simp only [Act.put, List.setIfInBounds_toArray, List.set_cons_zero, List.set_cons_succ]
      refine wpAnyH_take (i := 72) (oi := ⟨some 81, _, _, _, _, _⟩) (v := .slice (some ⟨g, off, none⟩) 21 cap) rfl (by as_aux_lemma => kernel_rfl) (by as_aux_lemma => kernel_rfl) (by as_aux_lemma => kernel_rfl) (fun _ _ _ h => h) (Or.inl ⟨by rfl, ?_⟩) (by assumption) ?_
      · intro W hSw
        kernel_rfl
      try simp only [Act.put, List.setIfInBounds_toArray, List.set_cons_zero, List.set_cons_succ]
      refine wpAnyH_take (i := 73) (oi := ⟨some 82, _, _, _, _, _⟩) (v := .pointer (some ⟨g, off + 51, none⟩)) rfl (by as_aux_lemma => kernel_rfl) (by as_aux_lemma => kernel_rfl) (by as_aux_lemma => kernel_rfl) (fun _ _ _ h => h) (Or.inl ⟨by rfl, ?_⟩) (by assumption) ?_
      · intro W hSw
        try dsimp only at hSw
        go_simp
      try simp only [Act.put, List.setIfInBounds_toArray, List.set_cons_zero, List.set_cons_succ]
      refine wpAnyH_take (i := 74) (oi := ⟨some 83, _, _, _, _, _⟩) (v := .pointer (some ⟨g, off + 51 + 2, none⟩)) rfl (by as_aux_lemma => kernel_rfl) (by as_aux_lemma => kernel_rfl) (by as_aux_lemma => kernel_rfl) (fun _ _ _ h => h) (Or.inl ⟨by rfl, ?_⟩) (by assumption) ?_
      · intro W hSw
        try dsimp only at hSw
        go_simp
      try simp only [Act.put, List.setIfInBounds_toArray, List.set_cons_zero, List.set_cons_succ]
      refine wpAnyH_take (i := 75) (oi := ⟨some 84, _, _, _, _, _⟩) (v := .string b17) rfl (by as_aux_lemma => kernel_rfl) (by as_aux_lemma => kernel_rfl) (by as_aux_lemma => kernel_rfl) (fun _ _ _ h => h) (Or.inl ⟨by rfl, ?_⟩) (by assumption) ?_
      · intro W hSw
        have hc := HC17.out W hSw
        clear hSw
        go_simp
      try simp only [Act.put, List.setIfInBounds_toArray, List.set_cons_zero, List.set_cons_succ]
      refine wpAnyH_take (i := 76) (oi := ⟨some 85, _, _, _, _, _⟩) (v := .slice (some ⟨g, off, none⟩) 21 cap) rfl (by as_aux_lemma => kernel_rfl) (by as_aux_lemma => kernel_rfl) (by as_aux_lemma => kernel_rfl) (fun _ _ _ h => h) (Or.inl ⟨by rfl, ?_⟩) (by assumption) ?_
      · intro W hSw
        kernel_rfl
      try simp only [Act.put, List.setIfInBounds_toArray, List.set_cons_zero, List.set_cons_succ]
      refine wpAnyH_take (i := 77) (oi := ⟨some 86, _, _, _, _, _⟩) (v := .pointer (some ⟨g, off + 54, none⟩)) rfl (by as_aux_lemma => kernel_rfl) (by as_aux_lemma => kernel_rfl) (by as_aux_lemma => kernel_rfl) (fun _ _ _ h => h) (Or.inl ⟨by rfl, ?_⟩) (by assumption) ?_
      · intro W hSw
        try dsimp only at hSw
        go_simp
      try simp only [Act.put, List.setIfInBounds_toArray, List.set_cons_zero, List.set_cons_succ]
      refine wpAnyH_take (i := 78) (oi := ⟨some 87, _, _, _, _, _⟩) (v := .pointer (some ⟨g, off + 54 + 1, none⟩)) rfl (by as_aux_lemma => kernel_rfl) (by as_aux_lemma => kernel_rfl) (by as_aux_lemma => kernel_rfl) (fun _ _ _ h => h) (Or.inl ⟨by rfl, ?_⟩) (by assumption) ?_
      · intro W hSw
        try dsimp only at hSw
        go_simp
      try simp only [Act.put, List.setIfInBounds_toArray, List.set_cons_zero, List.set_cons_succ]
      refine wpAnyH_take (i := 79) (oi := ⟨some 88, _, _, _, _, _⟩) (v := .int .i64 b18) rfl (by as_aux_lemma => kernel_rfl) (by as_aux_lemma => kernel_rfl) (by as_aux_lemma => kernel_rfl) (fun _ _ _ h => h) (Or.inl ⟨by rfl, ?_⟩) (by assumption) ?_
      · intro W hSw
        have hc := HC18.out W hSw
        clear hSw
        go_simp
      try simp only [Act.put, List.setIfInBounds_toArray, List.set_cons_zero, List.set_cons_succ]
      refine wpAnyH_take (i := 80) (oi := ⟨some 89, _, _, _, _, _⟩) (v := .slice (some ⟨g, off, none⟩) 21 cap) rfl (by as_aux_lemma => kernel_rfl) (by as_aux_lemma => kernel_rfl) (by as_aux_lemma => kernel_rfl) (fun _ _ _ h => h) (Or.inl ⟨by rfl, ?_⟩) (by assumption) ?_
      · intro W hSw
        kernel_rfl
      try simp only [Act.put, List.setIfInBounds_toArray, List.set_cons_zero, List.set_cons_succ]
      refine wpAnyH_take (i := 81) (oi := ⟨some 90, _, _, _, _, _⟩) (v := .pointer (some ⟨g, off + 57, none⟩)) rfl (by as_aux_lemma => kernel_rfl) (by as_aux_lemma => kernel_rfl) (by as_aux_lemma => kernel_rfl) (fun _ _ _ h => h) (Or.inl ⟨by rfl, ?_⟩) (by assumption) ?_
      · intro W hSw
        try dsimp only at hSw
        go_simp
      try simp only [Act.put, List.setIfInBounds_toArray, List.set_cons_zero, List.set_cons_succ]
      refine wpAnyH_take (i := 82) (oi := ⟨some 91, _, _, _, _, _⟩) (v := .pointer (some ⟨g, off + 57 + 1, none⟩)) rfl (by as_aux_lemma => kernel_rfl) (by as_aux_lemma => kernel_rfl) (by as_aux_lemma => kernel_rfl) (fun _ _ _ h => h) (Or.inl ⟨by rfl, ?_⟩) (by assumption) ?_
      · intro W hSw
        try dsimp only at hSw
        go_simp
      try simp only [Act.put, List.setIfInBounds_toArray, List.set_cons_zero, List.set_cons_succ]
      refine wpAnyH_take (i := 83) (oi := ⟨some 92, _, _, _, _, _⟩) (v := .int .i64 b19) rfl (by as_aux_lemma => kernel_rfl) (by as_aux_lemma => kernel_rfl) (by as_aux_lemma => kernel_rfl) (fun _ _ _ h => h) (Or.inl ⟨by rfl, ?_⟩) (by assumption) ?_
      · intro W hSw
        have hc := HC19.out W hSw
        clear hSw
        go_simp
      try simp only [Act.put, List.setIfInBounds_toArray, List.set_cons_zero, List.set_cons_succ]
      refine wpAnyH_take (i := 84) (oi := ⟨some 93, _, _, _, _, _⟩) (v := .slice (some ⟨g, off, none⟩) 21 cap) rfl (by as_aux_lemma => kernel_rfl) (by as_aux_lemma => kernel_rfl) (by as_aux_lemma => kernel_rfl) (fun _ _ _ h => h) (Or.inl ⟨by rfl, ?_⟩) (by assumption) ?_
      · intro W hSw
        kernel_rfl
      try simp only [Act.put, List.setIfInBounds_toArray, List.set_cons_zero, List.set_cons_succ]
      refine wpAnyH_take (i := 85) (oi := ⟨some 94, _, _, _, _, _⟩) (v := .pointer (some ⟨g, off + 60, none⟩)) rfl (by as_aux_lemma => kernel_rfl) (by as_aux_lemma => kernel_rfl) (by as_aux_lemma => kernel_rfl) (fun _ _ _ h => h) (Or.inl ⟨by rfl, ?_⟩) (by assumption) ?_
      · intro W hSw
        try dsimp only at hSw
        go_simp
      try simp only [Act.put, List.setIfInBounds_toArray, List.set_cons_zero, List.set_cons_succ]
      refine wpAnyH_take (i := 86) (oi := ⟨some 95, _, _, _, _, _⟩) (v := .pointer (some ⟨g, off + 60 + 2, none⟩)) rfl (by as_aux_lemma => kernel_rfl) (by as_aux_lemma => kernel_rfl) (by as_aux_lemma => kernel_rfl) (fun _ _ _ h => h) (Or.inl ⟨by rfl, ?_⟩) (by assumption) ?_
      · intro W hSw
        try dsimp only at hSw
        go_simp
      try simp only [Act.put, List.setIfInBounds_toArray, List.set_cons_zero, List.set_cons_succ]
      refine wpAnyH_take (i := 87) (oi := ⟨some 96, _, _, _, _, _⟩) (v := .string b20) rfl (by as_aux_lemma => kernel_rfl) (by as_aux_lemma => kernel_rfl) (by as_aux_lemma => kernel_rfl) (fun _ _ _ h => h) (Or.inl ⟨by rfl, ?_⟩) (by assumption) ?_
      · intro W hSw
        have hc := HC20.out W hSw
        clear hSw
        go_simp
      try simp only [Act.put, List.setIfInBounds_toArray, List.set_cons_zero, List.set_cons_succ]
      refine wpAnyH_ready (rs := [4, 89]) (by as_aux_lemma => kernel_rfl) (by simp) ?_
      refine AllReadyH.cons (o := ⟨some 13, _, _, _, _, _⟩) rfl (fun K hK => ?_) (AllReadyH.cons (o := ⟨some 4, _, _, _, _, _⟩) rfl (fun K hK => ?_) AllReadyH.nil)
      rotate_left
      · skip
        refine step_allocW (t := 25) rfl rfl (allocX _) ?_
        intro w2 hw2
        have RZ := Lib.hid (show w2.heap[w1.heap.size]? = some (.cells (xcs zX) 25) by rw [← hw2]; exact heap_alloc_new w1.drew _)
        have BZ := Lib.hid (show Below w1.heap.size w1 w2 by rw [← hw2]; exact BD.out.alloc (Nat.le_refl _) _)
        clear hw2 hHeld
        refine hK.out _ _ (K1.out.trans (BZ.out.mono K1.out.size)) (fun hHeld => ?_)
        clear hK K
        try simp only [Act.put, List.setIfInBounds_toArray, List.set_cons_zero, List.set_cons_succ]
        refine wpAnyH_ready (rs := [4]) (by as_aux_lemma => kernel_rfl) (by simp) ?_
        refine AllReadyH.cons (o := ⟨some 13, _, _, _, _, _⟩) rfl (fun K hK => ?_) AllReadyH.nil
        go_simp
        (with_reducible refine (IX.out _ _).mono ?_)
        rintro e w' ⟨rfl, rfl⟩
        clear hHeld
        refine hK.out _ _ (K1.out.trans (BZ.out.mono K1.out.size)) (fun hHeld => ?_)
        clear hK K
        try simp only [Act.put, List.setIfInBounds_toArray, List.set_cons_zero, List.set_cons_succ]
        refine wpAnyH_ready (rs := [9]) (by as_aux_lemma => kernel_rfl) (by simp) ?_
        refine AllReadyH.cons (o := ⟨some 18, _, _, _, _, _⟩) rfl (fun K hK => ?_) AllReadyH.nil
        go_simp
        (with_reducible refine (IX.out _ _).mono ?_)
        rintro e w' ⟨rfl, rfl⟩
        clear hHeld
        refine hK.out _ _ (K1.out.trans (BZ.out.mono K1.out.size)) (fun hHeld => ?_)
        clear hK K
        try simp only [Act.put, List.setIfInBounds_toArray, List.set_cons_zero, List.set_cons_succ]
        refine wpAnyH_ready (rs := [34]) (by as_aux_lemma => kernel_rfl) (by simp) ?_
        refine AllReadyH.cons (o := ⟨some 43, _, _, _, _, _⟩) rfl (fun K hK => ?_) AllReadyH.nil
        go_simp
        (with_reducible refine (IX.out _ _).mono ?_)
        rintro e w' ⟨rfl, rfl⟩
        clear hHeld
        refine hK.out _ _ (K1.out.trans (BZ.out.mono K1.out.size)) (fun hHeld => ?_)
        clear hK K
        try simp only [Act.put, List.setIfInBounds_toArray, List.set_cons_zero, List.set_cons_succ]
        refine wpAnyH_ready (rs := [39]) (by as_aux_lemma => kernel_rfl) (by simp) ?_
        refine AllReadyH.cons (o := ⟨some 48, _, _, _, _, _⟩) rfl (fun K hK => ?_) AllReadyH.nil
        go_simp
        (with_reducible refine (IX.out _ _).mono ?_)
        rintro e w' ⟨rfl, rfl⟩
        clear hHeld
        refine hK.out _ _ (K1.out.trans (BZ.out.mono K1.out.size)) (fun hHeld => ?_)
        clear hK K
        try simp only [Act.put, List.setIfInBounds_toArray, List.set_cons_zero, List.set_cons_succ]
        refine wpAnyH_ready (rs := [53]) (by as_aux_lemma => kernel_rfl) (by simp) ?_
        refine AllReadyH.cons (o := ⟨some 62, _, _, _, _, _⟩) rfl (fun K hK => ?_) AllReadyH.nil
        go_simp
        (with_reducible refine (IX.out _ _).mono ?_)
        rintro e w' ⟨rfl, rfl⟩
        clear hHeld
        refine hK.out _ _ (K1.out.trans (BZ.out.mono K1.out.size)) (fun hHeld => ?_)
        clear hK K
        try simp only [Act.put, List.setIfInBounds_toArray, List.set_cons_zero, List.set_cons_succ]
        refine wpAnyH_ready (rs := [66]) (by as_aux_lemma => kernel_rfl) (by simp) ?_
        refine AllReadyH.cons (o := ⟨some 75, _, _, _, _, _⟩) rfl (fun K hK => ?_) AllReadyH.nil
        go_simp
        (with_reducible refine (IX.out _ _).mono ?_)
        rintro e w' ⟨rfl, rfl⟩
        clear hHeld
        refine hK.out _ _ (K1.out.trans (BZ.out.mono K1.out.size)) (fun hHeld => ?_)
        clear hK K
        try simp only [Act.put, List.setIfInBounds_toArray, List.set_cons_zero, List.set_cons_succ]
        refine wpAnyH_ready (rs := [71]) (by as_aux_lemma => kernel_rfl) (by simp) ?_
        refine AllReadyH.cons (o := ⟨some 80, _, _, _, _, _⟩) rfl (fun K hK => ?_) AllReadyH.nil
        go_simp
        (with_reducible refine (IX.out _ _).mono ?_)
        rintro e w' ⟨rfl, rfl⟩
        clear hHeld
        refine hK.out _ _ (K1.out.trans (BZ.out.mono K1.out.size)) (fun hHeld => ?_)
        clear hK K
        try simp only [Act.put, List.setIfInBounds_toArray, List.set_cons_zero, List.set_cons_succ]
        refine wpAnyH_take (i := 88) (oi := ⟨some 97, _, _, _, _, _⟩) (v := .agg (xcs ⟨i20 b1, i20 b2, b3, b4, b5, b6, b7, i20 b8, i20 b9, (b10 == 1), b11, i20 b12, b13, b14, i20 b15, i20 b16, b17, b18, b19, b20⟩)) rfl (by as_aux_lemma => kernel_rfl) (by as_aux_lemma => kernel_rfl) (by as_aux_lemma => kernel_rfl) (fun _ _ _ h => h) (Or.inl ⟨by rfl, ?_⟩) (by assumption) ?_
        · intro W hSw
          first | kernel_rfl | go_simp
        try simp only [Act.put, List.setIfInBounds_toArray, List.set_cons_zero, List.set_cons_succ]
        refine wpAnyH_ready (rs := [90]) (by as_aux_lemma => kernel_rfl) (by simp) ?_
        refine AllReadyH.cons (o := ⟨none, _, _, _, _, _⟩) rfl (fun K hK => ?_) AllReadyH.nil
        refine step_storeW (t := 25) (x := .tmp 4) (y := .tmp 97) rfl rfl (.pointer (some ⟨w1.heap.size, 0, none⟩)) (.agg (xcs ⟨i20 b1, i20 b2, b3, b4, b5, b6, b7, i20 b8, i20 b9, (b10 == 1), b11, i20 b12, b13, b14, i20 b15, i20 b16, b17, b18, b19, b20⟩)) rfl rfl (storeX rfl rfl (xcs_one _) _ _ RZ.out) ?_
        clear hHeld
        refine hK.out _ _ (K1.out.trans ((below_put BZ.out (Nat.le_refl _) _).mono K1.out.size)) (fun hHeld => ?_)
        clear hK K hHeld
        try simp only [Act.put]
        refine wpAnyH_done (by as_aux_lemma => kernel_rfl) ?_ _
        go_wp2_with fail
        go_meet
        exact ⟨rfl, setRow_heap _ _ _ _ _ _ RZ.out, below_put BZ.out (Nat.le_refl _) _⟩
      go_simp
      (with_reducible refine (IX.out _ _).mono ?_)
      rintro e w' ⟨rfl, rfl⟩
      clear hHeld
      refine hK.out _ _ (K1.out.trans (BD.out.mono K1.out.size)) (fun hHeld => ?_)
      clear hK K
      try simp only [Act.put, List.setIfInBounds_toArray, List.set_cons_zero, List.set_cons_succ]
      refine wpAnyH_ready (rs := [9, 89]) (by as_aux_lemma => kernel_rfl) (by simp) ?_
      refine AllReadyH.cons (o := ⟨some 18, _, _, _, _, _⟩) rfl (fun K hK => ?_) (AllReadyH.cons (o := ⟨some 4, _, _, _, _, _⟩) rfl (fun K hK => ?_) AllReadyH.nil)
      rotate_left
      · skip
        refine step_allocW (t := 25) rfl rfl (allocX _) ?_
        intro w2 hw2
        have RZ := Lib.hid (show w2.heap[w1.heap.size]? = some (.cells (xcs zX) 25) by rw [← hw2]; exact heap_alloc_new w1.drew _)
        have BZ := Lib.hid (show Below w1.heap.size w1 w2 by rw [← hw2]; exact BD.out.alloc (Nat.le_refl _) _)
        clear hw2 hHeld
        refine hK.out _ _ (K1.out.trans (BZ.out.mono K1.out.size)) (fun hHeld => ?_)
        clear hK K
        try simp only [Act.put, List.setIfInBounds_toArray, List.set_cons_zero, List.set_cons_succ]
        refine wpAnyH_ready (rs := [9]) (by as_aux_lemma => kernel_rfl) (by simp) ?_
        refine AllReadyH.cons (o := ⟨some 18, _, _, _, _, _⟩) rfl (fun K hK => ?_) AllReadyH.nil
        go_simp
        (with_reducible refine (IX.out _ _).mono ?_)
        rintro e w' ⟨rfl, rfl⟩
        clear hHeld
        refine hK.out _ _ (K1.out.trans (BZ.out.mono K1.out.size)) (fun hHeld => ?_)
        clear hK K
        try simp only [Act.put, List.setIfInBounds_toArray, List.set_cons_zero, List.set_cons_succ]
        refine wpAnyH_ready (rs := [34]) (by as_aux_lemma => kernel_rfl) (by simp) ?_
        refine AllReadyH.cons (o := ⟨some 43, _, _, _, _, _⟩) rfl (fun K hK => ?_) AllReadyH.nil
        go_simp
        (with_reducible refine (IX.out _ _).mono ?_)
        rintro e w' ⟨rfl, rfl⟩
        clear hHeld
        refine hK.out _ _ (K1.out.trans (BZ.out.mono K1.out.size)) (fun hHeld => ?_)
        clear hK K
        try simp only [Act.put, List.setIfInBounds_toArray, List.set_cons_zero, List.set_cons_succ]
        refine wpAnyH_ready (rs := [39]) (by as_aux_lemma => kernel_rfl) (by simp) ?_
        refine AllReadyH.cons (o := ⟨some 48, _, _, _, _, _⟩) rfl (fun K hK => ?_) AllReadyH.nil
        go_simp
        (with_reducible refine (IX.out _ _).mono ?_)
        rintro e w' ⟨rfl, rfl⟩
        clear hHeld
        refine hK.out _ _ (K1.out.trans (BZ.out.mono K1.out.size)) (fun hHeld => ?_)
        clear hK K
        try simp only [Act.put, List.setIfInBounds_toArray, List.set_cons_zero, List.set_cons_succ]
        refine wpAnyH_ready (rs := [53]) (by as_aux_lemma => kernel_rfl) (by simp) ?_
        refine AllReadyH.cons (o := ⟨some 62, _, _, _, _, _⟩) rfl (fun K hK => ?_) AllReadyH.nil
        go_simp
        (with_reducible refine (IX.out _ _).mono ?_)
        rintro e w' ⟨rfl, rfl⟩
        clear hHeld
        refine hK.out _ _ (K1.out.trans (BZ.out.mono K1.out.size)) (fun hHeld => ?_)
        clear hK K
        try simp only [Act.put, List.setIfInBounds_toArray, List.set_cons_zero, List.set_cons_succ]
        refine wpAnyH_ready (rs := [66]) (by as_aux_lemma => kernel_rfl) (by simp) ?_
        refine AllReadyH.cons (o := ⟨some 75, _, _, _, _, _⟩) rfl (fun K hK => ?_) AllReadyH.nil
        go_simp
        (with_reducible refine (IX.out _ _).mono ?_)
        rintro e w' ⟨rfl, rfl⟩
        clear hHeld
        refine hK.out _ _ (K1.out.trans (BZ.out.mono K1.out.size)) (fun hHeld => ?_)
        clear hK K
        try simp only [Act.put, List.setIfInBounds_toArray, List.set_cons_zero, List.set_cons_succ]
        refine wpAnyH_ready (rs := [71]) (by as_aux_lemma => kernel_rfl) (by simp) ?_
        refine AllReadyH.cons (o := ⟨some 80, _, _, _, _, _⟩) rfl (fun K hK => ?_) AllReadyH.nil
        go_simp
        (with_reducible refine (IX.out _ _).mono ?_)
        rintro e w' ⟨rfl, rfl⟩
        clear hHeld
        refine hK.out _ _ (K1.out.trans (BZ.out.mono K1.out.size)) (fun hHeld => ?_)
        clear hK K
        try simp only [Act.put, List.setIfInBounds_toArray, List.set_cons_zero, List.set_cons_succ]
        refine wpAnyH_take (i := 88) (oi := ⟨some 97, _, _, _, _, _⟩) (v := .agg (xcs ⟨i20 b1, i20 b2, b3, b4, b5, b6, b7, i20 b8, i20 b9, (b10 == 1), b11, i20 b12, b13, b14, i20 b15, i20 b16, b17, b18, b19, b20⟩)) rfl (by as_aux_lemma => kernel_rfl) (by as_aux_lemma => kernel_rfl) (by as_aux_lemma => kernel_rfl) (fun _ _ _ h => h) (Or.inl ⟨by rfl, ?_⟩) (by assumption) ?_
        · intro W hSw
          first | kernel_rfl | go_simp
        try simp only [Act.put, List.setIfInBounds_toArray, List.set_cons_zero, List.set_cons_succ]
        refine wpAnyH_ready (rs := [90]) (by as_aux_lemma => kernel_rfl) (by simp) ?_
        refine AllReadyH.cons (o := ⟨none, _, _, _, _, _⟩) rfl (fun K hK => ?_) AllReadyH.nil
        refine step_storeW (t := 25) (x := .tmp 4) (y := .tmp 97) rfl rfl (.pointer (some ⟨w1.heap.size, 0, none⟩)) (.agg (xcs ⟨i20 b1, i20 b2, b3, b4, b5, b6, b7, i20 b8, i20 b9, (b10 == 1), b11, i20 b12, b13, b14, i20 b15, i20 b16, b17, b18, b19, b20⟩)) rfl rfl (storeX rfl rfl (xcs_one _) _ _ RZ.out) ?_
        clear hHeld
        refine hK.out _ _ (K1.out.trans ((below_put BZ.out (Nat.le_refl _) _).mono K1.out.size)) (fun hHeld => ?_)
        clear hK K hHeld
        try simp only [Act.put]
        refine wpAnyH_done (by as_aux_lemma => kernel_rfl) ?_ _
        go_wp2_with fail
        go_meet
        exact ⟨rfl, setRow_heap _ _ _ _ _ _ RZ.out, below_put BZ.out (Nat.le_refl _) _⟩
      go_simp
      (with_reducible refine (IX.out _ _).mono ?_)
      rintro e w' ⟨rfl, rfl⟩
      clear hHeld
      refine hK.out _ _ (K1.out.trans (BD.out.mono K1.out.size)) (fun hHeld => ?_)
      clear hK K
      try simp only [Act.put, List.setIfInBounds_toArray, List.set_cons_zero, List.set_cons_succ]
      refine wpAnyH_ready (rs := [34, 89]) (by as_aux_lemma => kernel_rfl) (by simp) ?_
      refine AllReadyH.cons (o := ⟨some 43, _, _, _, _, _⟩) rfl (fun K hK => ?_) (AllReadyH.cons (o := ⟨some 4, _, _, _, _, _⟩) rfl (fun K hK => ?_) AllReadyH.nil)
      rotate_left
      · skip
        refine step_allocW (t := 25) rfl rfl (allocX _) ?_
        intro w2 hw2
        have RZ := Lib.hid (show w2.heap[w1.heap.size]? = some (.cells (xcs zX) 25) by rw [← hw2]; exact heap_alloc_new w1.drew _)
        have BZ := Lib.hid (show Below w1.heap.size w1 w2 by rw [← hw2]; exact BD.out.alloc (Nat.le_refl _) _)
        clear hw2 hHeld
        refine hK.out _ _ (K1.out.trans (BZ.out.mono K1.out.size)) (fun hHeld => ?_)
        clear hK K
        try simp only [Act.put, List.setIfInBounds_toArray, List.set_cons_zero, List.set_cons_succ]
        refine wpAnyH_ready (rs := [34]) (by as_aux_lemma => kernel_rfl) (by simp) ?_
        refine AllReadyH.cons (o := ⟨some 43, _, _, _, _, _⟩) rfl (fun K hK => ?_) AllReadyH.nil
        go_simp
        (with_reducible refine (IX.out _ _).mono ?_)
        rintro e w' ⟨rfl, rfl⟩
        clear hHeld
        refine hK.out _ _ (K1.out.trans (BZ.out.mono K1.out.size)) (fun hHeld => ?_)
        clear hK K
        try simp only [Act.put, List.setIfInBounds_toArray, List.set_cons_zero, List.set_cons_succ]
        refine wpAnyH_ready (rs := [39]) (by as_aux_lemma => kernel_rfl) (by simp) ?_
        refine AllReadyH.cons (o := ⟨some 48, _, _, _, _, _⟩) rfl (fun K hK => ?_) AllReadyH.nil
        go_simp
        (with_reducible refine (IX.out _ _).mono ?_)
        rintro e w' ⟨rfl, rfl⟩
        clear hHeld
        refine hK.out _ _ (K1.out.trans (BZ.out.mono K1.out.size)) (fun hHeld => ?_)
        clear hK K
        try simp only [Act.put, List.setIfInBounds_toArray, List.set_cons_zero, List.set_cons_succ]
        refine wpAnyH_ready (rs := [53]) (by as_aux_lemma => kernel_rfl) (by simp) ?_
        refine AllReadyH.cons (o := ⟨some 62, _, _, _, _, _⟩) rfl (fun K hK => ?_) AllReadyH.nil
        go_simp
        (with_reducible refine (IX.out _ _).mono ?_)
        rintro e w' ⟨rfl, rfl⟩
        clear hHeld
        refine hK.out _ _ (K1.out.trans (BZ.out.mono K1.out.size)) (fun hHeld => ?_)
        clear hK K
        try simp only [Act.put, List.setIfInBounds_toArray, List.set_cons_zero, List.set_cons_succ]
        refine wpAnyH_ready (rs := [66]) (by as_aux_lemma => kernel_rfl) (by simp) ?_
        refine AllReadyH.cons (o := ⟨some 75, _, _, _, _, _⟩) rfl (fun K hK => ?_) AllReadyH.nil
        go_simp
        (with_reducible refine (IX.out _ _).mono ?_)
        rintro e w' ⟨rfl, rfl⟩
        clear hHeld
        refine hK.out _ _ (K1.out.trans (BZ.out.mono K1.out.size)) (fun hHeld => ?_)
        clear hK K
        try simp only [Act.put, List.setIfInBounds_toArray, List.set_cons_zero, List.set_cons_succ]
        refine wpAnyH_ready (rs := [71]) (by as_aux_lemma => kernel_rfl) (by simp) ?_
        refine AllReadyH.cons (o := ⟨some 80, _, _, _, _, _⟩) rfl (fun K hK => ?_) AllReadyH.nil
        go_simp
        (with_reducible refine (IX.out _ _).mono ?_)
        rintro e w' ⟨rfl, rfl⟩
        clear hHeld
        refine hK.out _ _ (K1.out.trans (BZ.out.mono K1.out.size)) (fun hHeld => ?_)
        clear hK K
        try simp only [Act.put, List.setIfInBounds_toArray, List.set_cons_zero, List.set_cons_succ]
        refine wpAnyH_take (i := 88) (oi := ⟨some 97, _, _, _, _, _⟩) (v := .agg (xcs ⟨i20 b1, i20 b2, b3, b4, b5, b6, b7, i20 b8, i20 b9, (b10 == 1), b11, i20 b12, b13, b14, i20 b15, i20 b16, b17, b18, b19, b20⟩)) rfl (by as_aux_lemma => kernel_rfl) (by as_aux_lemma => kernel_rfl) (by as_aux_lemma => kernel_rfl) (fun _ _ _ h => h) (Or.inl ⟨by rfl, ?_⟩) (by assumption) ?_
        · intro W hSw
          first | kernel_rfl | go_simp
        try simp only [Act.put, List.setIfInBounds_toArray, List.set_cons_zero, List.set_cons_succ]
        refine wpAnyH_ready (rs := [90]) (by as_aux_lemma => kernel_rfl) (by simp) ?_
        refine AllReadyH.cons (o := ⟨none, _, _, _, _, _⟩) rfl (fun K hK => ?_) AllReadyH.nil
        refine step_storeW (t := 25) (x := .tmp 4) (y := .tmp 97) rfl rfl (.pointer (some ⟨w1.heap.size, 0, none⟩)) (.agg (xcs ⟨i20 b1, i20 b2, b3, b4, b5, b6, b7, i20 b8, i20 b9, (b10 == 1), b11, i20 b12, b13, b14, i20 b15, i20 b16, b17, b18, b19, b20⟩)) rfl rfl (storeX rfl rfl (xcs_one _) _ _ RZ.out) ?_
        clear hHeld
        refine hK.out _ _ (K1.out.trans ((below_put BZ.out (Nat.le_refl _) _).mono K1.out.size)) (fun hHeld => ?_)
        clear hK K hHeld
        try simp only [Act.put]
        refine wpAnyH_done (by as_aux_lemma => kernel_rfl) ?_ _
        go_wp2_with fail
        go_meet
        exact ⟨rfl, setRow_heap _ _ _ _ _ _ RZ.out, below_put BZ.out (Nat.le_refl _) _⟩
      go_simp
      (with_reducible refine (IX.out _ _).mono ?_)
      rintro e w' ⟨rfl, rfl⟩
      clear hHeld
      refine hK.out _ _ (K1.out.trans (BD.out.mono K1.out.size)) (fun hHeld => ?_)
      clear hK K
      try simp only [Act.put, List.setIfInBounds_toArray, List.set_cons_zero, List.set_cons_succ]
      refine wpAnyH_ready (rs := [39, 89]) (by as_aux_lemma => kernel_rfl) (by simp) ?_
      refine AllReadyH.cons (o := ⟨some 48, _, _, _, _, _⟩) rfl (fun K hK => ?_) (AllReadyH.cons (o := ⟨some 4, _, _, _, _, _⟩) rfl (fun K hK => ?_) AllReadyH.nil)
      rotate_left
      · skip
        refine step_allocW (t := 25) rfl rfl (allocX _) ?_
        intro w2 hw2
        have RZ := Lib.hid (show w2.heap[w1.heap.size]? = some (.cells (xcs zX) 25) by rw [← hw2]; exact heap_alloc_new w1.drew _)
        have BZ := Lib.hid (show Below w1.heap.size w1 w2 by rw [← hw2]; exact BD.out.alloc (Nat.le_refl _) _)
        clear hw2 hHeld
        refine hK.out _ _ (K1.out.trans (BZ.out.mono K1.out.size)) (fun hHeld => ?_)
        clear hK K
        try simp only [Act.put, List.setIfInBounds_toArray, List.set_cons_zero, List.set_cons_succ]
        refine wpAnyH_ready (rs := [39]) (by as_aux_lemma => kernel_rfl) (by simp) ?_
        refine AllReadyH.cons (o := ⟨some 48, _, _, _, _, _⟩) rfl (fun K hK => ?_) AllReadyH.nil
        go_simp
        (with_reducible refine (IX.out _ _).mono ?_)
        rintro e w' ⟨rfl, rfl⟩
        clear hHeld
        refine hK.out _ _ (K1.out.trans (BZ.out.mono K1.out.size)) (fun hHeld => ?_)
        clear hK K
        try simp only [Act.put, List.setIfInBounds_toArray, List.set_cons_zero, List.set_cons_succ]
        refine wpAnyH_ready (rs := [53]) (by as_aux_lemma => kernel_rfl) (by simp) ?_
        refine AllReadyH.cons (o := ⟨some 62, _, _, _, _, _⟩) rfl (fun K hK => ?_) AllReadyH.nil
        go_simp
        (with_reducible refine (IX.out _ _).mono ?_)
        rintro e w' ⟨rfl, rfl⟩
        clear hHeld
        refine hK.out _ _ (K1.out.trans (BZ.out.mono K1.out.size)) (fun hHeld => ?_)
        clear hK K
        try simp only [Act.put, List.setIfInBounds_toArray, List.set_cons_zero, List.set_cons_succ]
        refine wpAnyH_ready (rs := [66]) (by as_aux_lemma => kernel_rfl) (by simp) ?_
        refine AllReadyH.cons (o := ⟨some 75, _, _, _, _, _⟩) rfl (fun K hK => ?_) AllReadyH.nil
        go_simp
        (with_reducible refine (IX.out _ _).mono ?_)
        rintro e w' ⟨rfl, rfl⟩
        clear hHeld
        refine hK.out _ _ (K1.out.trans (BZ.out.mono K1.out.size)) (fun hHeld => ?_)
        clear hK K
        try simp only [Act.put, List.setIfInBounds_toArray, List.set_cons_zero, List.set_cons_succ]
        refine wpAnyH_ready (rs := [71]) (by as_aux_lemma => kernel_rfl) (by simp) ?_
        refine AllReadyH.cons (o := ⟨some 80, _, _, _, _, _⟩) rfl (fun K hK => ?_) AllReadyH.nil
        go_simp
        (with_reducible refine (IX.out _ _).mono ?_)
        rintro e w' ⟨rfl, rfl⟩
        clear hHeld
        refine hK.out _ _ (K1.out.trans (BZ.out.mono K1.out.size)) (fun hHeld => ?_)
        clear hK K
        try simp only [Act.put, List.setIfInBounds_toArray, List.set_cons_zero, List.set_cons_succ]
        refine wpAnyH_take (i := 88) (oi := ⟨some 97, _, _, _, _, _⟩) (v := .agg (xcs ⟨i20 b1, i20 b2, b3, b4, b5, b6, b7, i20 b8, i20 b9, (b10 == 1), b11, i20 b12, b13, b14, i20 b15, i20 b16, b17, b18, b19, b20⟩)) rfl (by as_aux_lemma => kernel_rfl) (by as_aux_lemma => kernel_rfl) (by as_aux_lemma => kernel_rfl) (fun _ _ _ h => h) (Or.inl ⟨by rfl, ?_⟩) (by assumption) ?_
        · intro W hSw
          first | kernel_rfl | go_simp
        try simp only [Act.put, List.setIfInBounds_toArray, List.set_cons_zero, List.set_cons_succ]
        refine wpAnyH_ready (rs := [90]) (by as_aux_lemma => kernel_rfl) (by simp) ?_
        refine AllReadyH.cons (o := ⟨none, _, _, _, _, _⟩) rfl (fun K hK => ?_) AllReadyH.nil
        refine step_storeW (t := 25) (x := .tmp 4) (y := .tmp 97) rfl rfl (.pointer (some ⟨w1.heap.size, 0, none⟩)) (.agg (xcs ⟨i20 b1, i20 b2, b3, b4, b5, b6, b7, i20 b8, i20 b9, (b10 == 1), b11, i20 b12, b13, b14, i20 b15, i20 b16, b17, b18, b19, b20⟩)) rfl rfl (storeX rfl rfl (xcs_one _) _ _ RZ.out) ?_
        clear hHeld
        refine hK.out _ _ (K1.out.trans ((below_put BZ.out (Nat.le_refl _) _).mono K1.out.size)) (fun hHeld => ?_)
        clear hK K hHeld
        try simp only [Act.put]
        refine wpAnyH_done (by as_aux_lemma => kernel_rfl) ?_ _
        go_wp2_with fail
        go_meet
        exact ⟨rfl, setRow_heap _ _ _ _ _ _ RZ.out, below_put BZ.out (Nat.le_refl _) _⟩
      go_simp
      (with_reducible refine (IX.out _ _).mono ?_)
      rintro e w' ⟨rfl, rfl⟩
      clear hHeld
      refine hK.out _ _ (K1.out.trans (BD.out.mono K1.out.size)) (fun hHeld => ?_)
      clear hK K
      try simp only [Act.put, List.setIfInBounds_toArray, List.set_cons_zero, List.set_cons_succ]
      refine wpAnyH_ready (rs := [53, 89]) (by as_aux_lemma => kernel_rfl) (by simp) ?_
      refine AllReadyH.cons (o := ⟨some 62, _, _, _, _, _⟩) rfl (fun K hK => ?_) (AllReadyH.cons (o := ⟨some 4, _, _, _, _, _⟩) rfl (fun K hK => ?_) AllReadyH.nil)
      rotate_left
      · skip
        refine step_allocW (t := 25) rfl rfl (allocX _) ?_
        intro w2 hw2
        have RZ := Lib.hid (show w2.heap[w1.heap.size]? = some (.cells (xcs zX) 25) by rw [← hw2]; exact heap_alloc_new w1.drew _)
        have BZ := Lib.hid (show Below w1.heap.size w1 w2 by rw [← hw2]; exact BD.out.alloc (Nat.le_refl _) _)
        clear hw2 hHeld
        refine hK.out _ _ (K1.out.trans (BZ.out.mono K1.out.size)) (fun hHeld => ?_)
        clear hK K
        try simp only [Act.put, List.setIfInBounds_toArray, List.set_cons_zero, List.set_cons_succ]
        refine wpAnyH_ready (rs := [53]) (by as_aux_lemma => kernel_rfl) (by simp) ?_
        refine AllReadyH.cons (o := ⟨some 62, _, _, _, _, _⟩) rfl (fun K hK => ?_) AllReadyH.nil
        go_simp
        (with_reducible refine (IX.out _ _).mono ?_)
        rintro e w' ⟨rfl, rfl⟩
        clear hHeld
        refine hK.out _ _ (K1.out.trans (BZ.out.mono K1.out.size)) (fun hHeld => ?_)
        clear hK K
        try simp only [Act.put, List.setIfInBounds_toArray, List.set_cons_zero, List.set_cons_succ]
        refine wpAnyH_ready (rs := [66]) (by as_aux_lemma => kernel_rfl) (by simp) ?_
        refine AllReadyH.cons (o := ⟨some 75, _, _, _, _, _⟩) rfl (fun K hK => ?_) AllReadyH.nil
        go_simp
        (with_reducible refine (IX.out _ _).mono ?_)
        rintro e w' ⟨rfl, rfl⟩
        clear hHeld
        refine hK.out _ _ (K1.out.trans (BZ.out.mono K1.out.size)) (fun hHeld => ?_)
        clear hK K
        try simp only [Act.put, List.setIfInBounds_toArray, List.set_cons_zero, List.set_cons_succ]
        refine wpAnyH_ready (rs := [71]) (by as_aux_lemma => kernel_rfl) (by simp) ?_
        refine AllReadyH.cons (o := ⟨some 80, _, _, _, _, _⟩) rfl (fun K hK => ?_) AllReadyH.nil
        go_simp
        (with_reducible refine (IX.out _ _).mono ?_)
        rintro e w' ⟨rfl, rfl⟩
        clear hHeld
        refine hK.out _ _ (K1.out.trans (BZ.out.mono K1.out.size)) (fun hHeld => ?_)
        clear hK K
        try simp only [Act.put, List.setIfInBounds_toArray, List.set_cons_zero, List.set_cons_succ]
        refine wpAnyH_take (i := 88) (oi := ⟨some 97, _, _, _, _, _⟩) (v := .agg (xcs ⟨i20 b1, i20 b2, b3, b4, b5, b6, b7, i20 b8, i20 b9, (b10 == 1), b11, i20 b12, b13, b14, i20 b15, i20 b16, b17, b18, b19, b20⟩)) rfl (by as_aux_lemma => kernel_rfl) (by as_aux_lemma => kernel_rfl) (by as_aux_lemma => kernel_rfl) (fun _ _ _ h => h) (Or.inl ⟨by rfl, ?_⟩) (by assumption) ?_
        · intro W hSw
          first | kernel_rfl | go_simp
        try simp only [Act.put, List.setIfInBounds_toArray, List.set_cons_zero, List.set_cons_succ]
        refine wpAnyH_ready (rs := [90]) (by as_aux_lemma => kernel_rfl) (by simp) ?_
        refine AllReadyH.cons (o := ⟨none, _, _, _, _, _⟩) rfl (fun K hK => ?_) AllReadyH.nil
        refine step_storeW (t := 25) (x := .tmp 4) (y := .tmp 97) rfl rfl (.pointer (some ⟨w1.heap.size, 0, none⟩)) (.agg (xcs ⟨i20 b1, i20 b2, b3, b4, b5, b6, b7, i20 b8, i20 b9, (b10 == 1), b11, i20 b12, b13, b14, i20 b15, i20 b16, b17, b18, b19, b20⟩)) rfl rfl (storeX rfl rfl (xcs_one _) _ _ RZ.out) ?_
        clear hHeld
        refine hK.out _ _ (K1.out.trans ((below_put BZ.out (Nat.le_refl _) _).mono K1.out.size)) (fun hHeld => ?_)
        clear hK K hHeld
        try simp only [Act.put]
        refine wpAnyH_done (by as_aux_lemma => kernel_rfl) ?_ _
        go_wp2_with fail
        go_meet
        exact ⟨rfl, setRow_heap _ _ _ _ _ _ RZ.out, below_put BZ.out (Nat.le_refl _) _⟩
      go_simp
      (with_reducible refine (IX.out _ _).mono ?_)
      rintro e w' ⟨rfl, rfl⟩
      clear hHeld
      refine hK.out _ _ (K1.out.trans (BD.out.mono K1.out.size)) (fun hHeld => ?_)
      clear hK K
      try simp only [Act.put, List.setIfInBounds_toArray, List.set_cons_zero, List.set_cons_succ]
      refine wpAnyH_ready (rs := [66, 89]) (by as_aux_lemma => kernel_rfl) (by simp) ?_
      refine AllReadyH.cons (o := ⟨some 75, _, _, _, _, _⟩) rfl (fun K hK => ?_) (AllReadyH.cons (o := ⟨some 4, _, _, _, _, _⟩) rfl (fun K hK => ?_) AllReadyH.nil)
      rotate_left
      · skip
        refine step_allocW (t := 25) rfl rfl (allocX _) ?_
        intro w2 hw2
        have RZ := Lib.hid (show w2.heap[w1.heap.size]? = some (.cells (xcs zX) 25) by rw [← hw2]; exact heap_alloc_new w1.drew _)
        have BZ := Lib.hid (show Below w1.heap.size w1 w2 by rw [← hw2]; exact BD.out.alloc (Nat.le_refl _) _)
        clear hw2 hHeld
        refine hK.out _ _ (K1.out.trans (BZ.out.mono K1.out.size)) (fun hHeld => ?_)
        clear hK K
        try simp only [Act.put, List.setIfInBounds_toArray, List.set_cons_zero, List.set_cons_succ]
        refine wpAnyH_ready (rs := [66]) (by as_aux_lemma => kernel_rfl) (by simp) ?_
        refine AllReadyH.cons (o := ⟨some 75, _, _, _, _, _⟩) rfl (fun K hK => ?_) AllReadyH.nil
        go_simp
        (with_reducible refine (IX.out _ _).mono ?_)
        rintro e w' ⟨rfl, rfl⟩
        clear hHeld
        refine hK.out _ _ (K1.out.trans (BZ.out.mono K1.out.size)) (fun hHeld => ?_)
        clear hK K
        try simp only [Act.put, List.setIfInBounds_toArray, List.set_cons_zero, List.set_cons_succ]
        refine wpAnyH_ready (rs := [71]) (by as_aux_lemma => kernel_rfl) (by simp) ?_
        refine AllReadyH.cons (o := ⟨some 80, _, _, _, _, _⟩) rfl (fun K hK => ?_) AllReadyH.nil
        go_simp
        (with_reducible refine (IX.out _ _).mono ?_)
        rintro e w' ⟨rfl, rfl⟩
        clear hHeld
        refine hK.out _ _ (K1.out.trans (BZ.out.mono K1.out.size)) (fun hHeld => ?_)
        clear hK K
        try simp only [Act.put, List.setIfInBounds_toArray, List.set_cons_zero, List.set_cons_succ]
        refine wpAnyH_take (i := 88) (oi := ⟨some 97, _, _, _, _, _⟩) (v := .agg (xcs ⟨i20 b1, i20 b2, b3, b4, b5, b6, b7, i20 b8, i20 b9, (b10 == 1), b11, i20 b12, b13, b14, i20 b15, i20 b16, b17, b18, b19, b20⟩)) rfl (by as_aux_lemma => kernel_rfl) (by as_aux_lemma => kernel_rfl) (by as_aux_lemma => kernel_rfl) (fun _ _ _ h => h) (Or.inl ⟨by rfl, ?_⟩) (by assumption) ?_
        · intro W hSw
          first | kernel_rfl | go_simp
        try simp only [Act.put, List.setIfInBounds_toArray, List.set_cons_zero, List.set_cons_succ]
        refine wpAnyH_ready (rs := [90]) (by as_aux_lemma => kernel_rfl) (by simp) ?_
        refine AllReadyH.cons (o := ⟨none, _, _, _, _, _⟩) rfl (fun K hK => ?_) AllReadyH.nil
        refine step_storeW (t := 25) (x := .tmp 4) (y := .tmp 97) rfl rfl (.pointer (some ⟨w1.heap.size, 0, none⟩)) (.agg (xcs ⟨i20 b1, i20 b2, b3, b4, b5, b6, b7, i20 b8, i20 b9, (b10 == 1), b11, i20 b12, b13, b14, i20 b15, i20 b16, b17, b18, b19, b20⟩)) rfl rfl (storeX rfl rfl (xcs_one _) _ _ RZ.out) ?_
        clear hHeld
        refine hK.out _ _ (K1.out.trans ((below_put BZ.out (Nat.le_refl _) _).mono K1.out.size)) (fun hHeld => ?_)
        clear hK K hHeld
        try simp only [Act.put]
        refine wpAnyH_done (by as_aux_lemma => kernel_rfl) ?_ _
        go_wp2_with fail
        go_meet
        exact ⟨rfl, setRow_heap _ _ _ _ _ _ RZ.out, below_put BZ.out (Nat.le_refl _) _⟩
      go_simp
      (with_reducible refine (IX.out _ _).mono ?_)
      rintro e w' ⟨rfl, rfl⟩
      clear hHeld
      refine hK.out _ _ (K1.out.trans (BD.out.mono K1.out.size)) (fun hHeld => ?_)
      clear hK K
      try simp only [Act.put, List.setIfInBounds_toArray, List.set_cons_zero, List.set_cons_succ]
      refine wpAnyH_ready (rs := [71, 89]) (by as_aux_lemma => kernel_rfl) (by simp) ?_
      refine AllReadyH.cons (o := ⟨some 80, _, _, _, _, _⟩) rfl (fun K hK => ?_) (AllReadyH.cons (o := ⟨some 4, _, _, _, _, _⟩) rfl (fun K hK => ?_) AllReadyH.nil)
      rotate_left
      · skip
        refine step_allocW (t := 25) rfl rfl (allocX _) ?_
        intro w2 hw2
        have RZ := Lib.hid (show w2.heap[w1.heap.size]? = some (.cells (xcs zX) 25) by rw [← hw2]; exact heap_alloc_new w1.drew _)
        have BZ := Lib.hid (show Below w1.heap.size w1 w2 by rw [← hw2]; exact BD.out.alloc (Nat.le_refl _) _)
        clear hw2 hHeld
        refine hK.out _ _ (K1.out.trans (BZ.out.mono K1.out.size)) (fun hHeld => ?_)
        clear hK K
        try simp only [Act.put, List.setIfInBounds_toArray, List.set_cons_zero, List.set_cons_succ]
        refine wpAnyH_ready (rs := [71]) (by as_aux_lemma => kernel_rfl) (by simp) ?_
        refine AllReadyH.cons (o := ⟨some 80, _, _, _, _, _⟩) rfl (fun K hK => ?_) AllReadyH.nil
        go_simp
        (with_reducible refine (IX.out _ _).mono ?_)
        rintro e w' ⟨rfl, rfl⟩
        clear hHeld
        refine hK.out _ _ (K1.out.trans (BZ.out.mono K1.out.size)) (fun hHeld => ?_)
        clear hK K
        try simp only [Act.put, List.setIfInBounds_toArray, List.set_cons_zero, List.set_cons_succ]
        refine wpAnyH_take (i := 88) (oi := ⟨some 97, _, _, _, _, _⟩) (v := .agg (xcs ⟨i20 b1, i20 b2, b3, b4, b5, b6, b7, i20 b8, i20 b9, (b10 == 1), b11, i20 b12, b13, b14, i20 b15, i20 b16, b17, b18, b19, b20⟩)) rfl (by as_aux_lemma => kernel_rfl) (by as_aux_lemma => kernel_rfl) (by as_aux_lemma => kernel_rfl) (fun _ _ _ h => h) (Or.inl ⟨by rfl, ?_⟩) (by assumption) ?_
        · intro W hSw
          first | kernel_rfl | go_simp
        try simp only [Act.put, List.setIfInBounds_toArray, List.set_cons_zero, List.set_cons_succ]
        refine wpAnyH_ready (rs := [90]) (by as_aux_lemma => kernel_rfl) (by simp) ?_
        refine AllReadyH.cons (o := ⟨none, _, _, _, _, _⟩) rfl (fun K hK => ?_) AllReadyH.nil
        refine step_storeW (t := 25) (x := .tmp 4) (y := .tmp 97) rfl rfl (.pointer (some ⟨w1.heap.size, 0, none⟩)) (.agg (xcs ⟨i20 b1, i20 b2, b3, b4, b5, b6, b7, i20 b8, i20 b9, (b10 == 1), b11, i20 b12, b13, b14, i20 b15, i20 b16, b17, b18, b19, b20⟩)) rfl rfl (storeX rfl rfl (xcs_one _) _ _ RZ.out) ?_
        clear hHeld
        refine hK.out _ _ (K1.out.trans ((below_put BZ.out (Nat.le_refl _) _).mono K1.out.size)) (fun hHeld => ?_)
        clear hK K hHeld
        try simp only [Act.put]
        refine wpAnyH_done (by as_aux_lemma => kernel_rfl) ?_ _
        go_wp2_with fail
        go_meet
        exact ⟨rfl, setRow_heap _ _ _ _ _ _ RZ.out, below_put BZ.out (Nat.le_refl _) _⟩
      go_simp
      (with_reducible refine (IX.out _ _).mono ?_)
      rintro e w' ⟨rfl, rfl⟩
      clear hHeld
      refine hK.out _ _ (K1.out.trans (BD.out.mono K1.out.size)) (fun hHeld => ?_)
      clear hK K
      try simp only [Act.put, List.setIfInBounds_toArray, List.set_cons_zero, List.set_cons_succ]
      refine wpAnyH_take (i := 88) (oi := ⟨some 97, _, _, _, _, _⟩) (v := .agg (xcs ⟨i20 b1, i20 b2, b3, b4, b5, b6, b7, i20 b8, i20 b9, (b10 == 1), b11, i20 b12, b13, b14, i20 b15, i20 b16, b17, b18, b19, b20⟩)) rfl (by as_aux_lemma => kernel_rfl) (by as_aux_lemma => kernel_rfl) (by as_aux_lemma => kernel_rfl) (fun _ _ _ h => h) (Or.inl ⟨by rfl, ?_⟩) (by assumption) ?_
      · intro W hSw
        first | kernel_rfl | go_simp
      try simp only [Act.put, List.setIfInBounds_toArray, List.set_cons_zero, List.set_cons_succ]
      refine wpAnyH_ready (rs := [89]) (by as_aux_lemma => kernel_rfl) (by simp) ?_
      refine AllReadyH.cons (o := ⟨some 4, _, _, _, _, _⟩) rfl (fun K hK => ?_) AllReadyH.nil
      refine step_allocW (t := 25) rfl rfl (allocX _) ?_
      intro w2 hw2
      have RZ := Lib.hid (show w2.heap[w1.heap.size]? = some (.cells (xcs zX) 25) by rw [← hw2]; exact heap_alloc_new w1.drew _)
      have BZ := Lib.hid (show Below w1.heap.size w1 w2 by rw [← hw2]; exact BD.out.alloc (Nat.le_refl _) _)
      clear hw2 hHeld
      refine hK.out _ _ (K1.out.trans (BZ.out.mono K1.out.size)) (fun hHeld => ?_)
      clear hK K
      try simp only [Act.put, List.setIfInBounds_toArray, List.set_cons_zero, List.set_cons_succ]
      refine wpAnyH_ready (rs := [90]) (by as_aux_lemma => kernel_rfl) (by simp) ?_
      refine AllReadyH.cons (o := ⟨none, _, _, _, _, _⟩) rfl (fun K hK => ?_) AllReadyH.nil
      refine step_storeW (t := 25) (x := .tmp 4) (y := .tmp 97) rfl rfl (.pointer (some ⟨w1.heap.size, 0, none⟩)) (.agg (xcs ⟨i20 b1, i20 b2, b3, b4, b5, b6, b7, i20 b8, i20 b9, (b10 == 1), b11, i20 b12, b13, b14, i20 b15, i20 b16, b17, b18, b19, b20⟩)) rfl rfl (storeX rfl rfl (xcs_one _) _ _ RZ.out) ?_
      clear hHeld
      refine hK.out _ _ (K1.out.trans ((below_put BZ.out (Nat.le_refl _) _).mono K1.out.size)) (fun hHeld => ?_)
      clear hK K hHeld
      try simp only [Act.put]
      refine wpAnyH_done (by as_aux_lemma => kernel_rfl) ?_ _
      go_wp2_with fail
      go_meet
      exact ⟨rfl, setRow_heap _ _ _ _ _ _ RZ.out, below_put BZ.out (Nat.le_refl _) _⟩
    obtain ⟨rfl, R4, B4⟩ := hcut
    have K2 := Lib.hid (K1.out.trans (B4.mono K1.out.size))
    have R2 := Lib.hid (keepX R1.out B4)
    have BX := Lib.hid R4
    have L2 := Lib.hid (loadX (show (xcs f2).size = 20 from rfl) _ _ R4)
    have BLT := Lib.hid (box_lt R1.out)
    have BL2 := Lib.hid (box_lt R4)
    clear R4 B4 HE IX
    go_wp2_with (refine wpList_loadg (t := 25) (x := .tmp 4) rfl rfl (.pointer (some ⟨w1.heap.size, 0, none⟩)) rfl L2.out ?_)
    refine (RR.out _).mono ?_
    rintro e w3 ⟨rfl, hb⟩
    have K3 := Lib.hid (K2.out.trans (hb.mono K2.out.size))
    have R3 := Lib.hid (keepX R2.out hb)
    have B3 := Lib.hid (keepX BX.out hb)
    clear hb
    cases hok : xOk f2 with
    | false =>
      have HX := Lib.hid (show tk = (zX, 12) by rw [← HT.out, hok]; simp)
      have S3 := Lib.hid (storeX (ds := xcs zX) rfl rfl (xcs_one zX) _ _ R3.out)
      have R5 := Lib.hid (setRow_heap _ w.heap.size _ (xcs zX) _ _ R3.out)
      have K5 := Lib.hid (below_put K3.out (Nat.le_refl _) (xcs zX))
      clear hok
      go_wp2_with (refine wpList_storeg (t := 25) (x := .tmp 2) (y := .tmp 108) rfl rfl (.pointer (some ⟨w.heap.size, 0, none⟩)) (.agg (xcs zX)) rfl rfl S3.out ?_)
      exact bodyPost_ret (results_cell_tmp rfl _ _ w.heap.size _ _ _ _ rfl R5.out Try.underlying25 rfl (by kernel_rfl)) rfl ⟨by rw [HX.out]; rfl, K5.out⟩
    | true =>
      have L3 := Lib.hid (loadX (show (xcs f2).size = 20 from rfl) _ _ B3.out)
      go_wp2_with (refine wpList_loadg (t := 25) (x := .tmp 4) rfl rfl (.pointer (some ⟨w1.heap.size, 0, none⟩)) rfl L3.out ?_)
      refine (RW.out _).mono ?_
      rintro e w5 ⟨a5, rfl, hs5, hb⟩
      have K5 := Lib.hid (K3.out.trans (hb.mono K3.out.size))
      have R5 := Lib.hid (keepX R3.out hb)
      have B5 := Lib.hid (keepX B3.out hb)
      have SM5 := Lib.hid (SM.out w5 _ hs5 K5.out)
      clear hb hs5
      go_wp2_with fail
      refine SM5.out.mono ?_
      rintro e w6 ⟨rfl, hb⟩
      have K6 := Lib.hid (K5.out.trans (hb.mono K5.out.size))
      have R6 := Lib.hid (keepX R5.out hb)
      have B6 := Lib.hid (keepX B5.out hb)
      clear hb
      cases heq : decide (xRow f2 = l) with
      | false =>
        have HX := Lib.hid (show tk = (zX, 12) by rw [← HT.out, if_neg (fun h => of_decide_eq_false heq h.2)])
        have S7 := Lib.hid (storeX (ds := xcs zX) rfl rfl (xcs_one zX) _ _ R6.out)
        have R7 := Lib.hid (setRow_heap _ w.heap.size _ (xcs zX) _ _ R6.out)
        have K7 := Lib.hid (below_put K6.out (Nat.le_refl _) (xcs zX))
        clear heq hok
        go_wp2_with (refine wpList_storeg (t := 25) (x := .tmp 2) (y := .tmp 108) rfl rfl (.pointer (some ⟨w.heap.size, 0, none⟩)) (.agg (xcs zX)) rfl rfl S7.out ?_)
        exact bodyPost_ret (results_cell_tmp rfl _ _ w.heap.size _ _ _ _ rfl R7.out Try.underlying25 rfl (by kernel_rfl)) rfl ⟨by rw [HX.out]; rfl, K7.out⟩
      | true =>
        have HX := Lib.hid (show tk = (f2, 0) by rw [← HT.out, if_pos ⟨hok, of_decide_eq_true heq⟩])
        have L6 := Lib.hid (loadX (show (xcs f2).size = 20 from rfl) _ _ B6.out)
        have S7 := Lib.hid (storeX (ds := xcs f2) rfl rfl (xcs_one f2) _ _ R6.out)
        have R7 := Lib.hid (setRow_heap _ w.heap.size _ (xcs f2) _ _ R6.out)
        have K7 := Lib.hid (below_put K6.out (Nat.le_refl _) (xcs f2))
        clear heq hok
        go_wp2_with (first
          | (refine wpList_loadg (t := 25) (x := .tmp 4) rfl rfl (.pointer (some ⟨w1.heap.size, 0, none⟩)) rfl L6.out ?_)
          | (refine wpList_storeg (t := 25) (x := .tmp 2) (y := .tmp 109) rfl rfl (.pointer (some ⟨w.heap.size, 0, none⟩)) (.agg (xcs f2)) rfl rfl S7.out ?_))
        exact bodyPost_ret (results_cell_tmp rfl _ _ w.heap.size _ _ _ _ rfl R7.out Try.underlying25 rfl (by kernel_rfl)) rfl ⟨by rw [HX.out]; rfl, K7.out⟩
  · rw [takeX_else (by omega)]
    have d1 : ((n : Int) == 21) = false := by simp; omega
    have d2 : (n == 21) = false := by simpa using h6
    have S1 := Lib.hid (storeX (ds := xcs zX) rfl rfl (xcs_one _) _ w.heap.size R1.out)
    have R2 := Lib.hid (setRow_heap _ w.heap.size _ (xcs zX) _ _ R1.out)
    have K2 := Lib.hid (below_put K1.out (Nat.le_refl _) (xcs zX))
    clear hn HS hsz
    go_enter Try.func22, Try.ntmps22
    go_wp2_with (refine wpList_storeg (t := 25) (x := .tmp 2) (y := .tmp 8) rfl rfl (.pointer (some ⟨w.heap.size, 0, none⟩)) (.agg (xcs zX)) rfl rfl S1.out ?_)
    exact bodyPost_ret (results_cell_tmp rfl _ _ w.heap.size _ _ _ _ rfl R2.out Try.underlying25 rfl (by kernel_rfl)) rfl ⟨rfl, K2.out⟩
end Go.Proofs.Ytahocamjihhjhaa
