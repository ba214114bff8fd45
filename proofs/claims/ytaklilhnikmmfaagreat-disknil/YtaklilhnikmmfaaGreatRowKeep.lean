/-
  What else stays where a row of the call's own grows.
-/
import Derived.Test.YtaklilhnikmmfaaGreatRowAll
namespace Go.Proofs.YtaklilhnikmmfaaGreat
open Go.RowKit StrM

/-- Whatever block is not the row's own stays as it is. -/
def Stays (w w' : World) (v : Value) : Prop := ∀ q o, w.heap[q]? = some o → some q ≠ v.ownBlock → w'.heap[q]? = some o

theorem append_one_k {P : Program} {t e : TypeId} {z : Value} {bytes : Nat} (H : OneCell P t e z bytes) {w : World} {ops : Array Oper} {rest : List Oper} {o : Oper} {a : Act} {Q : Exit → Act → World → Prop} (hgd : o.guard = none) (s x : Operand)
    (ho : o.op = .call { callee := .builtin .append, args := #[s, x], argTypes := #[t, t] })
    (base : Nat) (v : Value) (n : Nat) (xs : List Value) (hs : a.eval s = v) (hown : w.ownsRow base e 1 v n xs)
    (u : Value) (hu : u.oneCell' = true) (hx : a.eval x = .slice (some ⟨w.heap.size, 0, none⟩) 1 1)
    (hbound : (n + 1) * bytes ≤ 140737488355328) (hn : n + 1 ≤ maxLen) (hbase : base ≤ w.heap.size)
    (h : ∀ v' w', w'.ownsRow base e 1 v' (n + 1) (xs ++ [u]) → Below base w w' → Stays w w' v → wpList P ops Q rest (a.put o.dst v') w') : wpList P ops Q (o :: rest) a (w.alloc (.cells #[u] e)) := by
  obtain ⟨i0, hi, hz0, hz1, hz2⟩ := info_parts H.info
  refine wpList_append_own (w.alloc (.cells #[u] e)) hgd s x t ho base e i0 z 1 bytes H.under hi hz0 hz1 hz2 H.cells (by decide) v n xs hs (hown.alloc _) ⟨w.heap.size, 0, none⟩ 1 1 [u] hx rfl (fun j c hj => ?_) (fun c hc => ?_) hn hbound (by simp; omega) ?_
  · match j, hj with
    | 0, hj => simp at hj; subst hj; simp [Addr.add]
  · have : c = u := by simpa using hc
    subst this; exact hu
  · intro v' w' h1 h2 _
    refine h v' w' h1 (((Below.refl _ _).alloc hbase _).grown h2 (by simp; omega) fun k hk => (hown.lt k hk).1) fun q o hq hne => ?_
    have hlt : q < w.heap.size := (Array.getElem?_eq_some_iff.1 hq).1
    rw [h2.block q (by simp; omega) hne, Below.heap_alloc w _ q hlt]
    exact hq

theorem append_all_k {P : Program} {t e : TypeId} {z : Value} {bytes : Nat} (H : OneCell P t e z bytes) {w : World} {ops : Array Oper} {rest : List Oper} {o : Oper} {a : Act} {Q : Exit → Act → World → Prop} (hgd : o.guard = none) (s x : Operand)
    (ho : o.op = .call { callee := .builtin .append, args := #[s, x], argTypes := #[t, t] })
    (base : Nat) (v : Value) (n : Nat) (xs : List Value) (hs : a.eval s = v) (hown : w.ownsRow base e 1 v n xs)
    (u : Value) (news : List Value) (hx : a.eval x = u) (hu : SeesV w u news) (h1 : ∀ c ∈ news, c.oneCell' = true)
    (hbound : (n + news.length) * bytes ≤ 140737488355328) (hn : n + news.length ≤ maxLen) (hbase : base ≤ w.heap.size)
    (h : ∀ v' w', w'.ownsRow base e 1 v' (n + news.length) (xs ++ news) → Below base w w' → Stays w w' v → wpList P ops Q rest (a.put o.dst v') w') : wpList P ops Q (o :: rest) a w := by
  obtain ⟨A, c, rfl, hsee⟩ := hu
  rcases A with _ | ad
  · have hnil : news = [] := by
      rcases hsee with h0 | ⟨g, off, h0, _⟩
      · exact h0
      · cases h0
    subst hnil
    refine wpList_plain hgd fun K hK => ?_
    have hr := run_append_nil H w o.type hown c
    have hfin := hK _ _ (h v w (by simpa using hown) (Below.refl _ _) (fun _ _ hq _ => hq))
    unfold Oper.wp execOp
    simp only [ho, resolve, invoke, builtin, Sem.run_bind, Sem.run_pure, Result.andThen_ok, List.map_toArray, List.map_cons, List.map_nil, hs, hx, List.length_nil, hr]
    exact hfin
  · obtain ⟨i0, hi, hz0, hz1, hz2⟩ := info_parts H.info
    refine wpList_append_own w hgd s x t ho base e i0 z 1 bytes H.under hi hz0 hz1 hz2 H.cells (by decide) v n xs hs hown ad news.length c news hx (by simp) (fun j u hj => ?_) h1 hn hbound hbase ?_
    · rcases hsee with h0 | ⟨g, off, h0, _, hc⟩
      · subst h0; simp at hj
      · have e1 := Option.some.inj h0
        subst e1
        have hjl : j < news.length := (List.getElem?_eq_some_iff.1 hj).1
        have := hc j hjl
        rw [List.getElem?_eq_getElem hjl] at hj
        rw [Option.some.inj hj] at this
        by_cases j0 : j = 0
        · subst j0; simpa [Addr.add] using this
        · simpa [Addr.add, j0] using this
    · intro v' w' h2 h3 _
      refine h v' w' h2 ((Below.refl _ _).grown h3 hbase fun k hk => (hown.lt k hk).1) fun q o hq hne => ?_
      rw [h3.block q (Array.getElem?_eq_some_iff.1 hq).1 hne]
      exact hq

theorem step_append_all_k {P : Program} {t e : TypeId} {z : Value} {bytes : Nat} (H : OneCell P t e z bytes) {w : World} {ops : Array Oper} {o : Oper} {a : Act} {K : Act → World → Prop} {Q : Exit → Act → World → Prop} {E : Prop} (hgd : o.guard = none) (s x : Operand)
    (ho : o.op = .call { callee := .builtin .append, args := #[s, x], argTypes := #[t, t] })
    (base : Nat) (v : Value) (n : Nat) (xs : List Value) (hs : a.eval s = v) (hown : w.ownsRow base e 1 v n xs)
    (u : Value) (news : List Value) (hx : a.eval x = u) (hu : SeesV w u news) (h1 : ∀ c ∈ news, c.oneCell' = true)
    (hbound : (n + news.length) * bytes ≤ 140737488355328) (hn : n + news.length ≤ maxLen) (hbase : base ≤ w.heap.size)
    (h : ∀ v' w', w'.ownsRow base e 1 v' (n + news.length) (xs ++ news) → Below base w w' → Stays w w' v → K (a.put o.dst v') w') :
    if Region.wanted o (yielded ops a.tmps) = true then Oper.wp P o a w K Q else E := by
  have hw : Region.wanted o (yielded ops a.tmps) = true := by simp [Region.wanted, hgd]
  rw [if_pos hw]
  obtain ⟨A, c, rfl, hsee⟩ := hu
  rcases A with _ | ad
  · have hnil : news = [] := by
      rcases hsee with h0 | ⟨g, off, h0, _⟩
      · exact h0
      · cases h0
    subst hnil
    have hr := run_append_nil H w o.type hown c
    have hfin := h v w (by simpa using hown) (Below.refl _ _) (fun _ _ hq _ => hq)
    unfold Oper.wp execOp
    simp only [ho, resolve, invoke, builtin, Sem.run_bind, Sem.run_pure, Result.andThen_ok, List.map_toArray, List.map_cons, List.map_nil, hs, hx, List.length_nil, hr]
    exact hfin
  · obtain ⟨i0, hi, hz0, hz1, hz2⟩ := info_parts H.info
    refine wp_append_own w s x t ho base e i0 z 1 bytes H.under hi hz0 hz1 hz2 H.cells (by decide) v n xs hs hown ad news.length c news hx (by simp) (fun j u hj => ?_) h1 hn hbound hbase ?_
    · rcases hsee with h0 | ⟨g, off, h0, _, hc⟩
      · subst h0; simp at hj
      · have e1 := Option.some.inj h0
        subst e1
        have hjl : j < news.length := (List.getElem?_eq_some_iff.1 hj).1
        have := hc j hjl
        rw [List.getElem?_eq_getElem hjl] at hj
        rw [Option.some.inj hj] at this
        by_cases j0 : j = 0
        · subst j0; simpa [Addr.add] using this
        · simpa [Addr.add, j0] using this
    · intro v' w' h2 h3 _
      refine h v' w' h2 ((Below.refl _ _).grown h3 hbase fun k hk => (hown.lt k hk).1) fun q o hq hne => ?_
      rw [h3.block q (Array.getElem?_eq_some_iff.1 hq).1 hne]
      exact hq

/-- A row that was made later stays where another one grows. -/
theorem own_stays {w w' : World} {v u : Value} {base' n' : Nat} {ys : List Value} {e' : TypeId} (hu : w.ownsRow base' e' 1 u n' ys) (hs : Stays w w' v) (hlt : ∀ q, v.ownBlock = some q → q < base') : w'.ownsRow base' e' 1 u n' ys := by
  refine ⟨hu.1, ?_⟩
  rcases hu.2 with h | ⟨g, cap, cur, h1, h2, h3, h4⟩
  · exact .inl h
  · refine .inr ⟨g, cap, cur, h1, h2, ?_, h4⟩
    exact hs g _ h3 fun e => by have := hlt g e.symm; omega

theorem step_append_one_k {P : Program} {t e : TypeId} {z : Value} {bytes : Nat} (H : OneCell P t e z bytes) {w : World} {ops : Array Oper} {o : Oper} {a : Act} {K : Act → World → Prop} {Q : Exit → Act → World → Prop} {E : Prop} (hgd : o.guard = none) (s x : Operand)
    (ho : o.op = .call { callee := .builtin .append, args := #[s, x], argTypes := #[t, t] })
    (base : Nat) (v : Value) (n : Nat) (xs : List Value) (hs : a.eval s = v) (hown : w.ownsRow base e 1 v n xs)
    (u : Value) (hu : u.oneCell' = true) (hx : a.eval x = .slice (some ⟨w.heap.size, 0, none⟩) 1 1)
    (hbound : (n + 1) * bytes ≤ 140737488355328) (hn : n + 1 ≤ maxLen) (hbase : base ≤ w.heap.size)
    (h : ∀ v' w', w'.ownsRow base e 1 v' (n + 1) (xs ++ [u]) → Below base w w' → Stays w w' v → K (a.put o.dst v') w') :
    if Region.wanted o (yielded ops a.tmps) = true then Oper.wp P o a (w.alloc (.cells #[u] e)) K Q else E := by
  obtain ⟨i0, hi, hz0, hz1, hz2⟩ := info_parts H.info
  have hw : Region.wanted o (yielded ops a.tmps) = true := by simp [Region.wanted, hgd]
  rw [if_pos hw]
  refine wp_append_own (w.alloc (.cells #[u] e)) s x t ho base e i0 z 1 bytes H.under hi hz0 hz1 hz2 H.cells (by decide) v n xs hs (hown.alloc _) ⟨w.heap.size, 0, none⟩ 1 1 [u] hx rfl (fun j c hj => ?_) (fun c hc => ?_) hn hbound (by simp; omega) ?_
  · match j, hj with
    | 0, hj => simp at hj; subst hj; simp [Addr.add]
  · have : c = u := by simpa using hc
    subst this; exact hu
  · intro v' w' h1 h2 _
    refine h v' w' h1 (((Below.refl _ _).alloc hbase _).grown h2 (by simp; omega) fun k hk => (hown.lt k hk).1) fun q o hq hne => ?_
    have hlt : q < w.heap.size := (Array.getElem?_eq_some_iff.1 hq).1
    rw [h2.block q (by simp; omega) hne, Below.heap_alloc w _ q hlt]
    exact hq

/-- A row of another block stays. -/
theorem own_keep {w w' : World} {base sz n : Nat} {e : TypeId} {u v : Value} {xs : List Value} (h : w.ownsRow base e sz u n xs) (hst : Stays w w' v) (hne : u.ownBlock = none ∨ u.ownBlock ≠ v.ownBlock) : w'.ownsRow base e sz u n xs := by
  refine ⟨h.1, ?_⟩
  rcases h.2 with h | ⟨g, cap, cur, rfl, h2, h3, h4⟩
  · exact .inl h
  · refine .inr ⟨g, cap, cur, rfl, h2, hst g _ h3 ?_, h4⟩
    rcases hne with h | h
    · cases h
    · exact h

/-- Rows of two kinds of elements lie in two blocks. -/
theorem own_diff {w : World} {b b' s s' n m : Nat} {e e' : TypeId} {v u : Value} {xs ys : List Value} (he : e ≠ e') (h : w.ownsRow b e s v n xs) (h' : w.ownsRow b' e' s' u m ys) : u.ownBlock = none ∨ u.ownBlock ≠ v.ownBlock := by
  rcases h'.2 with ⟨rfl, _⟩ | ⟨g', cap', cur', rfl, _, h3', _⟩
  · exact .inl rfl
  · right
    rcases h.2 with ⟨rfl, _⟩ | ⟨g, cap, cur, rfl, _, h3, _⟩
    · intro x; cases x
    · intro x
      have x : g' = g := by simpa [Value.ownBlock] using x
      subst x
      rw [h3] at h3'
      injection h3' with h3'
      injection h3' with _ h3' _
      exact he h3'
theorem own_belowN {w w' : World} {base : Nat} {e : TypeId} {sz n : Nat} {v : Value} {xs : List Value} (h : w.ownsRow base e sz v n xs) (hb : Below w.heap.size w w') : w'.ownsRow base e sz v n xs :=
  h.kept (row := none) ⟨hb.os, hb.tape, hb.output, hb.size, fun k hk _ => hb.block k hk⟩ (by cases v.ownBlock <;> simp)
theorem own_baseN {w : World} {base base' sz n : Nat} {e : TypeId} {v : Value} {xs : List Value} (h : w.ownsRow base' e sz v n xs) (hb : base ≤ base') : w.ownsRow base e sz v n xs := by
  refine ⟨h.1, ?_⟩
  rcases h.2 with h | ⟨g, cap, cur, h1, h2, h3⟩
  · exact .inl h
  · exact .inr ⟨g, cap, cur, h1, Nat.le_trans hb h2, h3⟩
theorem own_one {w : World} {base sz n : Nat} {e : TypeId} {v : Value} {xs : List Value} (h : w.ownsRow base e sz v n xs) : v.oneCell' = true := by
  rcases h.2 with ⟨rfl, _⟩ | ⟨g, cap, cur, rfl, _⟩ <;> rfl
end Go.Proofs.YtaklilhnikmmfaaGreat
