/-
  Files in memory; pieces appended to a row of pieces; kept, copies and settled.
-/
import Derived.Test.YtaklilhnikmmfaaGreatFileLeaf
import Derived.Deep.Slices
import Derived.Deep.RegionHeld3
namespace Go.Proofs.YtaklilhnikmmfaaGreat
open Go.RowKit StrM BlockM FileM

def bools (bs : List Bool) : List Value := bs.map .bool
theorem bools_len (bs : List Bool) : (bools bs).length = bs.length := by simp [bools]
theorem SeesV.bool {w : World} {a : Option Addr} {n cap : Nat} {l : List Bool} (h : SeesV w (.slice a n cap) (bools l)) {k : Nat} (hk : k < l.length) :
    ∃ g off, a = some ⟨g, off, none⟩ ∧ g < w.heap.size ∧ w.cell? ⟨g, off + k, none⟩ = some (.bool l[k]) := by
  obtain ⟨a', cap', e, h⟩ := h
  injection e with e1 e2 e3
  subst e1
  rcases h with h0 | ⟨g, off, rfl, hg, hc⟩
  · have := congrArg List.length h0
    rw [bools_len, List.length_nil] at this; omega
  · refine ⟨g, off, rfl, hg, ?_⟩
    rw [hc k (by rw [bools_len]; exact hk)]; simp [bools]

/-- A file, as a value that is read. -/
def SeesF (w : World) (v : Value) (f : Fl) : Prop := ∃ N S V, v = .agg #[N, S, V] ∧ SeesV w N (bys f.now) ∧ SeesV w S (bys f.sure) ∧ SeesP w V f.pend
theorem SeesF.later {w w' : World} {v : Value} {f : Fl} (h : SeesF w v f) (hb : Below w.heap.size w w') : SeesF w' v f := by
  obtain ⟨N, S, V, e, h1, h2, h3⟩ := h
  exact ⟨N, S, V, e, h1.later hb, h2.later hb, h3.later hb⟩
theorem SeesF.slices {w : World} {v : Value} {f : Fl} (h : SeesF w v f) : ∃ A0 c0 A1 c1 A2 c2, v = .agg #[.slice A0 f.now.length c0, .slice A1 f.sure.length c1, .slice A2 f.pend.length c2] ∧
    SeesV w (.slice A0 f.now.length c0) (bys f.now) ∧ SeesV w (.slice A1 f.sure.length c1) (bys f.sure) ∧ SeesP w (.slice A2 f.pend.length c2) f.pend := by
  obtain ⟨N, S, V, e, h1, h2, h3⟩ := h
  obtain ⟨A0, c0, rfl, -⟩ := id h1
  obtain ⟨A1, c1, rfl, -⟩ := id h2
  obtain ⟨A2, c2, rfl, -⟩ := id h3
  rw [bys_len] at e h1 h2
  rw [bys_len] at e
  exact ⟨A0, c0, A1, c1, A2, c2, e, h1, h2, h3⟩
theorem SeesF.zero (w : World) : SeesF w (.agg #[.slice none 0 0, .slice none 0 0, .slice none 0 0]) zf :=
  ⟨_, _, _, rfl, ⟨none, 0, rfl, .inl rfl⟩, ⟨none, 0, rfl, .inl rfl⟩, ⟨none, 0, rfl, .inl rfl⟩⟩

/-- The block of a file, known whole. -/
def FBox (w : World) (q : Nat) (N S V : Value) : Prop := w.heap[q]? = some (.cells #[N, S, V] 70 (0, 0))
theorem FBox.made (w : World) (N S V : Value) : FBox (w.alloc (.cells #[N, S, V] 70)) w.heap.size N S V := heap_alloc_new w _
theorem FBox.lt {w : World} {q : Nat} {N S V : Value} (h : FBox w q N S V) : q < w.heap.size := (Array.getElem?_eq_some_iff.1 h).1
theorem FBox.later {w w' : World} {q : Nat} {N S V : Value} (h : FBox w q N S V) (hb : Below w.heap.size w w') : FBox w' q N S V := by
  have := hb.block q h.lt
  unfold FBox at h ⊢
  rw [this]; exact h
theorem FBox.cells {w : World} {q : Nat} {N S V : Value} (h : FBox w q N S V) : w.cell? ⟨q, 0, none⟩ = some N ∧ w.cell? ⟨q, 1, none⟩ = some S ∧ w.cell? ⟨q, 2, none⟩ = some V := by
  unfold FBox at h
  refine ⟨?_, ?_, ?_⟩ <;> (rw [cell_of_row w q _ _ _ (0, 0) h]; rfl)
theorem FBox.soft {w : World} {q : Nat} {N S V : Value} (h : FBox w q N S V) : w.frozen? ⟨q, 0, none⟩ = false ∧ w.frozen? ⟨q, 1, none⟩ = false ∧ w.frozen? ⟨q, 2, none⟩ = false := by
  unfold FBox at h
  refine ⟨?_, ?_, ?_⟩ <;> simp [World.frozen?, h]
/-- All three cells are stored. -/
def fset (w : World) (q : Nat) (N S V : Value) : World := ((w.setCell ⟨q, 0, none⟩ N).setCell ⟨q, 1, none⟩ S).setCell ⟨q, 2, none⟩ V
theorem FBox.set {w : World} {q : Nat} {N S V : Value} (h : FBox w q N S V) (N' S' V' : Value) : FBox (fset w q N' S' V') q N' S' V' := by
  have h1 := heap_setCell_same w q 0 _ _ N' h
  have h2 := heap_setCell_same _ q 1 _ _ S' h1
  exact heap_setCell_same _ q 2 _ _ V' h2
theorem fset_below {w W : World} {base q : Nat} (hb : Below base w W) (hq : base ≤ q) (N S V : Value) : Below base w (fset W q N S V) := ((hb.setCell hq _).setCell hq _).setCell hq _

theorem fset_other {w : World} {q g : Nat} (hne : g ≠ q) (N S V : Value) : (fset w q N S V).heap[g]? = w.heap[g]? := by
  have h : ∀ (W : World) (i : Nat) (u : Value), (W.setCell ⟨q, i, none⟩ u).heap[g]? = W.heap[g]? := fun W i u => by
    simp [World.setCell, Array.getElem?_modify, Ne.symm hne]
  unfold fset
  rw [h, h, h]
theorem fset_cell {w : World} {q g i : Nat} (hne : g ≠ q) (N S V : Value) : (fset w q N S V).cell? ⟨g, i, none⟩ = w.cell? ⟨g, i, none⟩ := by
  simp only [World.cell?, fset_other hne]
theorem fset_size (w : World) (q : Nat) (N S V : Value) : (fset w q N S V).heap.size = w.heap.size := by simp [fset]
/-- A cell with a number is no cell of a file's block. -/
theorem FBox.apart {w : World} {q : Nat} {A0 A1 A2 : Option Addr} {n0 n1 n2 c0 c1 c2 : Nat} (h : FBox w q (.slice A0 n0 c0) (.slice A1 n1 c1) (.slice A2 n2 c2)) {g i : Nat} {k : IntKind} {n : Int} (hc : w.cell? ⟨g, i, none⟩ = some (.int k n)) : g ≠ q := by
  intro e
  subst e
  unfold FBox at h
  rw [cell_of_row w g _ _ _ (0, 0) h] at hc
  match i, hc with
  | 0, hc => simp at hc
  | 1, hc => simp at hc
  | 2, hc => simp at hc
  | i + 3, hc => simp at hc
theorem SeesV.fset {w : World} {q : Nat} {A0 A1 A2 : Option Addr} {n0 n1 n2 c0 c1 c2 : Nat} {v : Value} {l : List UInt8} (h : SeesV w v (bys l)) (hq : FBox w q (.slice A0 n0 c0) (.slice A1 n1 c1) (.slice A2 n2 c2)) (N S V : Value) : SeesV (fset w q N S V) v (bys l) := by
  obtain ⟨a, cap, rfl, h0 | ⟨g, off, rfl, hg, hc⟩⟩ := h
  · exact ⟨a, cap, rfl, .inl h0⟩
  · by_cases hl : l = []
    · exact ⟨_, cap, rfl, .inl (by subst hl; rfl)⟩
    · have hpos : 0 < (bys l).length := by rw [bys_len]; exact List.length_pos_iff.2 hl
      have h1 := hc 0 hpos
      have hne : g ≠ q := hq.apart (i := off + 0) (k := .u8) (n := (l[0]'(by rw [bys_len] at hpos; exact hpos)).toNat) (by rw [h1]; simp [bys])
      exact ⟨_, cap, rfl, .inr ⟨g, off, rfl, by rw [fset_size]; exact hg, fun k hk => by rw [fset_cell hne]; exact hc k hk⟩⟩
theorem SeesP.fset {w : World} {q : Nat} {A0 A1 A2 : Option Addr} {n0 n1 n2 c0 c1 c2 : Nat} {v : Value} {l : List P} (h : SeesP w v l) (hq : FBox w q (.slice A0 n0 c0) (.slice A1 n1 c1) (.slice A2 n2 c2)) (N S V : Value) : SeesP (fset w q N S V) v l := by
  obtain ⟨a, cap, rfl, h0 | ⟨g, off, rfl, hg, hc⟩⟩ := h
  · exact ⟨a, cap, rfl, .inl h0⟩
  · by_cases hl : l = []
    · exact ⟨_, cap, rfl, .inl hl⟩
    · have hne : g ≠ q := hq.apart (hc 0 (List.length_pos_iff.2 hl)).1
      refine ⟨_, cap, rfl, .inr ⟨g, off, rfl, by rw [fset_size]; exact hg, fun k hk => ?_⟩⟩
      obtain ⟨h1, B, h2, h3⟩ := hc k hk
      exact ⟨by rw [fset_cell hne]; exact h1, B, by rw [fset_cell hne]; exact h2, h3.fset hq N S V⟩
theorem SeesF.fset {w : World} {q : Nat} {A0 A1 A2 : Option Addr} {n0 n1 n2 c0 c1 c2 : Nat} {v : Value} {f : Fl} (h : SeesF w v f) (hq : FBox w q (.slice A0 n0 c0) (.slice A1 n1 c1) (.slice A2 n2 c2)) (N S V : Value) : SeesF (fset w q N S V) v f := by
  obtain ⟨N', S', V', e, h1, h2, h3⟩ := h
  exact ⟨N', S', V', e, h1.fset hq N S V, h2.fset hq N S V, h3.fset hq N S V⟩

/-! ### A slice of pieces, cell by cell -/
def Src (w : World) (u : Value) (lb : List PB) : Prop :=
  (∃ A cap, u = .slice A lb.length cap ∧ (lb = [] ∨ ∃ ad, A = some ad ∧ ∀ j c, (pcs lb)[j]? = some c → w.cell? (ad.add j) = some c)) ∧ ∀ x ∈ lb, SeesV w x.2 (bys x.1.b)
theorem sees_one {w : World} {v : Value} {xs : List Value} (h : SeesV w v xs) : v.oneCell' = true := by
  obtain ⟨a, cap, rfl, -⟩ := h; rfl
theorem pcs_ones {w : World} {l : List PB} (h : ∀ x ∈ l, SeesV w x.2 (bys x.1.b)) : ∀ c ∈ pcs l, c.oneCell' = true := by
  intro c hc
  simp only [pcs, List.mem_flatMap, pc2] at hc
  obtain ⟨x, hx, hc⟩ := hc
  rcases List.mem_cons.1 hc with rfl | hc
  · rfl
  · rcases List.mem_cons.1 hc with rfl | hc
    · exact sees_one (h x hx)
    · cases hc

theorem SeesP.src {w : World} {v : Value} {l : List P} (h : SeesP w v l) : ∃ lb : List PB, lb.map Prod.fst = l ∧ Src w v lb := by
  obtain ⟨a, cap, rfl, rfl | ⟨g, off, rfl, hg, hc⟩⟩ := h
  · exact ⟨[], rfl, ⟨a, cap, rfl, .inl rfl⟩, fun x hx => by cases hx⟩
  · have hB : ∀ k, k < l.length → ∃ B : Value, ∃ hk : k < l.length, w.cell? ⟨g, off + k * 2, none⟩ = some (.int .i64 l[k].p) ∧ w.cell? ⟨g, off + k * 2 + 1, none⟩ = some B ∧ SeesV w B (bys l[k].b) := by
      intro k hk
      obtain ⟨h1, B, h2, h3⟩ := hc k hk
      exact ⟨B, hk, h1, h2, h3⟩
    obtain ⟨f, hf⟩ := Go.Deep.choose_lt hB
    have hlen : (l.zipIdx.map fun x => ((x.1, f x.2) : PB)).length = l.length := by simp
    have hat : ∀ k (hk : k < l.length), (l.zipIdx.map fun x => ((x.1, f x.2) : PB))[k]'(by rw [hlen]; exact hk) = (l[k], f k) := by
      intro k hk; simp
    refine ⟨l.zipIdx.map fun x => (x.1, f x.2), ?_, ⟨some ⟨g, off, none⟩, cap, by rw [hlen], .inr ⟨_, rfl, fun j c hj => ?_⟩⟩, fun x hx => ?_⟩
    · apply List.ext_getElem (by simp)
      intro k h1 h2
      simp
    · have hjl : j < (pcs (l.zipIdx.map fun x => ((x.1, f x.2) : PB))).length := (List.getElem?_eq_some_iff.1 hj).1
      rw [pcs_len, hlen] at hjl
      have hk : j / 2 < l.length := by omega
      have hp := pcs_at (l.zipIdx.map fun x => ((x.1, f x.2) : PB)) (k := j / 2) (by rw [hlen]; exact hk)
      rw [hat _ hk] at hp
      obtain ⟨_, f1, f2, _⟩ := hf _ hk
      rcases Nat.mod_two_eq_zero_or_one j with hj2 | hj2
      · have e : j = j / 2 * 2 := by omega
        rw [e, hp.1] at hj
        rw [← Option.some.inj hj]
        by_cases j0 : j = 0
        · subst j0; simpa [Addr.add] using f1
        · rw [← e] at f1; simpa [Addr.add, j0] using f1
      · have e : j = j / 2 * 2 + 1 := by omega
        rw [e, hp.2] at hj
        rw [← Option.some.inj hj]
        rw [Nat.add_assoc, ← e] at f2
        simpa [Addr.add, show ¬ j = 0 by omega] using f2
    · obtain ⟨k, hk, rfl⟩ := List.mem_iff_getElem.1 hx
      rw [hlen] at hk
      rw [hat _ hk]
      obtain ⟨_, _, _, f3⟩ := hf _ hk
      exact f3

theorem run_append_nil2 (w : World) (ty : TypeId) {base n : Nat} {v : Value} {xs : List Value} (hown : w.ownsRow base 113 2 v n xs) (c : Nat) :
    (Builtin.append_ #[68, 68] ty #[v, .slice none 0 c]).run Tryz.prog w = .ok v w := by
  obtain ⟨i0, hi, _⟩ := info_parts pieceInfo
  rcases hown.2 with ⟨rfl, rfl⟩ | ⟨g, cap, cur, rfl, _, _, hnc, _⟩
  · simp [Builtin.append_, run_underlying Tryz.underlying68, sizeOf, typeInfo, hi, Builtin.lenOf, Builtin.firstCells]
  · simp [Builtin.append_, run_underlying Tryz.underlying68, sizeOf, typeInfo, hi, Builtin.lenOf, Builtin.firstCells, hnc, storeCells]

/-- append of all pieces of a slice to a row of pieces of the call's own. -/
theorem append_pieces {w : World} {ops : Array Oper} {rest : List Oper} {o : Oper} {a : Act} {Q : Exit → Act → World → Prop} (hgd : o.guard = none) (s x : Operand)
    (ho : o.op = .call { callee := .builtin .append, args := #[s, x], argTypes := #[68, 68] })
    (base : Nat) (v : Value) (n : Nat) (la : List PB) (hs : a.eval s = v) (hown : w.ownsRow base 113 2 v n (pcs la))
    (u : Value) (lb : List PB) (hx : a.eval x = u) (hu : Src w u lb) (hn : n + lb.length ≤ 1000000) (hbase : base ≤ w.heap.size)
    (h : ∀ v' w', w'.ownsRow base 113 2 v' (n + lb.length) (pcs (la ++ lb)) → Below base w w' → Stays w w' v → wpList Tryz.prog ops Q rest (a.put o.dst v') w') : wpList Tryz.prog ops Q (o :: rest) a w := by
  obtain ⟨⟨A, c, rfl, hsee⟩, hB⟩ := hu
  rcases A with _ | ad
  · have hnil : lb = [] := by
      rcases hsee with h0 | ⟨ad, h0, _⟩
      · exact h0
      · cases h0
    subst hnil
    refine wpList_plain hgd fun K hK => ?_
    have hr := run_append_nil2 w o.type hown c
    have hfin := hK _ _ (h v w (by simpa using hown) (Below.refl _ _) (fun _ _ hq _ => hq))
    unfold Oper.wp execOp
    simp only [ho, resolve, invoke, builtin, Sem.run_bind, Sem.run_pure, Result.andThen_ok, List.map_toArray, List.map_cons, List.map_nil, hs, hx, List.length_nil, hr]
    exact hfin
  · obtain ⟨i0, hi, hz0, hz1, hz2⟩ := info_parts pieceInfo
    refine wpList_append_own w hgd s x 68 ho base 113 i0 _ 2 32 Tryz.underlying68 hi hz0 hz1 hz2 rfl (by decide) v n (pcs la) hs hown ad lb.length c (pcs lb) hx (pcs_len lb) (fun j u hj => ?_) (pcs_ones hB) (by unfold maxLen; omega) (by omega) hbase ?_
    · rcases hsee with h0 | ⟨ad', h0, hc⟩
      · subst h0; simp [pcs] at hj
      · have e1 := Option.some.inj h0
        subst e1
        exact hc j u hj
    · intro v' w' h2 h3 _
      refine h v' w' (by rw [pcs_add]; exact h2) ((Below.refl _ _).grown h3 hbase fun k hk => (hown.lt k hk).1) fun q o hq hne => ?_
      rw [h3.block q (Array.getElem?_eq_some_iff.1 hq).1 hne]
      exact hq

theorem step_append_pieces {w : World} {ops : Array Oper} {o : Oper} {a : Act} {K : Act → World → Prop} {Q : Exit → Act → World → Prop} {E : Prop} (hgd : o.guard = none) (s x : Operand)
    (ho : o.op = .call { callee := .builtin .append, args := #[s, x], argTypes := #[68, 68] })
    (base : Nat) (v : Value) (n : Nat) (la : List PB) (hs : a.eval s = v) (hown : w.ownsRow base 113 2 v n (pcs la))
    (u : Value) (lb : List PB) (hx : a.eval x = u) (hu : Src w u lb) (hn : n + lb.length ≤ 1000000) (hbase : base ≤ w.heap.size)
    (h : ∀ v' w', w'.ownsRow base 113 2 v' (n + lb.length) (pcs (la ++ lb)) → Below base w w' → Stays w w' v → K (a.put o.dst v') w') :
    if Region.wanted o (yielded ops a.tmps) = true then Oper.wp Tryz.prog o a w K Q else E := by
  have hw : Region.wanted o (yielded ops a.tmps) = true := by simp [Region.wanted, hgd]
  rw [if_pos hw]
  obtain ⟨⟨A, c, rfl, hsee⟩, hB⟩ := hu
  rcases A with _ | ad
  · have hnil : lb = [] := by
      rcases hsee with h0 | ⟨ad, h0, _⟩
      · exact h0
      · cases h0
    subst hnil
    have hr := run_append_nil2 w o.type hown c
    have hfin := h v w (by simpa using hown) (Below.refl _ _) (fun _ _ hq _ => hq)
    unfold Oper.wp execOp
    simp only [ho, resolve, invoke, builtin, Sem.run_bind, Sem.run_pure, Result.andThen_ok, List.map_toArray, List.map_cons, List.map_nil, hs, hx, List.length_nil, hr]
    exact hfin
  · obtain ⟨i0, hi, hz0, hz1, hz2⟩ := info_parts pieceInfo
    refine wp_append_own w s x 68 ho base 113 i0 _ 2 32 Tryz.underlying68 hi hz0 hz1 hz2 rfl (by decide) v n (pcs la) hs hown ad lb.length c (pcs lb) hx (pcs_len lb) (fun j u hj => ?_) (pcs_ones hB) (by unfold maxLen; omega) (by omega) hbase ?_
    · rcases hsee with h0 | ⟨ad', h0, hc⟩
      · subst h0; simp [pcs] at hj
      · have e1 := Option.some.inj h0
        subst e1
        exact hc j u hj
    · intro v' w' h2 h3 _
      refine h v' w' (by rw [pcs_add]; exact h2) ((Below.refl _ _).grown h3 hbase fun k hk => (hown.lt k hk).1) fun q o hq hne => ?_
      rw [h3.block q (Array.getElem?_eq_some_iff.1 hq).1 hne]
      exact hq

/-- What a function that hands back pieces returns. -/
def PPost (l : List P) (w : World) (e : Ending) (w' : World) : Prop := ∃ v, e = .returned v ∧ SeesP w' v l ∧ Below w.heap.size w w'

/-- A row of pieces whose bytes were there before. -/
def KRel (w : World) (v : Value) (l : List PB) (wr : World) : Prop :=
  wr.ownsRow w.heap.size 113 2 v l.length (pcs l) ∧ (∀ x ∈ l, SeesV w x.2 (bys x.1.b)) ∧ Below w.heap.size w wr
theorem KRel.sees {w wr : World} {v : Value} {l : List PB} (h : KRel w v l wr) : SeesP wr v (l.map Prod.fst) :=
  sees_pcs h.1 rfl fun x hx => (h.2.1 x hx).later h.2.2
theorem KRel.nil (w : World) : KRel w (.slice none 0 0) [] w := ⟨World.ownsRow_nil _ _ _ _, (fun _ h => nomatch h), Below.refl _ _⟩
theorem KRel.empty (w : World) : KRel w (.slice (some ⟨w.heap.size, 0, none⟩) 0 0) [] (w.alloc (.cells #[] 113)) :=
  ⟨World.ownsRow_made w #[] 0 (Nat.le_refl _) (by decide) rfl, (fun _ h => nomatch h), below_made w _⟩
end Go.Proofs.YtaklilhnikmmfaaGreat
