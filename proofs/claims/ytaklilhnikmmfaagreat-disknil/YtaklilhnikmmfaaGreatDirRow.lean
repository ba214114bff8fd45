/-
  Rows whose elements have several cells; lists of entries and of operations in memory.
-/
import Derived.Test.YtaklilhnikmmfaaGreatRowKeep
import Derived.Test.YtaklilhnikmmfaaGreatDirMath
import Derived.Lib.AppendZerosOnto
import Derived.Laws.CopyOwn
import Derived.Laws.OwnMore
namespace Go.Proofs.YtaklilhnikmmfaaGreat
open Go.RowKit StrM DirM

/-- A slice of n elements, read cell by cell. -/
def SeesN (w : World) (v : Value) (n : Nat) (xs : List Value) : Prop :=
  ∃ a cap, v = .slice a n cap ∧ n ≤ cap ∧ (xs = [] ∨ ∃ g off, a = some ⟨g, off, none⟩ ∧ g < w.heap.size ∧ ∀ k c, xs[k]? = some c → w.cell? ⟨g, off + k, none⟩ = some c)
theorem SeesN.later {w w' : World} {v : Value} {n : Nat} {xs : List Value} (h : SeesN w v n xs) (hb : Below w.heap.size w w') : SeesN w' v n xs := by
  obtain ⟨a, cap, rfl, hn, h0 | ⟨g, off, rfl, hg, hc⟩⟩ := h
  · exact ⟨a, cap, rfl, hn, .inl h0⟩
  · exact ⟨_, cap, rfl, hn, .inr ⟨g, off, rfl, Nat.lt_of_lt_of_le hg hb.size, fun k c hk => (hb.cell (p := ⟨g, off + k, none⟩) hg).trans (hc k c hk)⟩⟩
theorem SeesN.of_own {w : World} {base n sz : Nat} {e : TypeId} {v : Value} {xs : List Value} (h : w.ownsRow base e sz v n xs) : SeesN w v n xs := by
  rcases h.2 with ⟨h', h0⟩ | ⟨g, cap, cur, h', hb, hg, hc, _⟩
  · subst h0
    exact ⟨none, 0, h', Nat.le_refl _, .inl (List.length_eq_zero_iff.1 (by simpa using h.1))⟩
  · subst h'
    refine ⟨_, cap, rfl, hc, .inr ⟨g, 0, rfl, (Array.getElem?_eq_some_iff.1 hg).1, fun k c hk => ?_⟩⟩
    have hk' : k < n * sz := by rw [← h.1]; exact (List.getElem?_eq_some_iff.1 hk).1
    rw [Nat.zero_add, h.cellAt k hk', hk]
theorem SeesN.nil (w : World) : SeesN w (.slice none 0 0) 0 [] := ⟨none, 0, rfl, Nat.le_refl _, .inl rfl⟩
theorem SeesN.form {w : World} {v : Value} {n : Nat} {xs : List Value} (h : SeesN w v n xs) : ∃ a cap, v = .slice a n cap ∧ n ≤ cap := by
  obtain ⟨a, cap, rfl, hn, _⟩ := h
  exact ⟨a, cap, rfl, hn⟩
theorem SeesN.src {w : World} {ad : Addr} {n m cap : Nat} {xs : List Value} (h : SeesN w (.slice (some ad) m cap) n xs) : ∀ j c, xs[j]? = some c → w.cell? (ad.add j) = some c := by
  obtain ⟨a, cap', e, hn, h⟩ := h
  injection e with e1 e2 e3
  intro j c hj
  rcases h with rfl | ⟨g, off, rfl, hg, hc⟩
  · simp at hj
  · have := Option.some.inj e1
    subst this
    rw [Addr.add_lit]; exact hc j c hj

/-- What is told of the type of a row's elements. -/
structure NCell (P : Program) (t e : TypeId) (z : Value) (sz bytes : Nat) : Prop where
  under : P.underlying t = some (.slice e)
  info : (P.info? e).map (fun i => (i.zero, i.size, i.bytes)) = some (some z, sz, bytes)
  cells : z.cells.size = sz
  pos : 0 < sz

theorem run_append_nilN {P : Program} {t e : TypeId} {z : Value} {sz bytes : Nat} (H : NCell P t e z sz bytes) (w : World) (ty : TypeId) {base n : Nat} {v : Value} {xs : List Value} (hown : w.ownsRow base e sz v n xs) (c : Nat) :
    (Builtin.append_ #[t, t] ty #[v, .slice none 0 c]).run P w = .ok v w := by
  obtain ⟨i0, hi, _⟩ := info_parts H.info
  rcases hown.2 with ⟨rfl, rfl⟩ | ⟨g, cap, cur, rfl, _, _, hnc, _⟩
  · simp [Builtin.append_, run_underlying H.under, sizeOf, typeInfo, hi, Builtin.lenOf, Builtin.firstCells]
  · simp [Builtin.append_, run_underlying H.under, sizeOf, typeInfo, hi, Builtin.lenOf, Builtin.firstCells, hnc, storeCells]

/-- append of all elements of a slice to a row of the call's own. -/
theorem append_runN {P : Program} {t e : TypeId} {z : Value} {sz bytes : Nat} (H : NCell P t e z sz bytes) {w : World} (ty : TypeId) {base n m : Nat} {v u : Value} {xs news : List Value} (hown : w.ownsRow base e sz v n xs)
    (hu : SeesN w u m news) (hl : news.length = m * sz) (h1 : ∀ c ∈ news, c.oneCell' = true) (hb : (n + m) * bytes ≤ 140737488355328) (hn : n + m ≤ maxLen) (hbase : base ≤ w.heap.size) :
    ∃ v' w', (Builtin.append_ #[t, t] ty #[v, u]).run P w = .ok v' w' ∧ w'.ownsRow base e sz v' (n + m) (xs ++ news) ∧ Below base w w' ∧ Stays w w' v := by
  obtain ⟨A, c, rfl, _⟩ := hu.form
  rcases A with _ | ad
  · have hm : m = 0 := by
      obtain ⟨a, cap, e, _, h0 | ⟨g, off, h0, _⟩⟩ := hu
      · subst h0
        have hp := H.pos
        rcases Nat.eq_zero_or_pos m with h | h
        · exact h
        · have : 0 < m * sz := Nat.mul_pos h hp
          simp at hl; omega
      · subst h0; injection e with e; cases e
    subst hm
    have hnil : news = [] := List.length_eq_zero_iff.1 (by simpa using hl)
    subst hnil
    exact ⟨v, w, run_append_nilN H w ty hown c, by simpa using hown, Below.refl _ _, fun _ _ hq _ => hq⟩
  · obtain ⟨i0, hi, hz0, hz1, hz2⟩ := info_parts H.info
    obtain ⟨v', w', hr, h2, h3, _⟩ := run_append_own (P := P) w base t ty e i0 z sz bytes H.under hi hz0 hz1 hz2 H.cells H.pos v n xs hown ad m c news hl hu.src h1 hn hb hbase
    refine ⟨v', w', hr, h2, (Below.refl _ _).grown h3 hbase fun k hk => (hown.lt k hk).1, fun q o hq hne => ?_⟩
    rw [h3.block q (Array.getElem?_eq_some_iff.1 hq).1 hne]
    exact hq

theorem append_n {P : Program} {t e : TypeId} {z : Value} {sz bytes : Nat} (H : NCell P t e z sz bytes) {w : World} {ops : Array Oper} {rest : List Oper} {o : Oper} {a : Act} {Q : Exit → Act → World → Prop} (hgd : o.guard = none) (s x : Operand)
    (ho : o.op = .call { callee := .builtin .append, args := #[s, x], argTypes := #[t, t] })
    (base : Nat) (v : Value) (n : Nat) (xs : List Value) (hs : a.eval s = v) (hown : w.ownsRow base e sz v n xs)
    (u : Value) (m : Nat) (news : List Value) (hx : a.eval x = u) (hu : SeesN w u m news) (hl : news.length = m * sz) (h1 : ∀ c ∈ news, c.oneCell' = true)
    (hb : (n + m) * bytes ≤ 140737488355328) (hn : n + m ≤ maxLen) (hbase : base ≤ w.heap.size)
    (h : ∀ v' w', w'.ownsRow base e sz v' (n + m) (xs ++ news) → Below base w w' → Stays w w' v → wpList P ops Q rest (a.put o.dst v') w') : wpList P ops Q (o :: rest) a w := by
  obtain ⟨v', w', hr, h2, h3, h4⟩ := append_runN H o.type hown hu hl h1 hb hn hbase
  exact Lib.wpList_append_run w hgd s x t t ho v u hs hx v' w' hr (h v' w' h2 h3 h4)
theorem step_append_n {P : Program} {t e : TypeId} {z : Value} {sz bytes : Nat} (H : NCell P t e z sz bytes) {w : World} {ops : Array Oper} {o : Oper} {a : Act} {K : Act → World → Prop} {Q : Exit → Act → World → Prop} {E : Prop} (hgd : o.guard = none) (s x : Operand)
    (ho : o.op = .call { callee := .builtin .append, args := #[s, x], argTypes := #[t, t] })
    (base : Nat) (v : Value) (n : Nat) (xs : List Value) (hs : a.eval s = v) (hown : w.ownsRow base e sz v n xs)
    (u : Value) (m : Nat) (news : List Value) (hx : a.eval x = u) (hu : SeesN w u m news) (hl : news.length = m * sz) (h1 : ∀ c ∈ news, c.oneCell' = true)
    (hb : (n + m) * bytes ≤ 140737488355328) (hn : n + m ≤ maxLen) (hbase : base ≤ w.heap.size)
    (h : ∀ v' w', w'.ownsRow base e sz v' (n + m) (xs ++ news) → Below base w w' → Stays w w' v → K (a.put o.dst v') w') :
    if Region.wanted o (yielded ops a.tmps) = true then Oper.wp P o a w K Q else E := by
  have hw : Region.wanted o (yielded ops a.tmps) = true := by simp [Region.wanted, hgd]
  rw [if_pos hw]
  obtain ⟨v', w', hr, h2, h3, h4⟩ := append_runN H o.type hown hu hl h1 hb hn hbase
  exact Lib.wp_append_run w s x t t ho v u hs hx v' w' hr (h v' w' h2 h3 h4)
/-- A slice of one element, laid in a block of its own. -/
theorem SeesN.one (w : World) (e : TypeId) (us : List Value) : SeesN (w.alloc (.cells us.toArray e)) (.slice (some ⟨w.heap.size, 0, none⟩) 1 1) 1 us := by
  refine ⟨_, 1, rfl, Nat.le_refl _, .inr ⟨w.heap.size, 0, rfl, by simp, fun k c hk => ?_⟩⟩
  rw [cell_of_row _ w.heap.size _ _ _ (0, 0) (heap_alloc_new w _)]
  simpa using hk
/-- append of one element, which the walk lays in a block of its own, to a row of the call's own. -/
theorem append_n1 {P : Program} {t e : TypeId} {z : Value} {sz bytes : Nat} (H : NCell P t e z sz bytes) {w : World} {ops : Array Oper} {rest : List Oper} {o : Oper} {a : Act} {Q : Exit → Act → World → Prop} (hgd : o.guard = none) (s x : Operand)
    (ho : o.op = .call { callee := .builtin .append, args := #[s, x], argTypes := #[t, t] })
    (base : Nat) (v : Value) (n : Nat) (xs : List Value) (hs : a.eval s = v) (hown : w.ownsRow base e sz v n xs)
    (us : List Value) (ua : Array Value) (hua : ua = us.toArray) (hx : a.eval x = .slice (some ⟨w.heap.size, 0, none⟩) 1 1) (hl : us.length = sz) (h1 : ∀ c ∈ us, c.oneCell' = true)
    (hb : (n + 1) * bytes ≤ 140737488355328) (hn : n + 1 ≤ maxLen) (hbase : base ≤ w.heap.size)
    (h : ∀ v' w', w'.ownsRow base e sz v' (n + 1) (xs ++ us) → Below base w w' → Stays w w' v → wpList P ops Q rest (a.put o.dst v') w') : wpList P ops Q (o :: rest) a (w.alloc (.cells ua e)) := by
  subst hua
  refine append_n H hgd s x ho base v n xs hs (hown.alloc _) _ 1 us hx (SeesN.one w e us) (by rw [hl, Nat.one_mul]) h1 hb hn (by simp; omega) fun v' w' h2 h3 h4 => ?_
  refine h v' w' h2 (((Below.refl _ _).alloc hbase _).trans h3) fun q o hq hne => h4 q o ?_ hne
  rw [Below.heap_alloc w _ q (Array.getElem?_eq_some_iff.1 hq).1]
  exact hq
theorem step_append_n1 {P : Program} {t e : TypeId} {z : Value} {sz bytes : Nat} (H : NCell P t e z sz bytes) {w : World} {ops : Array Oper} {o : Oper} {a : Act} {K : Act → World → Prop} {Q : Exit → Act → World → Prop} {E : Prop} (hgd : o.guard = none) (s x : Operand)
    (ho : o.op = .call { callee := .builtin .append, args := #[s, x], argTypes := #[t, t] })
    (base : Nat) (v : Value) (n : Nat) (xs : List Value) (hs : a.eval s = v) (hown : w.ownsRow base e sz v n xs)
    (us : List Value) (q : Nat) (hx : a.eval x = .slice (some ⟨q, 0, none⟩) 1 1) (hq : SeesN w (.slice (some ⟨q, 0, none⟩) 1 1) 1 us) (hl : us.length = sz) (h1 : ∀ c ∈ us, c.oneCell' = true)
    (hb : (n + 1) * bytes ≤ 140737488355328) (hn : n + 1 ≤ maxLen) (hbase : base ≤ w.heap.size)
    (h : ∀ v' w', w'.ownsRow base e sz v' (n + 1) (xs ++ us) → Below base w w' → Stays w w' v → K (a.put o.dst v') w') :
    if Region.wanted o (yielded ops a.tmps) = true then Oper.wp P o a w K Q else E :=
  step_append_n H hgd s x ho base v n xs hs hown _ 1 us hx hq (by rw [hl, Nat.one_mul]) h1 hb hn hbase h

/-! ### Entries -/
def ec (x : E) : List Value := [.string x.name, .int .i64 x.node]
def ecs (l : List E) : List Value := l.flatMap ec
theorem ecs_cons (x : E) (l : List E) : ecs (x :: l) = .string x.name :: .int .i64 x.node :: ecs l := rfl
theorem ecs_len (l : List E) : (ecs l).length = l.length * 2 := by
  induction l with
  | nil => rfl
  | cons x r ih => rw [ecs_cons, List.length_cons, List.length_cons, List.length_cons, ih]; omega
theorem ecs_add (a b : List E) : ecs (a ++ b) = ecs a ++ ecs b := by simp [ecs]
theorem ecs_one (x : E) : ecs [x] = ec x := rfl
theorem ecs_at (l : List E) : ∀ {k : Nat} (hk : k < l.length), (ecs l)[k * 2]? = some (.string l[k].name) ∧ (ecs l)[k * 2 + 1]? = some (.int .i64 l[k].node) := by
  induction l with
  | nil => intro k hk; simp at hk
  | cons x r ih =>
    intro k hk
    rw [ecs_cons]
    cases k with
    | zero => simp
    | succ k =>
      have := ih (k := k) (by simpa using hk)
      rw [show (k + 1) * 2 = k * 2 + 1 + 1 by omega]
      simpa using this
theorem ecs_take (l : List E) (k : Nat) (hk : k ≤ l.length) : (ecs l).take (k * 2) = ecs (l.take k) := by
  have h : ecs l = ecs (l.take k) ++ ecs (l.drop k) := by rw [← ecs_add, List.take_append_drop]
  have hl : (ecs (l.take k)).length = k * 2 := by rw [ecs_len, List.length_take]; omega
  rw [h, ← hl, List.take_left]
theorem ecs_drop (l : List E) (k : Nat) (hk : k ≤ l.length) : (ecs l).drop (k * 2) = ecs (l.drop k) := by
  have h : ecs l = ecs (l.take k) ++ ecs (l.drop k) := by rw [← ecs_add, List.take_append_drop]
  have hl : (ecs (l.take k)).length = k * 2 := by rw [ecs_len, List.length_take]; omega
  rw [h, ← hl, List.drop_left]
theorem ecs_ones (l : List E) : ∀ c ∈ ecs l, c.oneCell' = true := by
  intro c hc
  simp only [ecs, List.mem_flatMap, ec] at hc
  obtain ⟨x, _, hc⟩ := hc
  rcases List.mem_cons.1 hc with rfl | hc
  · rfl
  · rcases List.mem_cons.1 hc with rfl | hc
    · rfl
    · cases hc
theorem ec_ones (x : E) : ∀ c ∈ ec x, c.oneCell' = true := by rw [← ecs_one]; exact ecs_ones _

theorem nEntry : NCell Tryz.prog 29 67 (.agg #[.string ⟨#[]⟩, .int .i64 0]) 2 24 := ⟨Tryz.underlying29, by kernel_rfl, rfl, by decide⟩

def SeesE (w : World) (v : Value) (l : List E) : Prop := SeesN w v l.length (ecs l)
theorem SeesE.later {w w' : World} {v : Value} {l : List E} (h : SeesE w v l) (hb : Below w.heap.size w w') : SeesE w' v l := SeesN.later h hb
theorem SeesE.cells {w : World} {a : Option Addr} {n cap : Nat} {l : List E} (h : SeesE w (.slice a n cap) l) {k : Nat} (hk : k < l.length) :
    ∃ g off, a = some ⟨g, off, none⟩ ∧ g < w.heap.size ∧ w.cell? ⟨g, off + k * 2, none⟩ = some (.string l[k].name) ∧ w.cell? ⟨g, off + k * 2 + 1, none⟩ = some (.int .i64 l[k].node) := by
  obtain ⟨a', cap', e, _, h⟩ := h
  injection e with e1 e2 e3
  subst e1
  obtain ⟨h1, h2⟩ := ecs_at l hk
  rcases h with h0 | ⟨g, off, rfl, hg, hc⟩
  · rw [h0] at h1; simp at h1
  · exact ⟨g, off, rfl, hg, hc _ _ h1, by rw [Nat.add_assoc]; exact hc _ _ h2⟩
/-- A row of entries of the call's own. -/
abbrev OwnE (w : World) (base : Nat) (v : Value) (l : List E) : Prop := w.ownsRow base 67 2 v l.length (ecs l)
theorem SeesE.of_own {w : World} {base : Nat} {v : Value} {l : List E} (h : OwnE w base v l) : SeesE w v l := SeesN.of_own h

/-! ### Operations -/
def oc (x : O) : List Value := [.int .i64 x.kind, .string x.name, .string x.dst, .int .i64 x.node]
def ocs (l : List O) : List Value := l.flatMap oc
theorem ocs_cons (x : O) (l : List O) : ocs (x :: l) = .int .i64 x.kind :: .string x.name :: .string x.dst :: .int .i64 x.node :: ocs l := rfl
theorem ocs_len (l : List O) : (ocs l).length = l.length * 4 := by
  induction l with
  | nil => rfl
  | cons x r ih => rw [ocs_cons, List.length_cons, List.length_cons, List.length_cons, List.length_cons, List.length_cons, ih]; omega
theorem ocs_add (a b : List O) : ocs (a ++ b) = ocs a ++ ocs b := by simp [ocs]
theorem ocs_one (x : O) : ocs [x] = oc x := rfl
theorem ocs_at (l : List O) : ∀ {k : Nat} (hk : k < l.length), (ocs l)[k * 4]? = some (.int .i64 l[k].kind) ∧ (ocs l)[k * 4 + 1]? = some (.string l[k].name) ∧ (ocs l)[k * 4 + 2]? = some (.string l[k].dst) ∧ (ocs l)[k * 4 + 3]? = some (.int .i64 l[k].node) := by
  induction l with
  | nil => intro k hk; simp at hk
  | cons x r ih =>
    intro k hk
    rw [ocs_cons]
    cases k with
    | zero => simp
    | succ k =>
      have := ih (k := k) (by simpa using hk)
      rw [show (k + 1) * 4 = k * 4 + 1 + 1 + 1 + 1 by omega]
      simpa using this
theorem ocs_take (l : List O) (k : Nat) (hk : k ≤ l.length) : (ocs l).take (k * 4) = ocs (l.take k) := by
  have h : ocs l = ocs (l.take k) ++ ocs (l.drop k) := by rw [← ocs_add, List.take_append_drop]
  have hl : (ocs (l.take k)).length = k * 4 := by rw [ocs_len, List.length_take]; omega
  rw [h, ← hl, List.take_left]
theorem ocs_ones (l : List O) : ∀ c ∈ ocs l, c.oneCell' = true := by
  intro c hc
  simp only [ocs, List.mem_flatMap, oc] at hc
  obtain ⟨x, _, hc⟩ := hc
  simp at hc
  rcases hc with rfl | rfl | rfl | rfl <;> rfl
theorem oc_ones (x : O) : ∀ c ∈ oc x, c.oneCell' = true := by rw [← ocs_one]; exact ocs_ones _
theorem nOp : NCell Tryz.prog 30 65 (.agg #[.int .i64 0, .string ⟨#[]⟩, .string ⟨#[]⟩, .int .i64 0]) 4 48 := ⟨Tryz.underlying30, by kernel_rfl, rfl, by decide⟩
def SeesO (w : World) (v : Value) (l : List O) : Prop := SeesN w v l.length (ocs l)
theorem SeesO.later {w w' : World} {v : Value} {l : List O} (h : SeesO w v l) (hb : Below w.heap.size w w') : SeesO w' v l := SeesN.later h hb
theorem SeesO.cells {w : World} {a : Option Addr} {n cap : Nat} {l : List O} (h : SeesO w (.slice a n cap) l) {k : Nat} (hk : k < l.length) :
    ∃ g off, a = some ⟨g, off, none⟩ ∧ g < w.heap.size ∧ w.cell? ⟨g, off + k * 4, none⟩ = some (.int .i64 l[k].kind) ∧ w.cell? ⟨g, off + k * 4 + 1, none⟩ = some (.string l[k].name) ∧ w.cell? ⟨g, off + k * 4 + 2, none⟩ = some (.string l[k].dst) ∧ w.cell? ⟨g, off + k * 4 + 3, none⟩ = some (.int .i64 l[k].node) := by
  obtain ⟨a', cap', e, _, h⟩ := h
  injection e with e1 e2 e3
  subst e1
  obtain ⟨h1, h2, h3, h4⟩ := ocs_at l hk
  rcases h with h0 | ⟨g, off, rfl, hg, hc⟩
  · rw [h0] at h1; simp at h1
  · exact ⟨g, off, rfl, hg, hc _ _ h1, by rw [Nat.add_assoc]; exact hc _ _ h2, by rw [Nat.add_assoc]; exact hc _ _ h3, by rw [Nat.add_assoc]; exact hc _ _ h4⟩
abbrev OwnO (w : World) (base : Nat) (v : Value) (l : List O) : Prop := w.ownsRow base 65 4 v l.length (ocs l)
theorem SeesO.of_own {w : World} {base : Nat} {v : Value} {l : List O} (h : OwnO w base v l) : SeesO w v l := SeesN.of_own h
end Go.Proofs.YtaklilhnikmmfaaGreat
