/-
  Rows of pieces that a call makes, and bytes.Clone.
-/
import Derived.Test.YtaklilhnikmmfaaGreatBlockLeaf
import Derived.Test.YtaklilhnikmmfaaGreatRowKeep
import Derived.WalkLawsBesides
namespace Go.Proofs.YtaklilhnikmmfaaGreat
open Go.RowKit StrM BlockM

/-- Pieces with the slices that hold their bytes. -/
abbrev PB := P × Value
def pc2 (x : PB) : List Value := [.int .i64 x.1.p, x.2]
def pcs (l : List PB) : List Value := l.flatMap pc2
theorem pcs_len (l : List PB) : (pcs l).length = l.length * 2 := by
  induction l with
  | nil => rfl
  | cons x r ih =>
    have e : pcs (x :: r) = .int .i64 x.1.p :: x.2 :: pcs r := rfl
    rw [e, List.length_cons, List.length_cons, List.length_cons, ih]; omega
theorem pcs_add (a b : List PB) : pcs (a ++ b) = pcs a ++ pcs b := by simp [pcs]
theorem pcs_at (l : List PB) : ∀ {k : Nat} (hk : k < l.length), (pcs l)[k * 2]? = some (.int .i64 l[k].1.p) ∧ (pcs l)[k * 2 + 1]? = some l[k].2 := by
  induction l with
  | nil => intro k hk; simp at hk
  | cons x r ih =>
    intro k hk
    have e : pcs (x :: r) = .int .i64 x.1.p :: x.2 :: pcs r := rfl
    rw [e]
    cases k with
    | zero => simp
    | succ k =>
      have := ih (k := k) (by simpa using hk)
      rw [show (k + 1) * 2 = k * 2 + 1 + 1 by omega]
      simpa using this

theorem pieceInfo : (Tryz.prog.info? 113).map (fun i => (i.zero, i.size, i.bytes)) = some (some (.agg #[.int .i64 0, .slice none 0 0]), 2, 32) := by kernel_rfl

/-- append of one piece, which the walk lays in a block of its own, to a row of pieces of the call's own. -/
theorem append_piece {w : World} {ops : Array Oper} {rest : List Oper} {o : Oper} {a : Act} {Q : Exit → Act → World → Prop} (hgd : o.guard = none) (s x : Operand)
    (ho : o.op = .call { callee := .builtin .append, args := #[s, x], argTypes := #[68, 68] })
    (base : Nat) (v : Value) (n : Nat) (l : List PB) (hs : a.eval s = v) (hown : w.ownsRow base 113 2 v n (pcs l))
    (u : PB) (hu : u.2.oneCell' = true) (hx : a.eval x = .slice (some ⟨w.heap.size, 0, none⟩) 1 1)
    (hn : n + 1 ≤ 1000000) (hbase : base ≤ w.heap.size)
    (h : ∀ v' w', w'.ownsRow base 113 2 v' (n + 1) (pcs (l ++ [u])) → Below base w w' → Stays w w' v → wpList Tryz.prog ops Q rest (a.put o.dst v') w') : wpList Tryz.prog ops Q (o :: rest) a (w.alloc (.cells #[.int .i64 u.1.p, u.2] 113)) := by
  obtain ⟨i0, hi, hz0, hz1, hz2⟩ := info_parts pieceInfo
  refine wpList_append_own (w.alloc (.cells #[.int .i64 u.1.p, u.2] 113)) hgd s x 68 ho base 113 i0 _ 2 32 Tryz.underlying68 hi hz0 hz1 hz2 rfl (by decide) v n (pcs l) hs (hown.alloc _) ⟨w.heap.size, 0, none⟩ 1 1 (pc2 u) hx rfl (fun j c hj => ?_) (fun c hc => ?_) (by unfold maxLen; omega) (by omega) (by simp; omega) ?_
  · match j, hj with
    | 0, hj => simp [pc2] at hj; subst hj; simp [Addr.add]
    | 1, hj => simp [pc2] at hj; subst hj; simp [Addr.add]
    | j + 2, hj => simp [pc2] at hj
  · simp [pc2] at hc
    rcases hc with rfl | rfl
    · rfl
    · exact hu
  · intro v' w' h1 h2 _
    refine h v' w' ?_ (((Below.refl _ _).alloc hbase _).grown h2 (by simp; omega) fun k hk => (hown.lt k hk).1) fun q o hq hne => ?_
    · rw [pcs_add]
      simpa [pcs] using h1
    · have hlt : q < w.heap.size := (Array.getElem?_eq_some_iff.1 hq).1
      rw [h2.block q (by simp; omega) hne, Below.heap_alloc w _ q hlt]
      exact hq


/-- A row of pieces that is gathered, with the rows of their bytes. -/
def PRel (w : World) (v : Value) (l : List PB) (wr : World) : Prop :=
  wr.ownsRow w.heap.size 113 2 v l.length (pcs l) ∧ (∀ x ∈ l, wr.ownsRow w.heap.size 5 1 x.2 x.1.b.length (bys x.1.b)) ∧ Below w.heap.size w wr

theorem own_form2 {w : World} {base n : Nat} {e : TypeId} {v : Value} {xs : List Value} (h : w.ownsRow base e 2 v n xs) :
    (v = .slice none 0 0 ∧ n = 0 ∧ xs = []) ∨ ∃ g cap, v = .slice (some ⟨g, 0, none⟩) n cap ∧ base ≤ g ∧ g < w.heap.size ∧ n ≤ cap ∧ xs.length = n * 2 ∧ ∀ k, k < n * 2 → w.cell? ⟨g, k, none⟩ = xs[k]? := by
  rcases h.2 with ⟨h', h0⟩ | ⟨g, cap, cur, h', hb, hg, hc, _⟩
  · subst h0; exact .inl ⟨h', rfl, List.length_eq_zero_iff.1 (by simpa using h.1)⟩
  · subst h'
    exact .inr ⟨g, cap, rfl, hb, (Array.getElem?_eq_some_iff.1 hg).1, hc, h.1, fun k hk => h.cellAt k hk⟩

theorem sees_pcs {w : World} {base n : Nat} {v : Value} {l : List PB} (h : w.ownsRow base 113 2 v n (pcs l)) (hn : n = l.length) (hB : ∀ x ∈ l, SeesV w x.2 (bys x.1.b)) : SeesP w v (l.map Prod.fst) := by
  subst hn
  rcases own_form2 h with ⟨rfl, h0, h1⟩ | ⟨g, cap, rfl, _, hlt, _, _, hc⟩
  · have : l = [] := List.eq_nil_of_length_eq_zero h0
    subst this
    exact ⟨none, 0, rfl, .inl rfl⟩
  · refine ⟨some ⟨g, 0, none⟩, cap, by simp, ?_⟩
    right
    refine ⟨g, 0, rfl, hlt, fun k hk => ?_⟩
    have hk : k < l.length := by simpa using hk
    have hp := pcs_at l hk
    rw [List.getElem_map]
    refine ⟨?_, l[k].2, ?_, hB _ (List.getElem_mem hk)⟩
    · rw [Nat.zero_add, hc _ (by omega)]; exact hp.1
    · rw [Nat.zero_add, hc _ (by omega)]; exact hp.2

theorem PRel.sees {w wr : World} {v : Value} {l : List PB} (h : PRel w v l wr) : SeesP wr v (l.map Prod.fst) :=
  sees_pcs h.1 rfl fun x hx => SeesV.of_own (h.2.1 x hx)

theorem PRel.start (w : World) : PRel w (.slice none 0 0) [] w := ⟨World.ownsRow_nil _ _ _ _, (fun _ h => nomatch h), Below.refl _ _⟩

/-- One piece more, whose bytes were made since. -/
theorem PRel.add {w wr w1 w2 : World} {v v' : Value} {l : List PB} {u : PB} (h : PRel w v l wr) (hb1 : Below wr.heap.size wr w1) (hB : w1.ownsRow wr.heap.size 5 1 u.2 u.1.b.length (bys u.1.b))
    (ho : w2.ownsRow w.heap.size 113 2 v' (l.length + 1) (pcs (l ++ [u]))) (hb2 : Below w.heap.size w1 w2) (hst : Stays w1 w2 v) : PRel w v' (l ++ [u]) w2 := by
  have h1 := own_belowN h.1 hb1
  refine ⟨by rw [List.length_append]; exact ho, fun x hx => ?_, (h.2.2.trans (hb1.mono h.2.2.size)).trans hb2⟩
  have hx1 : w1.ownsRow w.heap.size 5 1 x.2 x.1.b.length (bys x.1.b) := by
    rcases List.mem_append.1 hx with hx | hx
    · exact own_belowN (h.2.1 x hx) hb1
    · have : x = u := by simpa using hx
      subst this
      exact own_baseN hB h.2.2.size
  exact own_keep hx1 hst (own_diff (by decide) h1 hx1)

theorem clone_any (A : Option Addr) (n c : Nat) (l : List UInt8) (w : World) (hs : SeesV w (.slice A n c) (bys l)) (hl : l.length ≤ 1000000) : Calls Tryz.prog 40 #[.slice A n c] w (EndPost l w) := by
  obtain ⟨A1, c1, e, hv⟩ := id hs
  injection e with e1 e2 e3
  subst e1 e3
  rw [bys_len] at e2
  subst e2
  cases A with
  | none =>
    have : l = [] := by
      rcases hv with h0 | ⟨g, off, h0, _⟩
      · simpa [bys] using h0
      · cases h0
    subst this
    clear hs hv
    have HP := Lib.hid (show EndPost [] w (.returned (.slice none 0 0)) w from ⟨_, rfl, World.ownsRow_nil _ _ _ _, Below.refl _ _⟩)
    have E := fun W => Go.Lib.run_eql_slice_nil (P := Tryz.prog) W 38 5 none 0 c 0 0 Tryz.underlying38
    go_enter Tryz.func40, Tryz.ntmps40
    go_wp2_with fail
    go_ret
    exact HP.out
  | some ad =>
    have HS := Lib.hid (hs.later (below_made w (.cells #[] 5)))
    have HO := Lib.hid (own_made w 5)
    have HL := Lib.hid hl
    clear hs hv hl
    have E := fun W => Go.Lib.run_eql_slice_nil (P := Tryz.prog) W 38 5 (some ad) l.length c 0 0 Tryz.underlying38
    go_enter Tryz.func40, Tryz.ntmps40
    go_wp2_with (at_builtin; refine append_all oneByte rfl _ _ rfl w.heap.size _ 0 [] rfl HO.out _ (bys l) rfl HS.out (bys_ones _) ?a1 ?a2 ?a3 ?_)
    case a1 => have := HL.out; rw [bys_len]; omega
    case a2 => have := HL.out; rw [bys_len]; unfold maxLen; omega
    case a3 => simp
    intro v' w' ho hb
    have HP := Lib.hid (show EndPost l w (.returned v') w' from ⟨_, rfl, by simpa [bys_len] using ho, (below_made w _).trans hb⟩)
    clear ho hb
    go_wp2_with fail
    go_ret
    exact HP.out
end Go.Proofs.YtaklilhnikmmfaaGreat
