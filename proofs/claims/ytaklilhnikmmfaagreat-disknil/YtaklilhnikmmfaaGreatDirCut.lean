/-
  A row of the call's own, known whole: what append, copy and clear make of it; slices.Delete of one entry.
-/
import Derived.Test.YtaklilhnikmmfaaGreatDirLeaf
import Derived.Lib.Overlaps
import Derived.Deep.RegionLaw
namespace Go.Proofs.YtaklilhnikmmfaaGreat
open Go.RowKit StrM DirM

/-! ### One row turns -/
def Turn (g : Nat) (w w' : World) : Prop := ∃ cs, w' = w.setRow g cs
theorem Turn.below {g B : Nat} {w0 w w' : World} (h : Turn g w w') (hb : Below B w0 w) (hB : B ≤ g) : Below B w0 w' := by
  obtain ⟨cs, rfl⟩ := h
  exact below_setRow hb hB cs
theorem Turn.other {g q : Nat} {w w' : World} (h : Turn g w w') (hq : q ≠ g) : w'.heap[q]? = w.heap[q]? := by
  obtain ⟨cs, rfl⟩ := h
  exact setRow_other w g q cs hq
theorem Turn.size {g : Nat} {w w' : World} (h : Turn g w w') : w'.heap.size = w.heap.size := by
  obtain ⟨cs, rfl⟩ := h
  simp [World.setRow]

theorem splice_take {α : Type} {L : List α} {off : Nat} (cs : List α) (h : off ≤ L.length) : (splice L off cs).take (off + cs.length) = L.take off ++ cs := by
  unfold splice
  rw [← List.append_assoc, List.take_append_of_le_length (by rw [List.length_append, List.length_take]; omega)]
  exact List.take_of_length_le (by rw [List.length_append, List.length_take]; omega)
theorem splice_low {α : Type} {L : List α} {off k : Nat} (cs : List α) (h : off ≤ L.length) (hk : k ≤ off) : (splice L off cs).take k = L.take k := by
  unfold splice
  rw [List.take_append_of_le_length (by rw [List.length_take]; omega), List.take_take, Nat.min_eq_left hk]
theorem splice_drop {α : Type} {L : List α} {off : Nat} (cs : List α) (h : off ≤ L.length) : (splice L off cs).drop off = cs ++ L.drop (off + cs.length) := by
  unfold splice
  rw [List.drop_append_of_le_length (by rw [List.length_take]; omega), List.drop_of_length_le (by rw [List.length_take]; omega), List.nil_append]

theorem run_copyN {P : Program} {t e : TypeId} {z : Value} {sz bytes : Nat} (H : NCell P t e z sz bytes) (w : World) (ty : TypeId) (g o dLen dCap : Nat) (ad : Addr) (sLen sCap : Nat) (cur : List Value) (hg : w.heap[g]? = some (.cells cur.toArray e (0, 0)))
    (cs : List Value) (m : Nat) (hm : m = Nat.min sLen dLen) (hn : cs.length = m * sz) (hsrc : ∀ j v, cs[j]? = some v → w.cell? (ad.add j) = some v) (hfit : o + cs.length ≤ cur.length) (h1 : ∀ v ∈ cs, v.oneCell' = true) :
    ∃ w', (Builtin.copy_ #[t, t] ty #[.slice (some ⟨g, o, none⟩) dLen dCap, .slice (some ad) sLen sCap]).run P w = .ok (goInt m) w' ∧ Turn g w w' ∧ w'.heap[g]? = some (.cells (splice cur o cs).toArray e (0, 0)) := by
  obtain ⟨i0, hi, hz0, hz1, hz2⟩ := info_parts H.info
  have hl := run_loadCells_list (P := P) w ad cs hsrc
  rw [hn, hm] at hl
  have hst := run_storeCells_at P g o e cs 0 cur.toArray w hg (by simpa using hfit) h1
  refine ⟨w.setRow g (splice cur o cs).toArray, ?_, ⟨_, rfl⟩, setRow_heap w g _ _ e _ hg⟩
  simp [Builtin.copy_, run_underlying H.under, Builtin.lenOf, Builtin.firstCells, sizeOf, typeInfo, hi, hz1, hl, hst, splice, hm]

theorem wpList_copyN {P : Program} {t e : TypeId} {z : Value} {sz bytes : Nat} (H : NCell P t e z sz bytes) {w : World} {ops : Array Oper} {rest : List Oper} {o : Oper} {a : Act} {Q : Exit → Act → World → Prop} (hgd : o.guard = none) (d s : Operand)
    (ho : o.op = .call { callee := .builtin .copy, args := #[d, s], argTypes := #[t, t] }) (g p dLen dCap : Nat) (ad : Addr) (sLen sCap : Nat) (hd : a.eval d = .slice (some ⟨g, p, none⟩) dLen dCap) (hs : a.eval s = .slice (some ad) sLen sCap)
    (cur : List Value) (hg : w.heap[g]? = some (.cells cur.toArray e (0, 0)))
    (cs : List Value) (m : Nat) (hm : m = Nat.min sLen dLen) (hn : cs.length = m * sz) (hsrc : ∀ j v, cs[j]? = some v → w.cell? (ad.add j) = some v) (hfit : p + cs.length ≤ cur.length) (h1 : ∀ v ∈ cs, v.oneCell' = true)
    (h : ∀ w', Turn g w w' → w'.heap[g]? = some (.cells (splice cur p cs).toArray e (0, 0)) → wpList P ops Q rest (a.put o.dst (goInt m)) w') : wpList P ops Q (o :: rest) a w := by
  obtain ⟨w', hr, h2, h3⟩ := run_copyN H w o.type g p dLen dCap ad sLen sCap cur hg cs m hm hn hsrc hfit h1
  refine wpList_plain hgd fun K hK => ?_
  have hfin := hK _ _ (h w' h2 h3)
  unfold Oper.wp execOp
  simp only [ho, resolve, invoke, builtin, Sem.run_bind, Sem.run_pure, Result.andThen_ok, List.map_toArray, List.map_cons, List.map_nil, hd, hs, hr]
  exact hfin
theorem step_copyN {P : Program} {t e : TypeId} {z : Value} {sz bytes : Nat} (H : NCell P t e z sz bytes) {w : World} {ops : Array Oper} {o : Oper} {a : Act} {K : Act → World → Prop} {Q : Exit → Act → World → Prop} {E : Prop} (hgd : o.guard = none) (d s : Operand)
    (ho : o.op = .call { callee := .builtin .copy, args := #[d, s], argTypes := #[t, t] }) (g p dLen dCap : Nat) (ad : Addr) (sLen sCap : Nat) (hd : a.eval d = .slice (some ⟨g, p, none⟩) dLen dCap) (hs : a.eval s = .slice (some ad) sLen sCap)
    (cur : List Value) (hg : w.heap[g]? = some (.cells cur.toArray e (0, 0)))
    (cs : List Value) (m : Nat) (hm : m = Nat.min sLen dLen) (hn : cs.length = m * sz) (hsrc : ∀ j v, cs[j]? = some v → w.cell? (ad.add j) = some v) (hfit : p + cs.length ≤ cur.length) (h1 : ∀ v ∈ cs, v.oneCell' = true)
    (h : ∀ w', Turn g w w' → w'.heap[g]? = some (.cells (splice cur p cs).toArray e (0, 0)) → K (a.put o.dst (goInt m)) w') :
    if Region.wanted o (yielded ops a.tmps) = true then Oper.wp P o a w K Q else E := by
  have hw : Region.wanted o (yielded ops a.tmps) = true := by simp [Region.wanted, hgd]
  rw [if_pos hw]
  obtain ⟨w', hr, h2, h3⟩ := run_copyN H w o.type g p dLen dCap ad sLen sCap cur hg cs m hm hn hsrc hfit h1
  have hfin := h w' h2 h3
  unfold Oper.wp execOp
  simp only [ho, resolve, invoke, builtin, Sem.run_bind, Sem.run_pure, Result.andThen_ok, List.map_toArray, List.map_cons, List.map_nil, hd, hs, hr]
  exact hfin

/-- append within the capacity, as one step of a region that draws its order. -/
theorem step_appendRow {P : Program} {t e : TypeId} {z : Value} {sz bytes : Nat} (H : NCell P t e z sz bytes) {w : World} {ops : Array Oper} {o : Oper} {a : Act} {K : Act → World → Prop} {Q : Exit → Act → World → Prop} {E : Prop} (hgd : o.guard = none) (s x : Operand)
    (ho : o.op = .call { callee := .builtin .append, args := #[s, x], argTypes := #[t, t] }) (g i cap : Nat) (ad : Addr) (m c : Nat) (hs : a.eval s = .slice (some ⟨g, 0, none⟩) i cap) (hx : a.eval x = .slice (some ad) m c)
    (cur : List Value) (hg : w.heap[g]? = some (.cells cur.toArray e (0, 0))) (news : List Value) (hl : news.length = m * sz) (hnews : ∀ j u, news[j]? = some u → w.cell? (ad.add j) = some u) (h1 : ∀ u ∈ news, u.oneCell' = true)
    (hroom : i + m ≤ cap) (hfit : i * sz + news.length ≤ cur.length)
    (h : ∀ w', Turn g w w' → w'.heap[g]? = some (.cells (splice cur (i * sz) news).toArray e (0, 0)) → K (a.put o.dst (.slice (some ⟨g, 0, none⟩) (i + m) cap)) w') :
    if Region.wanted o (yielded ops a.tmps) = true then Oper.wp P o a w K Q else E := by
  have hw : Region.wanted o (yielded ops a.tmps) = true := by simp [Region.wanted, hgd]
  rw [if_pos hw]
  obtain ⟨i0, hi, hz0, hz1, hz2⟩ := info_parts H.info
  subst hz1
  have hr := run_append_room (P := P) w t o.type e i0 H.under hi g i cap cur.toArray hg ad m c news hl hnews h1 hroom (by simpa using hfit)
  refine Lib.wp_append_run w s x t t ho _ _ hs hx _ _ hr (h _ ⟨_, rfl⟩ ?_)
  have := setRow_heap w g cur.toArray (splice cur (i * i0.size) news).toArray e (0, 0) hg
  simpa [splice] using this

theorem wpList_clear1 {P : Program} {t e : TypeId} {z : Value} {sz bytes : Nat} (H : NCell P t e z sz bytes) {w : World} {ops : Array Oper} {rest : List Oper} {o : Oper} {a : Act} {Q : Exit → Act → World → Prop} (hgd : o.guard = none) (x : Operand)
    (ho : o.op = .call { callee := .builtin .clear, args := #[x], argTypes := #[t] }) (g p c : Nat) (hx : a.eval x = .slice (some ⟨g, p, none⟩) 1 c)
    (cur : List Value) (hg : w.heap[g]? = some (.cells cur.toArray e (0, 0))) (zs : List Value) (hzs : (Builtin.zeroCells z.cells 1).toList = zs) (h1 : ∀ u ∈ zs, u.oneCell' = true) (hfit : p + zs.length ≤ cur.length)
    (h : ∀ w', Turn g w w' → w'.heap[g]? = some (.cells (splice cur p zs).toArray e (0, 0)) → wpList P ops Q rest (a.put o.dst (.tuple #[])) w') : wpList P ops Q (o :: rest) a w := by
  obtain ⟨i0, hi, hz0, hz1, hz2⟩ := info_parts H.info
  have hst := run_storeCells_at P g p e zs 0 cur.toArray w hg (by simpa using hfit) h1
  have hr : (Builtin.clear_ #[t] o.type #[.slice (some ⟨g, p, none⟩) 1 c]).run P w = .ok (.tuple #[]) (w.setRow g (splice cur p zs).toArray) := by
    simp [Builtin.clear_, run_underlying H.under, zeroValue, typeInfo, hi, hz0, hzs, hst, splice]
  refine wpList_plain hgd fun K hK => ?_
  have hfin := hK _ _ (h _ ⟨_, rfl⟩ (setRow_heap w g _ _ e _ hg))
  unfold Oper.wp execOp
  simp only [ho, resolve, invoke, builtin, Sem.run_bind, Sem.run_pure, Result.andThen_ok, List.map_toArray, List.map_cons, List.map_nil, hx, hr]
  exact hfin

/-! ### Entries in a row of the call's own -/
theorem OwnE.row {w : World} {base g n cap : Nat} {l : List E} (h : OwnE w base (.slice (some ⟨g, 0, none⟩) n cap) l) :
    ∃ cl : List Value, w.heap[g]? = some (.cells cl.toArray 67 (0, 0)) ∧ cl.length = cap * 2 ∧ cl.take (n * 2) = ecs l ∧ n = l.length ∧ n ≤ cap ∧ cap ≤ maxLen ∧ base ≤ g ∧ g < w.heap.size := by
  rcases h.2 with ⟨h', _⟩ | ⟨g', cap', cur, h', hb, hg, hc, hm, hs, ht⟩
  · cases h'
  · injection h' with h1 h2 h3
    injection h1 with h1
    injection h1 with h1 _ _
    subst h1 h2 h3
    exact ⟨cur.toList, by simpa using hg, by simpa using hs, ht, rfl, hc, hm, hb, (Array.getElem?_eq_some_iff.1 hg).1⟩
theorem OwnE.of_row {w : World} {base g n cap : Nat} {l : List E} {cl : List Value} (hg : w.heap[g]? = some (.cells cl.toArray 67 (0, 0))) (hs : cl.length = cap * 2) (ht : cl.take (n * 2) = ecs l) (hn : n = l.length) (hc : n ≤ cap) (hm : cap ≤ maxLen) (hb : base ≤ g) :
    OwnE w base (.slice (some ⟨g, 0, none⟩) n cap) l := by
  subst hn
  exact ⟨ecs_len l, .inr ⟨g, cap, cl.toArray, rfl, hb, hg, hc, hm, by simpa using hs, by simpa using ht⟩⟩
theorem row_cell {w : World} {g : Nat} {cl : List Value} {e : TypeId} (hg : w.heap[g]? = some (.cells cl.toArray e (0, 0))) (j : Nat) : w.cell? ⟨g, j, none⟩ = cl[j]? := by
  rw [cell_of_row w g _ _ _ (0, 0) hg]; simp

theorem zero_entry : (Builtin.zeroCells (Value.agg #[.string ⟨#[]⟩, .int .i64 0]).cells 1).toList = [.string ⟨#[]⟩, .int .i64 0] := by kernel_rfl

/-- What slices.Delete returns. -/
def DelPost (base g n cap i : Nat) (l : List E) (w : World) (e : Ending) (w' : World) : Prop :=
  e = .returned (.slice (some ⟨g, 0, none⟩) (n - 1) cap) ∧ OwnE w' base (.slice (some ⟨g, 0, none⟩) (n - 1) cap) (l.take i ++ l.drop (i + 1)) ∧ Below base w w' ∧ Stays w w' (.slice (some ⟨g, 0, none⟩) n cap)

set_option maxHeartbeats 2000000 in
set_option maxRecDepth 100000 in
theorem delete_any (base g n cap i : Nat) (l : List E) (w : World) (hown : OwnE w base (.slice (some ⟨g, 0, none⟩) n cap) l) (hi : i < n) (hL : n ≤ 1000) :
    Calls Tryz.prog 112 #[.slice (some ⟨g, 0, none⟩) n cap, .int .i64 (i : Int), .int .i64 ((i + 1 : Nat) : Int)] w (DelPost base g n cap i l w) := by
  obtain ⟨cl, hg, hlen, htake, hn, hc, hm, hb, hlt⟩ := hown.row
  obtain ⟨j, hj⟩ : ∃ j, j = i + 1 := ⟨_, rfl⟩
  rw [← hj]
  obtain ⟨news, hnews⟩ : ∃ news, news = ecs (l.drop j) := ⟨_, rfl⟩
  have hnl : news.length = (n - j) * 2 := by rw [hnews, ecs_len, List.length_drop, hn]
  have hcell : ∀ t u, news[t]? = some u → cl[j * 2 + t]? = some u := by
    intro t u hu
    have ht : t < (n - j) * 2 := by rw [← hnl]; exact (List.getElem?_eq_some_iff.1 hu).1
    rw [hnews, ← ecs_drop l j (by omega), List.getElem?_drop, ← htake, List.getElem?_take, if_pos (by omega)] at hu
    exact hu
  have hdrew : w.drew.heap[g]? = some (.cells cl.toArray 67 (0, 0)) := hg
  obtain ⟨A, hA, hsrc⟩ : ∃ A : Addr, (if cap = j then some (⟨g, 0, none⟩ : Addr) else some ⟨g, j * 2, none⟩) = some A ∧ Hid (∀ t u, news[t]? = some u → w.drew.cell? (A.add t) = some u) := by
    by_cases h : cap = j
    · refine ⟨⟨g, 0, none⟩, by simp [h], fun t u hu => ?_⟩
      have h0 : news.length = 0 := by rw [hnl]; omega
      rw [List.length_eq_zero_iff.1 h0] at hu
      simp at hu
    · refine ⟨⟨g, j * 2, none⟩, by simp [h], fun t u hu => ?_⟩
      rw [Addr.add_lit, row_cell hdrew]
      exact hcell t u hu
  have S1 := Lib.hid hnl
  have S2 := Lib.hid (show ∀ u ∈ news, u.oneCell' = true by rw [hnews]; exact ecs_ones _)
  have S3 := Lib.hid (show i * 2 + news.length ≤ cl.length by rw [hnl, hlen]; omega)
  have HD := Lib.hid hdrew
  have T1 := Lib.hid (show (splice cl (i * 2) news).take ((n - 1) * 2) = ecs (l.take i ++ l.drop j) by
    have e : (n - 1) * 2 = i * 2 + news.length := by rw [hnl]; omega
    rw [e, splice_take news (by rw [hlen]; omega), ecs_add, ← ecs_take l i (by omega), ← htake, List.take_take, Nat.min_eq_left (by omega), hnews])
  have L1 := Lib.hid (show (splice cl (i * 2) news).length = cap * 2 by rw [length_splice _ _ _ S3.out, hlen])
  have HJ := Lib.hid hj
  have HL := Lib.hid (show n - 1 = (l.take i ++ l.drop j).length by rw [List.length_append, List.length_take, List.length_drop, ← hn]; omega)
  have HM := Lib.hid hm
  have HB := Lib.hid hb
  have hne : ((i : Int) == (j : Int)) = false := by simp; omega
  have hij : i < j := by omega
  have hjn : j ≤ n := by omega
  have hic : i ≤ cap := by omega
  have hjc : j ≤ cap := by omega
  have hin : i ≤ n := by omega
  obtain ⟨m, hm'⟩ : ∃ m, m = i + (n - j) := ⟨_, rfl⟩
  have hmn : m = n - 1 := by omega
  have hmc : ¬ (cap = m) := by omega
  have hm1 : n - m = 1 := by omega
  have hmle : m ≤ n := by omega
  have hmn' : m < n := by omega
  have HMN := Lib.hid hmn
  have HME := Lib.hid hm'
  have HR := Lib.hid (show m ≤ cap by omega)
  rw [hj] at HJ
  unfold DelPost
  rw [← show j = i + 1 from hj, ← hmn]
  clear hown hg hlen htake hn hm hb hnews hnl hcell hdrew hj hmn hm'
  go_enter Tryz.func112, Tryz.ntmps112
  go_wp2_with fail
  go_region_law (refine step_appendRow nEntry rfl (.tmp 22) (.tmp 25) rfl g i cap A (n - j) (cap - j) (by simp [Act.eval, Act.put]) (by simp [Act.eval, Act.put]) cl HD.out news S1.out hsrc.out S2.out (by rw [← HME.out]; exact HR.out) S3.out ?_; intro w1 ht1 hg1; rw [← HME.out])
  all_goals
    have G1 := Lib.hid hg1
    have TT := Lib.hid ht1
    clear hg1 ht1
    go_wp2_with (refine wpList_clear1 nEntry rfl (.tmp 31) rfl g (m * 2) (cap - m) ?hx _ G1.out _ zero_entry ?h1 ?hf ?_)
    case hx => simp [Act.eval]
    case h1 => simp [Value.oneCell']
    case hf => rw [L1.out, HMN.out]; simp; omega
    intro w2 ht2 hg2
    have G2 := Lib.hid hg2
    have T2 := Lib.hid ht2
    clear hg2 ht2
    go_wp2_with fail
    go_ret
    refine ⟨rfl, OwnE.of_row G2.out ?_ ?_ (by rw [HMN.out]; exact HL.out) HR.out HM.out HB.out, T2.out.below (TT.out.below (Below.refl _ _).drew HB.out) HB.out, ?_⟩
    · rw [length_splice _ _ _ (by rw [L1.out, HMN.out]; simp; omega), L1.out]
    · rw [splice_low _ (by rw [L1.out]; omega) (Nat.le_refl _), HMN.out]; exact T1.out
    · intro q o hq hne
      have hqg : q ≠ g := fun e => hne (by rw [e]; rfl)
      rw [T2.out.other hqg, TT.out.other hqg]; exact hq
end Go.Proofs.YtaklilhnikmmfaaGreat
