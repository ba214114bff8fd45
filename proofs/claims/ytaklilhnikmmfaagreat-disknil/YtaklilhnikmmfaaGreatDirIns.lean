/-
  slices.Insert of one entry.
-/
import Derived.Test.YtaklilhnikmmfaaGreatDirCut
namespace Go.Proofs.YtaklilhnikmmfaaGreat
open Go.RowKit StrM DirM

/-- A block with one entry. -/
def EBox (w : World) (q : Nat) (s : ByteArray) (n : Int) : Prop := w.heap[q]? = some (.cells #[.string s, .int .i64 n] 67 (0, 0))
theorem EBox.made (w : World) (s : ByteArray) (n : Int) : EBox (w.alloc (.cells #[.string s, .int .i64 n] 67)) w.heap.size s n := heap_alloc_new w _
theorem EBox.lt {w : World} {q : Nat} {s : ByteArray} {n : Int} (h : EBox w q s n) : q < w.heap.size := (Array.getElem?_eq_some_iff.1 h).1
theorem EBox.cell {w : World} {q : Nat} {x : E} (h : EBox w q x.name x.node) : ∀ j c, (ec x)[j]? = some c → w.cell? ((⟨q, 0, none⟩ : Addr).add j) = some c := by
  intro j c hj
  rw [Addr.add_lit, cell_of_row w q _ _ _ (0, 0) h, Nat.zero_add]
  simpa [ec] using hj
theorem EBox.sees {w : World} {q : Nat} {x : E} (h : EBox w q x.name x.node) : SeesN w (.slice (some ⟨q, 0, none⟩) 1 1) 1 (ec x) :=
  ⟨_, 1, rfl, Nat.le_refl _, .inr ⟨q, 0, rfl, h.lt, fun k c hk => by have := h.cell k c hk; rwa [Addr.add_lit] at this⟩⟩

/-- What slices.Insert returns. -/
def InsPost (base : Nat) (l : List E) (w : World) (e : Ending) (w' : World) : Prop := ∃ v, e = .returned v ∧ OwnE w' base v l ∧ Below base w w'

theorem ins_len (l : List E) (x : E) (i : Nat) (hi : i ≤ l.length) : (l.take i ++ x :: l.drop i).length = l.length + 1 := by
  rw [List.length_append, List.length_cons, List.length_take, List.length_drop]; omega
theorem ins_cells (l : List E) (x : E) (i : Nat) : ecs (l.take i ++ x :: l.drop i) = ecs (l.take i) ++ (ec x ++ ecs (l.drop i)) := by
  rw [ecs_add]; rfl

set_option maxHeartbeats 2000000 in
set_option maxRecDepth 100000 in
theorem insert_end (base vb : Nat) (A : Option Addr) (n cap : Nat) (l : List E) (x : E) (w : World) (hown : OwnE w base (.slice A n cap) l) (hn : n = l.length) (hv : EBox w vb x.name x.node) (hL : n ≤ 1000) (hbase : base ≤ w.heap.size) :
    Calls Tryz.prog 127 #[.slice A n cap, .int .i64 (n : Int), .slice (some ⟨vb, 0, none⟩) 1 1] w (InsPost base (l ++ [x]) w) := by
  have HO := Lib.hid (show w.ownsRow base 67 2 (.slice A n cap) n (ecs l) by have h := hown; unfold OwnE at h; rw [← hn] at h; exact h)
  have HV := Lib.hid hv.sees
  have HN := Lib.hid hn
  have HB := Lib.hid hbase
  have hc : n ≤ cap := by
    obtain ⟨A', cap', e, h⟩ := (SeesN.of_own hown).form
    injection e with e1 e2 e3
    subst e1 e2 e3; exact h
  have b1 : (n + 1) * 24 ≤ 140737488355328 := by omega
  have b2 : n + 1 ≤ maxLen := by unfold maxLen; omega
  have B1 := Lib.hid b1
  have B2 := Lib.hid b2
  clear hown hv hn hbase b1 b2
  unfold InsPost
  go_enter Tryz.func127, Tryz.ntmps127
  go_wp2_with (at_builtin; refine append_n nEntry rfl (.tmp 23) (.tmp 24) rfl base _ n (ecs l) rfl HO.out _ 1 (ec x) rfl HV.out rfl (ec_ones x) B1.out B2.out HB.out ?_)
  all_goals
    intro v' w' ho hb hst
    have HO2 := Lib.hid (show OwnE w' base v' (l ++ [x]) by
      show w'.ownsRow _ _ _ _ _ _
      rw [List.length_append, ← HN.out, ecs_add]; exact ho)
    have HB2 := Lib.hid hb
    clear ho hb hst
    go_wp2_with fail
    go_ret
    exact ⟨_, rfl, HO2.out, HB2.out⟩

set_option maxHeartbeats 2000000 in
set_option maxRecDepth 100000 in
theorem insert_room (base vb g n cap i : Nat) (l : List E) (x : E) (w : World) (hown : OwnE w base (.slice (some ⟨g, 0, none⟩) n cap) l) (hv : EBox w vb x.name x.node) (hne : vb ≠ g) (hi : i < n) (hroom : n + 1 ≤ cap) (hL : n ≤ 1000) :
    Calls Tryz.prog 127 #[.slice (some ⟨g, 0, none⟩) n cap, .int .i64 (i : Int), .slice (some ⟨vb, 0, none⟩) 1 1] w (InsPost base (l.take i ++ x :: l.drop i) w) := by
  obtain ⟨cl, hg, hlen, htake, hn, hc, hm, hb, hlt⟩ := hown.row
  obtain ⟨N1, hN1⟩ : ∃ N1, N1 = n + 1 := ⟨_, rfl⟩
  obtain ⟨J, hJ⟩ : ∃ J, J = i + 1 := ⟨_, rfl⟩
  have iN : (n : Int) + 1 = (N1 : Int) := by omega
  have iJ : (i : Int) + 1 = (J : Int) := by omega
  have wJ : IntKind.i64.wrap (J : Int) = (J : Int) := by rw [IntKind.wrap_i64]; omega
  have pJ : (J : Int) ≤ (N1 : Int) := by omega
  have hov : ∀ W : World, W.heap = w.heap → ∀ lb cb, (callFunc 138 #[.slice (some ⟨vb, 0, none⟩) 1 1, .slice (some ⟨g, J * 2, none⟩) lb cb]).run Tryz.prog W = .ok (.value (.bool false)) W := fun W hW lb cb => by
    have h1 : W.heap[vb]? = some (.cells #[.string x.name, .int .i64 x.node] 67 (0, 0)) := by rw [hW]; exact hv
    have h2 : W.heap[g]? = some (.cells cl.toArray 67 (0, 0)) := by rw [hW]; exact hg
    rw [run_callFunc_extern Tryz.func138 (by kernel_rfl) (by kernel_rfl) (by kernel_rfl) (e := Extern.SlicesOverlaps.overlaps #[29, 29] #[4]) (by kernel_rfl),
      Lib.run_overlaps_apart W 29 4 67 Tryz.underlying29 2 (fun w => by kernel_rfl) ⟨vb, 0, none⟩ ⟨g, J * 2, none⟩ 1 1 lb cb hne 67 67 2 (cap * 2) (by simp [World.shape?, h1]) (by simp [World.shape?, h2, hlen]) (by omega) (by simp [World.frozen?, h1]) (by simp [World.frozen?, h1])]
    rfl
  have hov0 := hov w rfl
  have hdl : (ecs (l.drop i)).length = (n - i) * 2 := by rw [ecs_len, List.length_drop, hn]
  have hdrew : w.drew.heap[g]? = some (.cells cl.toArray 67 (0, 0)) := hg
  have HD := Lib.hid hdrew
  have C1 := Lib.hid (show ∀ j v, (ecs (l.drop i))[j]? = some v → w.drew.cell? ((⟨g, i * 2, none⟩ : Addr).add j) = some v from fun j v hj => by
    have ht : j < (n - i) * 2 := by rw [← hdl]; exact (List.getElem?_eq_some_iff.1 hj).1
    rw [Addr.add_lit, row_cell hdrew]
    rw [← ecs_drop l i (by omega), List.getElem?_drop, ← htake, List.getElem?_take, if_pos (by omega)] at hj
    exact hj)
  have C2 := Lib.hid (show n - i = Nat.min (N1 - i) (N1 - J) by simp only [Nat.min_def]; split <;> omega)
  have C3 := Lib.hid hdl
  have C4 := Lib.hid (show J * 2 + (ecs (l.drop i)).length ≤ cl.length by rw [hdl, hlen]; omega)
  have L1 := Lib.hid (show (splice cl (J * 2) (ecs (l.drop i))).length = cap * 2 by rw [length_splice _ _ _ C4.out, hlen])
  have F1 := Lib.hid (show i * 2 + (ec x).length ≤ (splice cl (J * 2) (ecs (l.drop i))).length by rw [L1.out]; simp [ec]; omega)
  have L2 := Lib.hid (show (splice (splice cl (J * 2) (ecs (l.drop i))) (i * 2) (ec x)).length = cap * 2 by rw [length_splice _ _ _ F1.out, L1.out])
  have T2 := Lib.hid (show (splice (splice cl (J * 2) (ecs (l.drop i))) (i * 2) (ec x)).take (N1 * 2) = ecs (l.take i ++ x :: l.drop i) by
    rw [ins_cells, ← ecs_take l i (by omega), ← htake, List.take_take, Nat.min_eq_left (by omega)]
    have e1 : (splice cl (J * 2) (ecs (l.drop i))).take (i * 2) = cl.take (i * 2) := splice_low _ (by rw [hlen]; omega) (by omega)
    have e2 : (splice cl (J * 2) (ecs (l.drop i))).drop (i * 2 + (ec x).length) = ecs (l.drop i) ++ cl.drop (J * 2 + (ecs (l.drop i)).length) := by
      rw [show i * 2 + (ec x).length = J * 2 by simp [ec]; omega]
      exact splice_drop _ (by rw [hlen]; omega)
    rw [splice, e1, e2, ← List.append_assoc, ← List.append_assoc, List.take_append_of_le_length (by simp only [List.length_append, List.length_take, hlen, hdl, ec, List.length_cons, List.length_nil]; omega)]
    rw [List.take_of_length_le (by simp only [List.length_append, List.length_take, hlen, hdl, ec, List.length_cons, List.length_nil]; omega), List.append_assoc])
  have HV := Lib.hid hv
  have HM := Lib.hid hm
  have HB := Lib.hid hb
  have HE := Lib.hid hne
  have HLN := Lib.hid (show N1 = (l.take i ++ x :: l.drop i).length by rw [ins_len l x i (by omega), ← hn, hN1])
  have hin : ((i : Int) == (n : Int)) = false := by simp; omega
  have q1 : decide ((cap : Int) < (N1 : Int)) = false := decide_eq_false (by omega)
  have q1' : decide (cap < N1) = false := decide_eq_false (by omega)
  have q2 : N1 ≤ cap := by omega
  have q3 : J ≤ N1 := by omega
  have q4 : ¬ (cap = J) := by omega
  have q5 : ¬ (cap = i) := by omega
  have q6 : i ≤ N1 := by omega
  have q7 : i ≤ n := by omega
  have C5 := Lib.hid (show 1 = Nat.min 1 (N1 - i) by simp only [Nat.min_def]; split <;> omega)
  clear hown hg hlen htake hn hm hb hdl hdrew hv hN1 hJ hov
  unfold InsPost
  go_enter Tryz.func127, Tryz.ntmps127
  go_wp2_with fail
  go_region_law (refine step_copyN nEntry rfl (.tmp 73) (.tmp 76) rfl g (J * 2) (N1 - J) (cap - J) ⟨g, i * 2, none⟩ (N1 - i) (cap - i) (by simp [Act.eval, Act.put]) (by simp [Act.eval, Act.put]) cl HD.out (ecs (l.drop i)) (n - i) C2.out C3.out C1.out C4.out (ecs_ones _) ?_; intro w1 ht1 hg1)
  all_goals
    have G1 := Lib.hid hg1
    have TT := Lib.hid ht1
    have V1 := Lib.hid (show EBox w1 vb x.name x.node by unfold EBox; rw [ht1.other HE.out]; exact HV.out)
    clear hg1 ht1
    go_wp2_with (refine wpList_copyN nEntry rfl (.tmp 80) (.tmp 81) rfl g (i * 2) (N1 - i) (cap - i) ⟨vb, 0, none⟩ 1 1 rfl rfl _ G1.out (ec x) 1 C5.out rfl V1.out.cell F1.out (ec_ones x) ?_)
    intro w2 ht2 hg2
    have G2 := Lib.hid hg2
    have TU := Lib.hid ht2
    clear hg2 ht2
    go_wp2_with fail
    go_ret
    exact ⟨_, rfl, OwnE.of_row G2.out L2.out T2.out HLN.out q2 HM.out HB.out, TU.out.below (TT.out.below (Below.refl _ _).drew HB.out) HB.out⟩

set_option maxHeartbeats 2000000 in
set_option maxRecDepth 100000 in
theorem insert_grow (base vb g n cap i : Nat) (l : List E) (x : E) (w : World) (hown : OwnE w base (.slice (some ⟨g, 0, none⟩) n cap) l) (hv : EBox w vb x.name x.node) (hi : i < n) (hroom : cap < n + 1) (hL : n ≤ 1000) (hbase : base ≤ w.heap.size) :
    Calls Tryz.prog 127 #[.slice (some ⟨g, 0, none⟩) n cap, .int .i64 (i : Int), .slice (some ⟨vb, 0, none⟩) 1 1] w (InsPost base (l.take i ++ x :: l.drop i) w) := by
  obtain ⟨cl, hg, hlen, htake, hn, hc, hm, hb, hlt⟩ := hown.row
  obtain ⟨N1, hN1⟩ : ∃ N1, N1 = n + 1 := ⟨_, rfl⟩
  obtain ⟨J, hJ⟩ : ∃ J, J = i + 1 := ⟨_, rfl⟩
  obtain ⟨R, hR⟩ : ∃ R, R = N1 - i := ⟨_, rfl⟩
  obtain ⟨N, hN⟩ : ∃ N, N = w.heap.size := ⟨_, rfl⟩
  have iN : (n : Int) + 1 = (N1 : Int) := by omega
  have iJ : (i : Int) + 1 = (J : Int) := by omega
  have iR : (N1 : Int) - (i : Int) = (R : Int) := by omega
  have wJ : IntKind.i64.wrap (J : Int) = (J : Int) := by rw [IntKind.wrap_i64]; omega
  have wR : IntKind.i64.wrap (R : Int) = (R : Int) := by rw [IntKind.wrap_i64]; omega
  have wN : IntKind.i64.wrap (N1 : Int) = (N1 : Int) := by rw [IntKind.wrap_i64]; omega
  have pJ : (J : Int) ≤ (N1 : Int) := by omega
  obtain ⟨i0, hi0, hz0, hz1, hz2⟩ := info_parts nEntry.info
  have hti : (cl.take (i * 2)) = ecs (l.take i) := by rw [← ecs_take l i (by omega), ← htake, List.take_take, Nat.min_eq_left (by omega)]
  have hil : (ecs (l.take i)).length = i * 2 := by rw [ecs_len, List.length_take]; omega
  have hold : (Builtin.firstCells i0.size i (.slice (some ⟨g, 0, none⟩) i cap)).run Tryz.prog w.drew = .ok (ecs (l.take i)).toArray w.drew := by
    rw [hz1]
    exact run_firstCells_some w.drew 2 i ⟨g, 0, none⟩ i cap _ hil (fun j v hj => by
      have hdrew : w.drew.heap[g]? = some (.cells cl.toArray 67 (0, 0)) := hg
      rw [Addr.add_lit, Nat.zero_add, row_cell hdrew]
      rw [← hti, List.getElem?_take] at hj
      split at hj
      · exact hj
      · cases hj)
  have hrz := fun ty => Lib.run_append_grow_zeros (P := Tryz.prog) w 29 3 ty 67 i0 _ .i64 .i64 nEntry.under Tryz.underlying3 hi0 hz0 (some ⟨g, 0, none⟩) i cap (ecs (l.take i)) hold R (by omega) (by omega) (by omega) (by omega) (by rw [hz2]; omega) (by rw [hz2]; exact growslice_fits (by omega) (by omega))
  rw [show i + R = N1 by omega] at hrz
  obtain ⟨G, hG⟩ : ∃ G, G = grownCap w N1 cap 67 := ⟨_, rfl⟩
  rw [← hG] at hrz
  have hGn : N1 ≤ G := by rw [hG]; exact grownCap_ge w _ _ _
  have hGm : G ≤ maxLen := by rw [hG]; exact grownCap_le_maxLen w _ _ _ (by unfold maxLen; omega)
  have hG63 : G ≤ 9223372036854775807 := by unfold maxLen at hGm; omega
  obtain ⟨Z, hZ⟩ : ∃ Z : List Value, Z = ((ecs (l.take i)).toArray ++ Builtin.zeroCells (Value.agg #[.string ⟨#[]⟩, .int .i64 0]).cells R ++ Builtin.zeroCells (Value.agg #[.string ⟨#[]⟩, .int .i64 0]).cells (G - N1)).toList := ⟨_, rfl⟩
  have hZa : (ecs (l.take i)).toArray ++ Builtin.zeroCells (Value.agg #[.string ⟨#[]⟩, .int .i64 0]).cells R ++ Builtin.zeroCells (Value.agg #[.string ⟨#[]⟩, .int .i64 0]).cells (G - N1) = Z.toArray := by rw [hZ]
  rw [hZa] at hrz
  have hZl : Z.length = G * 2 := by
    rw [hZ]
    simp only [Array.length_toList, Array.size_append, List.size_toArray, size_zeroCells, nEntry.cells, hil]
    omega
  have hZt : Z.take (i * 2) = ecs (l.take i) := by
    rw [hZ, Array.toList_append, Array.toList_append, List.append_assoc, ← hil]
    exact List.take_left
  obtain ⟨W1, hW1⟩ : ∃ W1, W1 = w.drew.alloc (.cells Z.toArray 67) := ⟨_, rfl⟩
  rw [← hW1, ← hN] at hrz
  have hg1 : W1.heap[N]? = some (.cells Z.toArray 67 (0, 0)) := by rw [hW1, hN]; exact heap_alloc_new w.drew _
  have hB1 : Below base w W1 := by rw [hW1]; exact (Below.refl _ _).drew.alloc hbase _
  have hO1 : ∀ q, q < N → W1.heap[q]? = w.heap[q]? := fun q hq => by rw [hW1]; exact Below.heap_alloc w.drew _ q (by rw [hN] at hq; exact hq)
  have hv1 : EBox W1 vb x.name x.node := by unfold EBox; rw [hO1 vb (by rw [hN]; exact hv.lt)]; exact hv
  have hgr : W1.heap[g]? = some (.cells cl.toArray 67 (0, 0)) := by rw [hO1 g (by rw [hN]; exact hlt)]; exact hg
  have hNg : g ≠ N := by omega
  have hNb : base ≤ N := by omega
  have hdl : (ecs (l.drop i)).length = (n - i) * 2 := by rw [ecs_len, List.length_drop, hn]
  have G1 := Lib.hid hg1
  have V1 := Lib.hid hv1
  have GR := Lib.hid hgr
  have RZ := Lib.hid hrz
  have HNG := Lib.hid hNg
  have HNB := Lib.hid hNb
  have HB1 := Lib.hid hB1
  have C1 := Lib.hid (show ∀ W : World, W.heap[g]? = some (.cells cl.toArray 67 (0, 0)) → ∀ j v, (ecs (l.drop i))[j]? = some v → W.cell? ((⟨g, i * 2, none⟩ : Addr).add j) = some v from fun W hW j v hj => by
    have ht : j < (n - i) * 2 := by rw [← hdl]; exact (List.getElem?_eq_some_iff.1 hj).1
    rw [Addr.add_lit, row_cell hW]
    rw [← ecs_drop l i (by omega), List.getElem?_drop, ← htake, List.getElem?_take, if_pos (by omega)] at hj
    exact hj)
  have C2 := Lib.hid (show n - i = Nat.min (n - i) (N1 - J) by simp only [Nat.min_def]; split <;> omega)
  have C3 := Lib.hid hdl
  have F1 := Lib.hid (show i * 2 + (ec x).length ≤ Z.length by rw [hZl]; simp [ec]; omega)
  have L1 := Lib.hid (show (splice Z (i * 2) (ec x)).length = G * 2 by rw [length_splice _ _ _ F1.out, hZl])
  have F2 := Lib.hid (show J * 2 + (ecs (l.drop i)).length ≤ (splice Z (i * 2) (ec x)).length by rw [hdl, L1.out]; omega)
  have L2 := Lib.hid (show (splice (splice Z (i * 2) (ec x)) (J * 2) (ecs (l.drop i))).length = G * 2 by rw [length_splice _ _ _ F2.out, L1.out])
  have T2 := Lib.hid (show (splice (splice Z (i * 2) (ec x)) (J * 2) (ecs (l.drop i))).take (N1 * 2) = ecs (l.take i ++ x :: l.drop i) by
    have e1 : N1 * 2 = J * 2 + (ecs (l.drop i)).length := by rw [hdl]; omega
    have e2 : J * 2 = i * 2 + (ec x).length := by simp [ec]; omega
    rw [e1, splice_take _ (by rw [L1.out]; omega)]
    rw [show (splice Z (i * 2) (ec x)).take (J * 2) = Z.take (i * 2) ++ ec x by rw [e2]; exact splice_take _ (by rw [hZl]; omega)]
    rw [hZt, ins_cells, List.append_assoc])
  have C5 := Lib.hid (show 1 = Nat.min 1 (N1 - i) by simp only [Nat.min_def]; split <;> omega)
  have HM := Lib.hid hGm
  have HLN := Lib.hid (show N1 = (l.take i ++ x :: l.drop i).length by rw [ins_len l x i (by omega), ← hn, hN1])
  have hin : ((i : Int) == (n : Int)) = false := by simp; omega
  have q1 : (cap : Int) < (N1 : Int) := by omega
  have q2 : i ≤ cap := by omega
  have q3 : J ≤ N1 := by omega
  have q4 : ¬ (G = J) := by omega
  have q5 : ¬ (G = i) := by omega
  have q6 : i ≤ N1 := by omega
  have q7 : i ≤ n := by omega
  have q8 : ¬ (cap = i) := by omega
  clear hown hg hlen htake hn hm hb hdl hv hN1 hJ hR hN hi0 hz0 hz1 hz2 hti hil hold hrz hG hGm hZ hZa hZl hZt hW1 hg1 hB1 hO1 hv1 hgr hNg hNb
  unfold InsPost
  go_enter Tryz.func127, Tryz.ntmps127
  go_wp2_with (first
    | (at_builtin; refine Lib.wpList_append_run _ rfl (.tmp 34) (.tmp 39) 29 3 rfl _ _ rfl rfl _ _ (RZ.out _) ?_)
    | refine wpList_copyN nEntry rfl (.tmp 43) (.tmp 44) rfl N (i * 2) (N1 - i) (G - i) ⟨vb, 0, none⟩ 1 1 rfl rfl _ G1.out (ec x) 1 C5.out rfl V1.out.cell F1.out (ec_ones x) ?_)
  intro w2 ht2 hg2
  have hgd : w2.drew.heap[N]? = some (.cells (splice Z (i * 2) (ec x)).toArray 67 (0, 0)) := hg2
  have GD := Lib.hid hgd
  have TT := Lib.hid ht2
  have CC := Lib.hid (C1.out w2.drew (show w2.heap[g]? = _ by rw [ht2.other HNG.out]; exact GR.out))
  clear hg2 ht2 hgd
  go_wp2_with fail
  go_region_law (refine step_copyN nEntry rfl (.tmp 50) (.tmp 53) rfl N (J * 2) (N1 - J) (G - J) ⟨g, i * 2, none⟩ (n - i) (cap - i) (by simp [Act.eval, Act.put]) (by simp [Act.eval, Act.put]) _ GD.out (ecs (l.drop i)) (n - i) C2.out C3.out CC.out F2.out (ecs_ones _) ?_; intro w3 ht3 hg3)
  all_goals
    have G3 := Lib.hid hg3
    have TU := Lib.hid ht3
    clear hg3 ht3
    go_wp2_with fail
    go_ret
    exact ⟨_, rfl, OwnE.of_row G3.out L2.out T2.out HLN.out hGn HM.out HNB.out, TU.out.below (TT.out.below HB1.out HNB.out).drew HNB.out⟩

theorem insert_any (base vb : Nat) (v : Value) (i : Nat) (l : List E) (x : E) (w : World) (hown : OwnE w base v l) (hv : EBox w vb x.name x.node) (hne : v.ownBlock ≠ some vb) (hi : i ≤ l.length) (hL : l.length ≤ 1000) (hbase : base ≤ w.heap.size) :
    Calls Tryz.prog 127 #[v, .int .i64 (i : Int), .slice (some ⟨vb, 0, none⟩) 1 1] w (InsPost base (l.take i ++ x :: l.drop i) w) := by
  by_cases hin : i = l.length
  · obtain ⟨A, cap, e, -⟩ := (SeesN.of_own hown).form
    subst e
    have h := insert_end base vb A l.length cap l x w hown rfl hv hL hbase
    rw [hin, List.take_length, List.drop_length]
    exact h
  · rcases hown.2 with ⟨h', h0⟩ | ⟨g, cap, cur, h', _⟩
    · omega
    · subst h'
      have hg : vb ≠ g := fun e => hne (by rw [e]; rfl)
      by_cases hr : l.length + 1 ≤ cap
      · exact insert_room base vb g l.length cap i l x w hown hv hg (by omega) hr hL
      · exact insert_grow base vb g l.length cap i l x w hown hv (by omega) (by omega) hL hbase
end Go.Proofs.YtaklilhnikmmfaaGreat
