/-
  Joined: DirPlace DirChange DirPerf DirFault DirDir DirOrd.
-/
import Derived.Test.YtaklilhnikmmfaaGreatJDirA
import Derived.WalkLawsBesides
import Derived.BigQuiet
/-
  The walks of slices.BinarySearchFunc over entries, and of place.
-/
namespace Go.Proofs.YtaklilhnikmmfaaGreat
open Go.RowKit StrM DirM

theorem srt_take {l : List E} {n : ByteArray} {k : Nat} (hs : Srt l) (hk : k < l.length) (h : lt l[k].name n = true) : ∀ x ∈ l.take (k + 1), lt x.name n = true := by
  intro x hx
  obtain ⟨j, hj, rfl⟩ := List.mem_take_iff_getElem.1 hx
  by_cases e : j = k
  · subst e; exact h
  · exact lt_trans (List.pairwise_iff_getElem.1 hs j k (by omega) hk (by omega)) h
theorem srt_drop {l : List E} {n : ByteArray} {k : Nat} (hs : Srt l) (hk : k < l.length) (h : lt l[k].name n = false) : ∀ x ∈ l.drop k, lt x.name n = false := by
  intro x hx
  obtain ⟨j, hj, rfl⟩ := List.mem_drop_iff_getElem.1 hx
  by_cases e : j = 0
  · subst e; simpa using h
  · cases hl : lt (l[k + j]'(by omega)).name n with
    | false => rfl
    | true => rw [lt_trans (List.pairwise_iff_getElem.1 hs k (k + j) hk (by omega) (by omega)) hl] at h; cases h

/-- What the two ends of the search have behind them. -/
def Mid (l : List E) (n : ByteArray) (lo hi : Nat) : Prop := (∀ x ∈ l.take lo, lt x.name n = true) ∧ (∀ x ∈ l.drop hi, lt x.name n = false)

set_option maxHeartbeats 2000000 in
set_option maxRecDepth 100000 in
theorem search_any (A : Option Addr) (n c : Nat) (l : List E) (nm : ByteArray) (w : World) (hs : SeesE w (.slice A n c) l) (hn : l.length = n) (hsrt : Srt l) (hL : n ≤ 1000) :
    Calls Tryz.prog 128 #[.slice A n c, .string nm, .func (.func 129) #[] #[]] w fun e w' =>
      (∃ (k : Nat) (b : Bool), e = .returned (.tuple #[.int .i64 (k : Int), .bool b]) ∧ Pl l nm k b) ∧ Below w.heap.size w w' := by
  have HS := Lib.hid (fun W (hb : Below w.heap.size w W) => hs.later hb)
  have HN := Lib.hid hn
  have HT := Lib.hid hsrt
  clear hs hn hsrt
  go_enter Tryz.func128, Tryz.ntmps128
  go_wp2_with fail
  go_loopw [9, 10] (fun s9 s10 wr => ∃ lo hi : Nat, lo ≤ hi ∧ hi ≤ n ∧ s9 = .int .i64 (lo : Int) ∧ s10 = .int .i64 (hi : Int) ∧ Mid l nm lo hi ∧ Below w.heap.size w wr) (fun s9 s10 _ => (intOf s10).toNat - (intOf s9).toNat)
  case atStart => exact ⟨0, n, Nat.zero_le _, Nat.le_refl _, rfl, rfl, ⟨fun x hx => by simp at hx, fun x hx => by rw [List.drop_eq_nil_of_le (by rw [HN.out]; exact Nat.le_refl _)] at hx; cases hx⟩, Below.refl _ _⟩
  case round =>
    obtain ⟨lo, hi, hlh, hin, rfl, rfl, hM, hB⟩ := hrel
    have HM := Lib.hid hM
    have HB := Lib.hid hB
    clear hM hB
    by_cases hlt : lo < hi
    · obtain ⟨h, hh⟩ : ∃ h, h = (lo + hi) / 2 := ⟨_, rfl⟩
      have hhi : ((lo : Int) + (hi : Int)) / 2 = (h : Int) := by omega
      have b1 : h < n := by omega
      have b2 : lo ≤ h := by omega
      have b3 : h < hi := by omega
      have hkl : h < l.length := by rw [HN.out]; exact b1
      clear hh
      obtain ⟨g, off, rfl, hg, hc1, hc2⟩ := (HS.out _ HB.out).cells hkl
      have LI := Lib.hid (fun w => dlit_any l[h] nm w)
      have HZ := Lib.hid (cmp_neg l[h].name nm)
      have UP := Lib.hid (show lt l[h].name nm = true → Mid l nm (h + 1) hi from fun e => ⟨srt_take HT.out hkl e, HM.out.2⟩)
      have DN := Lib.hid (show lt l[h].name nm = false → Mid l nm lo h from fun e => ⟨HM.out.1, srt_drop HT.out hkl e⟩)
      generalize l[h].name = x at *
      generalize l[h].node = y at *
      generalize cmp x nm = z at *
      by_cases hz : z < 0
      · have HX := Lib.hid (UP.out (HZ.out.1 hz))
        clear UP DN HZ
        go_wp2_with fail
        refine (LI.out _).mono ?_
        rintro e w2 ⟨rfl, hb⟩
        have B2 := Lib.hid (HB.out.trans (hb.mono HB.out.size))
        clear hb
        go_wp2_with fail
        go_roundw
        case rel => exact ⟨h + 1, hi, by omega, hin, by go_num, rfl, HX.out, B2.out⟩
        case measure => simp [intOf]; omega
      · have hz' : decide (z < 0) = false := decide_eq_false hz
        have HX := Lib.hid (DN.out (by
          have := mt HZ.out.2 hz
          simpa using this))
        clear UP DN HZ
        go_wp2_with fail
        refine (LI.out _).mono ?_
        rintro e w2 ⟨rfl, hb⟩
        have B2 := Lib.hid (HB.out.trans (hb.mono HB.out.size))
        clear hb
        go_wp2_with fail
        go_roundw
        case rel => exact ⟨lo, h, by omega, by omega, rfl, by go_num, HX.out, B2.out⟩
        case measure => simp [intOf]; omega
    · have hlo : hi = lo := by omega
      subst hlo
      by_cases hk : hi < n
      · have hkl : hi < l.length := by rw [HN.out]; exact hk
        obtain ⟨g, off, rfl, hg, hc1, hc2⟩ := (HS.out _ HB.out).cells hkl
        have LI := Lib.hid (fun w => dlit_any l[hi] nm w)
        have HZ := Lib.hid (cmp_zero l[hi].name nm)
        have HP := Lib.hid (show ∀ b, (b = true ↔ l[hi].name = nm) → Pl l nm hi b from fun b hb => ⟨by omega, HM.out.1, HM.out.2, hb.trans ⟨fun e => ⟨hkl, e⟩, fun ⟨_, e⟩ => e⟩⟩)
        generalize l[hi].name = x at *
        generalize l[hi].node = y at *
        generalize cmp x nm = z at *
        by_cases hz : z = 0
        · have HX := Lib.hid (HP.out true ⟨fun _ => HZ.out.1 hz, fun _ => rfl⟩)
          have hz' : (z == 0) = true := by simpa using hz
          clear HP HZ hz
          go_wp2_with fail
          refine (LI.out _).mono ?_
          rintro e w2 ⟨rfl, hb⟩
          have B2 := Lib.hid (HB.out.trans (hb.mono HB.out.size))
          clear hb
          go_wp2_with fail
          go_ret2
          exact ⟨⟨_, _, rfl, HX.out⟩, B2.out⟩
        · have HX := Lib.hid (HP.out false ⟨(fun h => nomatch h), fun e => absurd (HZ.out.2 e) hz⟩)
          have hz' : (z == 0) = false := by simpa using hz
          clear HP HZ hz
          go_wp2_with fail
          refine (LI.out _).mono ?_
          rintro e w2 ⟨rfl, hb⟩
          have B2 := Lib.hid (HB.out.trans (hb.mono HB.out.size))
          clear hb
          go_wp2_with fail
          go_ret2
          exact ⟨⟨_, _, rfl, HX.out⟩, B2.out⟩
      · have hk' : hi = n := by omega
        have HX := Lib.hid (show Pl l nm hi false from ⟨by rw [HN.out]; exact hin, HM.out.1, HM.out.2, ⟨(fun h => nomatch h), fun ⟨h, _⟩ => by rw [HN.out] at h; exact absurd h hk⟩⟩)
        have d1 : decide (hi < n) = false := decide_eq_false hk
        clear hk'
        go_wp2_with fail
        go_ret2
        exact ⟨⟨_, _, rfl, HX.out⟩, HB.out⟩

theorem place_any (A : Option Addr) (n c : Nat) (l : List E) (nm : ByteArray) (w : World) (hs : SeesE w (.slice A n c) l) (hn : l.length = n) (hsrt : Srt l) (hL : n ≤ 1000) :
    Calls Tryz.prog 111 #[.slice A n c, .string nm] w fun e w' =>
      (∃ (k : Nat) (b : Bool), e = .returned (.tuple #[.int .i64 (k : Int), .bool b]) ∧ Pl l nm k b) ∧ Below w.heap.size w w' := by
  have HC := Lib.hid (search_any A n c l nm w hs hn hsrt hL)
  clear hs hn hsrt
  go_enter Tryz.func111, Tryz.ntmps111
  go_wp2_with fail
  refine HC.out.mono ?_
  rintro e w' ⟨⟨k, b, rfl, hP⟩, hb⟩
  have HP := Lib.hid hP
  have HB := Lib.hid hb
  clear hP hb
  go_wp2_with fail
  go_ret2
  exact ⟨⟨_, _, rfl, HP.out⟩, HB.out⟩
end Go.Proofs.YtaklilhnikmmfaaGreat

/-
  The walks of slices.Clone over entries and operations, of with and changed.
-/
namespace Go.Proofs.YtaklilhnikmmfaaGreat
open Go.RowKit StrM DirM

/-- What slices.Clone returns: a row of the call's own. -/
def CloneE (l : List E) (w : World) (e : Ending) (w' : World) : Prop := ∃ v, e = .returned v ∧ OwnE w' w.heap.size v l ∧ Below w.heap.size w w'
def CloneO (l : List O) (w : World) (e : Ending) (w' : World) : Prop := ∃ v, e = .returned v ∧ OwnO w' w.heap.size v l ∧ Below w.heap.size w w'
theorem own_madeN (w : World) (e : TypeId) (sz : Nat) : (w.alloc (.cells #[] e)).ownsRow w.heap.size e sz (.slice (some ⟨w.heap.size, 0, none⟩) 0 0) 0 [] :=
  World.ownsRow_made w #[] 0 (Nat.le_refl _) (by decide) (by simp)

theorem cloneE_any (v : Value) (l : List E) (w : World) (hs : SeesE w v l) (hl : l.length ≤ 1000000) : Calls Tryz.prog 78 #[v] w (CloneE l w) := by
  obtain ⟨A, c, rfl, hc⟩ := SeesN.form hs
  cases A with
  | none =>
    have : l = [] := by
      cases l with
      | nil => rfl
      | cons x r => obtain ⟨g, off, h0, _⟩ := hs.cells (k := 0) (by simp); cases h0
    subst this
    clear hs
    have HP := Lib.hid (show CloneE [] w (.returned (.slice none 0 0)) w from ⟨_, rfl, World.ownsRow_nil _ _ _ _, Below.refl _ _⟩)
    have EQ := fun W => Go.Lib.run_eql_slice_nil (P := Tryz.prog) W 29 67 none 0 c 0 0 Tryz.underlying29
    go_enter Tryz.func78, Tryz.ntmps78
    go_wp2_with fail
    go_ret
    exact HP.out
  | some ad =>
    have HS := Lib.hid (SeesN.later hs (below_made w (.cells #[] 67)))
    have HO := Lib.hid (own_madeN w 67 2)
    have HL := Lib.hid hl
    obtain ⟨n, hn⟩ : ∃ n, n = l.length := ⟨_, rfl⟩
    rw [← hn] at HS HL ⊢
    have HN := Lib.hid hn
    clear hs hl hn
    have EQ := fun W => Go.Lib.run_eql_slice_nil (P := Tryz.prog) W 29 67 (some ad) n c 0 0 Tryz.underlying29
    go_enter Tryz.func78, Tryz.ntmps78
    go_wp2_with (at_builtin; refine append_n nEntry rfl (.tmp 5) (.tmp 6) rfl w.heap.size _ 0 [] rfl HO.out _ n (ecs l) rfl HS.out ?a0 (ecs_ones _) ?a1 ?a2 ?a3 ?_)
    case a0 => rw [HN.out]; exact ecs_len l
    case a1 => have := HL.out; omega
    case a2 => have := HL.out; unfold maxLen; omega
    case a3 => simp
    intro v' w' ho hb _
    have HP := Lib.hid (show CloneE l w (.returned v') w' from ⟨_, rfl, by show w'.ownsRow _ _ _ _ _ _; rw [← HN.out]; simpa using ho, (below_made w _).trans hb⟩)
    clear ho hb
    go_wp2_with fail
    go_ret
    exact HP.out

theorem cloneO_any (v : Value) (l : List O) (w : World) (hs : SeesO w v l) (hl : l.length ≤ 1000000) : Calls Tryz.prog 79 #[v] w (CloneO l w) := by
  obtain ⟨A, c, rfl, hc⟩ := SeesN.form hs
  cases A with
  | none =>
    have : l = [] := by
      cases l with
      | nil => rfl
      | cons x r => obtain ⟨g, off, h0, _⟩ := hs.cells (k := 0) (by simp); cases h0
    subst this
    clear hs
    have HP := Lib.hid (show CloneO [] w (.returned (.slice none 0 0)) w from ⟨_, rfl, World.ownsRow_nil _ _ _ _, Below.refl _ _⟩)
    have EQ := fun W => Go.Lib.run_eql_slice_nil (P := Tryz.prog) W 30 65 none 0 c 0 0 Tryz.underlying30
    go_enter Tryz.func79, Tryz.ntmps79
    go_wp2_with fail
    go_ret
    exact HP.out
  | some ad =>
    have HS := Lib.hid (SeesN.later hs (below_made w (.cells #[] 65)))
    have HO := Lib.hid (own_madeN w 65 4)
    have HL := Lib.hid hl
    obtain ⟨n, hn⟩ : ∃ n, n = l.length := ⟨_, rfl⟩
    rw [← hn] at HS HL ⊢
    have HN := Lib.hid hn
    clear hs hl hn
    have EQ := fun W => Go.Lib.run_eql_slice_nil (P := Tryz.prog) W 30 65 (some ad) n c 0 0 Tryz.underlying30
    go_enter Tryz.func79, Tryz.ntmps79
    go_wp2_with (at_builtin; refine append_n nOp rfl (.tmp 5) (.tmp 6) rfl w.heap.size _ 0 [] rfl HO.out _ n (ocs l) rfl HS.out ?a0 (ocs_ones _) ?a1 ?a2 ?a3 ?_)
    case a0 => rw [HN.out]; exact ocs_len l
    case a1 => have := HL.out; omega
    case a2 => have := HL.out; unfold maxLen; omega
    case a3 => simp
    intro v' w' ho hb _
    have HP := Lib.hid (show CloneO l w (.returned v') w' from ⟨_, rfl, by show w'.ownsRow _ _ _ _ _ _; rw [← HN.out]; simpa using ho, (below_made w _).trans hb⟩)
    clear ho hb
    go_wp2_with fail
    go_ret
    exact HP.out

theorem ecs_set (A B : List E) (x : E) (nd : Int) : (ecs (A ++ x :: B)).set (A.length * 2 + 1) (.int .i64 nd) = ecs (A ++ ⟨x.name, nd⟩ :: B) := by
  rw [ecs_add, ecs_add, List.set_append_right _ _ (by rw [ecs_len]; omega), ecs_len, show A.length * 2 + 1 - A.length * 2 = 1 by omega]
  rfl
set_option maxHeartbeats 2000000 in
set_option maxRecDepth 100000 in
theorem with_any (base : Nat) (v : Value) (l : List E) (nm : ByteArray) (nd : Int) (w : World) (hown : OwnE w base v l) (hsrt : Srt l) (hL : l.length ≤ 1000) (hbase : base ≤ w.heap.size) :
    Calls Tryz.prog 110 #[v, .string nm, .int .i64 nd] w (InsPost base (wi ⟨nm, nd⟩ (wo l nm)) w) := by
  obtain ⟨A, c, rfl, hc⟩ := (SeesN.of_own hown).form
  obtain ⟨n, hn⟩ : ∃ n, n = l.length := ⟨_, rfl⟩
  have HP := Lib.hid (place_any A l.length c l nm w (SeesE.of_own hown) rfl hsrt hL)
  have HO := Lib.hid (show w.ownsRow base 67 2 (.slice A n c) n (ecs l) by rw [hn]; exact hown)
  have HT := Lib.hid hsrt
  have HB := Lib.hid hbase
  have HN := Lib.hid hn
  rw [← hn] at HP hL hc ⊢
  clear hown hsrt hbase hn
  unfold InsPost
  go_enter Tryz.func110, Tryz.ntmps110
  go_wp2_with fail
  refine HP.out.mono ?_
  rintro e w1 ⟨⟨k, b, rfl, hP⟩, hb⟩
  have O1 := Lib.hid (own_belowN HO.out hb)
  have B1 := Lib.hid (hb.mono HB.out)
  have S1 := Lib.hid hb.size
  clear hb HP HO
  cases b with
  | true =>
    obtain ⟨hk, hnm, -⟩ := hP.node
    have HW := Lib.hid (hP.with_old HT.out nd)
    rcases O1.out.2 with ⟨h', h0⟩ | ⟨g, cap, cur, h', hbg, hg, _⟩
    · exfalso
      injection h' with _ h'
      rw [HN.out] at h'; omega
    · injection h' with h1 h2 h3
      subst h1
      have hc1 := (O1.out.cellAt (k * 2 + 1) (by rw [HN.out]; omega)).trans (ecs_at l hk).2
      have hf1 := O1.out.frozenAt (k * 2 + 1)
      obtain ⟨s1, s2⟩ := O1.out.stored (k * 2 + 1) (.int .i64 nd)
      have HS := Lib.hid (show OwnE (w1.setCell ⟨g, k * 2 + 1, none⟩ (.int .i64 nd)) base (.slice (some ⟨g, 0, none⟩) n c) (wi ⟨nm, nd⟩ (wo l nm)) by
        rw [HW.out]
        have e1 := Pl.cut hk
        have e2 : (l.take k).length = k := by rw [List.length_take]; omega
        have e3 : (ecs l).set (k * 2 + 1) (.int .i64 nd) = ecs (l.take k ++ ⟨nm, nd⟩ :: l.drop (k + 1)) := by
          have h := ecs_set (l.take k) (l.drop (k + 1)) l[k] nd
          rw [← e1, e2, hnm] at h
          exact h
        have e4 : (l.take k ++ ⟨nm, nd⟩ :: l.drop (k + 1)).length = n := by
          rw [List.length_append, List.length_cons, List.length_take, List.length_drop, HN.out]; omega
        rw [OwnE, e4, ← e3]
        exact s1)
      have HBS := Lib.hid (show Below base w (w1.setCell ⟨g, k * 2 + 1, none⟩ (.int .i64 nd)) from B1.out.setCell hbg _)
      have hkn : k < n := by rw [HN.out]; exact hk
      have hki : (k : Int) < (n : Int) := by omega
      generalize l[k].node = y at hc1
      clear hP hk hnm s1 s2 h2 h3 hg hbg
      go_wp2_with fail
      go_ret
      exact ⟨_, rfl, HS.out, HBS.out⟩
  | false =>
    have HW := Lib.hid (hP.with_new HT.out nd)
    have hkn := hP.1
    have O2 := Lib.hid (O1.out.alloc (.cells #[.string nm, .int .i64 nd] 67))
    have HI := Lib.hid (insert_any base w1.heap.size (.slice A n c) k l ⟨nm, nd⟩ (w1.alloc (.cells #[.string nm, .int .i64 nd] 67)) (by
        show World.ownsRow _ _ _ _ _ _ _
        rw [← HN.out]; exact O2.out) (EBox.made w1 nm nd) (fun e => by have := (O1.out.lt _ e).2; omega) hkn (by rw [← HN.out]; exact hL) (by have := HB.out; have := S1.out; simp; omega))
    have B2 := Lib.hid (B1.out.alloc (Nat.le_trans HB.out S1.out) (.cells #[.string nm, .int .i64 nd] 67))
    unfold InsPost at HI
    clear hP hkn
    go_wp2_with fail
    refine HI.out.mono ?_
    rintro e w2 ⟨v2, rfl, ho, hb⟩
    have HS := Lib.hid (show OwnE w2 base v2 (wi ⟨nm, nd⟩ (wo l nm)) by rw [HW.out]; exact ho)
    have HBS := Lib.hid (B2.out.trans hb)
    clear ho hb
    go_wp2_with fail
    go_ret
    exact ⟨_, rfl, HS.out, HBS.out⟩
end Go.Proofs.YtaklilhnikmmfaaGreat

/-
  The walks of changed, the faults of operations, and performed.
-/
namespace Go.Proofs.YtaklilhnikmmfaaGreat
open Go.RowKit StrM DirM

/-- A block with one operation. -/
def OBox (w : World) (q : Nat) (o : O) : Prop := w.heap[q]? = some (.cells #[.int .i64 o.kind, .string o.name, .string o.dst, .int .i64 o.node] 65 (0, 0))
theorem OBox.made (w : World) (o : O) : OBox (w.alloc (.cells #[.int .i64 o.kind, .string o.name, .string o.dst, .int .i64 o.node] 65)) w.heap.size o := heap_alloc_new w _
theorem OBox.lt {w : World} {q : Nat} {o : O} (h : OBox w q o) : q < w.heap.size := (Array.getElem?_eq_some_iff.1 h).1
theorem OBox.later {w w' : World} {q : Nat} {o : O} (h : OBox w q o) (hb : Below w.heap.size w w') : OBox w' q o := by
  have := hb.block q h.lt
  unfold OBox at h ⊢
  rw [this]; exact h
theorem OBox.cells {w : World} {q : Nat} {o : O} (h : OBox w q o) : w.cell? ⟨q, 0, none⟩ = some (.int .i64 o.kind) ∧ w.cell? ⟨q, 1, none⟩ = some (.string o.name) ∧ w.cell? ⟨q, 2, none⟩ = some (.string o.dst) ∧ w.cell? ⟨q, 3, none⟩ = some (.int .i64 o.node) := by
  unfold OBox at h
  refine ⟨?_, ?_, ?_, ?_⟩ <;> (rw [cell_of_row w q _ _ _ (0, 0) h]; rfl)
theorem OBox.soft {w : World} {q : Nat} {o : O} (h : OBox w q o) : ∀ j, w.frozen? ⟨q, j, none⟩ = false := by
  unfold OBox at h
  intro j; simp [World.frozen?, h]
/-- A block of an operation is no row of entries. -/
theorem OBox.stays {w w' : World} {q base n : Nat} {o : O} {v : Value} {xs : List Value} (h : OBox w q o) (ho : w.ownsRow base 67 2 v n xs) (hs : Stays w w' v) : OBox w' q o := by
  refine hs q _ h fun e => ?_
  rcases ho.2 with ⟨rfl, _⟩ | ⟨g, cap, cur, rfl, _, hg, _⟩
  · cases e
  · have e : q = g := by simpa [Value.ownBlock] using e
    subst e
    unfold OBox at h
    rw [h] at hg
    injection hg with hg
    injection hg with _ hg _
    cases hg

theorem delete_at (base g n cap i : Nat) (j : Int) (hj : j = (i : Int) + 1) (l : List E) (w : World) (hown : OwnE w base (.slice (some ⟨g, 0, none⟩) n cap) l) (hi : i < n) (hL : n ≤ 1000) :
    Calls Tryz.prog 112 #[.slice (some ⟨g, 0, none⟩) n cap, .int .i64 (i : Int), .int .i64 j] w (DelPost base g n cap i l w) := by
  have e : j = ((i + 1 : Nat) : Int) := by omega
  rw [e]
  exact delete_any base g n cap i l w hown hi hL

set_option maxHeartbeats 4000000 in
set_option maxRecDepth 100000 in
theorem changed_any (base : Nat) (v : Value) (l : List E) (o : O) (w : World) (hown : OwnE w base v l) (hsrt : Srt l) (hL : l.length ≤ 1000) (hbase : base ≤ w.heap.size) (he : err l o = 0) :
    Calls Tryz.prog 93 #[v, .agg #[.int .i64 o.kind, .string o.name, .string o.dst, .int .i64 o.node]] w (InsPost base (done l o) w) := by
  obtain ⟨A, c, rfl, hc⟩ := (SeesN.of_own hown).form
  have X0 := Lib.hid (OBox.made w o)
  have O0 := Lib.hid (hown.alloc (.cells #[.int .i64 o.kind, .string o.name, .string o.dst, .int .i64 o.node] 65))
  have B0 := Lib.hid ((Below.refl base w).alloc hbase (.cells #[.int .i64 o.kind, .string o.name, .string o.dst, .int .i64 o.node] 65))
  have hb0 : base ≤ (w.alloc (.cells #[.int .i64 o.kind, .string o.name, .string o.dst, .int .i64 o.node] 65)).heap.size := by simp; omega
  rcases err_kinds he with ⟨hk, h1, h2, h3⟩ | hk
  · have HW := Lib.hid (with_any base (.slice A l.length c) l o.name o.node _ O0.out hsrt hL hb0)
    have HD := Lib.hid (show done l o = wi ⟨o.name, o.node⟩ (wo l o.name) by rw [done, if_pos hk, wo_none h2])
    generalize done l o = res at *
    obtain ⟨kd, nm, ds, nd⟩ := o
    simp only at hk HW HD X0 O0 B0 hb0 ⊢
    subst hk
    generalize l.length = n at *
    clear he h1 h2 h3 hown hsrt hL hc
    unfold InsPost at HW ⊢
    go_enter Tryz.func93, Tryz.ntmps93
    go_wp2_with fail
    refine HW.out.mono ?_
    rintro e w2 ⟨v2, rfl, ho, hb⟩
    have HS := Lib.hid (show OwnE w2 base v2 res by rw [HD.out]; exact ho)
    have HBS := Lib.hid (B0.out.trans hb)
    clear ho hb
    go_wp2_with fail
    go_ret
    exact ⟨_, rfl, HS.out, HBS.out⟩
  · have hh : has l o.name = true := by
      rcases hk with ⟨_, h, _⟩ | ⟨_, h⟩ <;> exact h
    have HP := Lib.hid (place_any A l.length c l o.name _ (SeesE.of_own O0.out) rfl hsrt hL)
    have HT := Lib.hid hsrt
    have HH := Lib.hid hh
    obtain ⟨n, hn⟩ : ∃ n, n = l.length := ⟨_, rfl⟩
    have HN := Lib.hid hn
    have HD2 := Lib.hid (show o.kind = 2 → done l o = wi ⟨o.dst, fv l o.name⟩ (wo (wo l o.name) o.dst) from fun h => by rw [done, if_neg (by omega), if_pos h])
    have HD3 := Lib.hid (show o.kind = 3 → done l o = wo l o.name from fun h => by rw [done, if_neg (by omega), if_neg (by omega)])
    have hk' : o.kind = 2 ∨ o.kind = 3 := by
      rcases hk with ⟨h, _⟩ | ⟨h, _⟩
      · exact .inl h
      · exact .inr h
    generalize done l o = res at *
    have O0' := Lib.hid (show World.ownsRow _ base 67 2 (.slice A n c) n (ecs l) by rw [hn]; exact O0.out)
    rw [← hn] at HP hL ⊢
    obtain ⟨kd, nm, ds, nd⟩ := o
    simp only at hk' HP HD2 HD3 X0 O0' B0 hb0 HH ⊢
    have hk1 : (kd == 1) = false := by rcases hk' with rfl | rfl <;> rfl
    have hbw := hbase
    clear he hk hh hown hsrt hc hn O0
    unfold InsPost
    go_enter Tryz.func93, Tryz.ntmps93
    go_wp2_with fail
    refine HP.out.mono ?_
    rintro e w1 ⟨⟨k, b, rfl, hP⟩, hb⟩
    have hbt : b = true := by rw [hP.has_eq HT.out]; exact HH.out
    subst hbt
    have O1 := Lib.hid (own_belowN O0'.out hb)
    have X1 := Lib.hid (X0.out.later hb)
    have B1 := Lib.hid (B0.out.trans (hb.mono hb0))
    have S1 := Lib.hid (Nat.le_trans hb0 hb.size)
    clear hb HP O0' X0 B0 hb0
    obtain ⟨hk, hnm, hfv⟩ := hP.node
    have HWO := Lib.hid (hP.without HT.out)
    rcases O1.out.2 with ⟨h', h0⟩ | ⟨g, cap, cur, h', hbg, hg, _⟩
    · exfalso
      injection h' with _ h'
      rw [HN.out] at h'; omega
    · injection h' with h1 h2 h3
      subst h1
      have hc1 := (O1.out.cellAt (k * 2 + 1) (by rw [HN.out]; omega)).trans (ecs_at l hk).2
      rw [← hfv] at hc1
      have hkn : k < n := by rw [HN.out]; exact hk
      have hki : (k : Int) < (n : Int) := by omega
      have DE := Lib.hid (delete_at base g n c k ((k : Int) + 1) rfl l w1 (by show World.ownsRow _ _ _ _ _ _ _; rw [← HN.out]; exact O1.out) hkn hL)
      have HL1 := Lib.hid (show n - 1 = (wo l nm).length by rw [HWO.out, List.length_append, List.length_take, List.length_drop, HN.out]; omega)
      have HL2 := Lib.hid (show (wo l nm).length ≤ 1000 by rw [← HL1.out]; omega)
      generalize fv l nm = y at *
      clear hP hk hnm hfv h2 h3 hg hbg
      unfold DelPost at DE
      obtain ⟨x0, x1, x2, x3⟩ := X1.out.cells
      simp only at x0 x1 x2 x3
      go_wp2_with fail
      refine DE.out.mono ?_
      rintro e w2 ⟨rfl, ho2, hb2, hst⟩
      have X2 := Lib.hid (X1.out.stays O1.out hst)
      have O2 := Lib.hid (show OwnE w2 base (.slice (some ⟨g, 0, none⟩) (n - 1) c) (wo l nm) by rw [HWO.out]; exact ho2)
      have B2 := Lib.hid (B1.out.trans hb2)
      have S2 := Lib.hid (Nat.le_trans S1.out hb2.size)
      have HWW := Lib.hid (with_any base _ (wo l nm) ds y w2 O2.out (srt_wo HT.out nm) HL2.out S2.out)
      clear ho2 hb2 hst x0 x1 x2 x3 DE HWO
      generalize n - 1 = n' at *
      obtain ⟨x0, x1, x2, x3⟩ := X2.out.cells
      simp only at x0 x1 x2 x3
      unfold InsPost at HWW
      rcases hk' with rfl | rfl
      · have HD := Lib.hid (HD2.out rfl)
        clear HD2 HD3
        go_wp2_with fail
        refine HWW.out.mono ?_
        rintro e w3 ⟨v3, rfl, ho, hb⟩
        have HS := Lib.hid (show OwnE w3 base v3 res by rw [HD.out]; exact ho)
        have HBS := Lib.hid (B2.out.trans hb)
        clear ho hb
        go_wp2_with fail
        go_ret
        exact ⟨_, rfl, HS.out, HBS.out⟩
      · have HS := Lib.hid (show OwnE w2 base (.slice (some ⟨g, 0, none⟩) n' c) res by rw [HD3.out rfl]; exact O2.out)
        clear HD2 HD3
        go_wp2_with fail
        go_ret
        exact ⟨_, rfl, HS.out, B2.out⟩
end Go.Proofs.YtaklilhnikmmfaaGreat

/-
  The walks of the faults of operations, and of performed.
-/
namespace Go.Proofs.YtaklilhnikmmfaaGreat
open Go.RowKit StrM DirM

theorem ret_int10 {a b : Int} (h : a = b) : Ending.returned (.int .i64 a) = .returned (.int .i64 b) := by rw [h]
theorem name_ne {a b : ByteArray} (h : ¬ a = b) : (a.toList == b.toList) = false := by
  rw [beq_eq_false_iff_ne]; exact fun e => h (list_eq.1 e)

theorem unlinkFault_any (A : Option Addr) (n c : Nat) (l : List E) (nm : ByteArray) (w : World) (hs : SeesE w (.slice A n c) l) (hn : l.length = n) (hsrt : Srt l) (hL : n ≤ 1000) :
    Calls Tryz.prog 109 #[.slice A n c, .string nm] w fun e w' => e = .returned (.int .i64 (if has l nm = true then 0 else 5)) ∧ Below w.heap.size w w' := by
  have HP := Lib.hid (place_any A n c l nm w hs hn hsrt hL)
  have HT := Lib.hid hsrt
  clear hs hn hsrt hL
  generalize hr : (if has l nm = true then (0 : Int) else 5) = r
  have HR := Lib.hid hr
  clear hr
  go_enter Tryz.func109, Tryz.ntmps109
  go_wp2_with fail
  refine HP.out.mono ?_
  rintro e w1 ⟨⟨k, b, rfl, hP⟩, hb⟩
  have HH := Lib.hid (hP.has_eq HT.out)
  have HB := Lib.hid hb
  clear hP hb HP
  cases b with
  | true =>
    go_wp2_with fail
    go_ret
    exact ⟨ret_int10 (by rw [← HR.out, ← HH.out]; rfl), HB.out⟩
  | false =>
    go_wp2_with fail
    go_ret
    exact ⟨ret_int10 (by rw [← HR.out, ← HH.out]; rfl), HB.out⟩

theorem linkFault_any (A : Option Addr) (n c : Nat) (l : List E) (nm : ByteArray) (w : World) (hs : SeesE w (.slice A n c) l) (hn : l.length = n) (hsrt : Srt l) (hL : n ≤ 1000) :
    Calls Tryz.prog 107 #[.slice A n c, .string nm] w fun e w' => e = .returned (.int .i64 (if nameOk nm = true then (if has l nm = true then 6 else if 100 ≤ l.length then 7 else 0) else 1)) ∧ Below w.heap.size w w' := by
  have HP := Lib.hid (place_any A n c l nm w hs hn hsrt hL)
  have HT := Lib.hid hsrt
  have NA := Lib.hid (fun w => dname_any nm w)
  rw [hn]
  clear hs hn hsrt
  generalize hr : (if nameOk nm = true then (if has l nm = true then (6 : Int) else if 100 ≤ n then 7 else 0) else 1) = r
  have HR := Lib.hid hr
  clear hr
  cases hb : nameOk nm with
  | false =>
    rw [hb] at NA
    have HX := Lib.hid (show 1 = r by rw [← HR.out, if_neg (by rw [hb]; decide)])
    clear hb HR HP
    go_enter Tryz.func107, Tryz.ntmps107
    go_wp2_with fail
    refine (NA.out _).mono ?_
    rintro e w1 ⟨rfl, rfl⟩
    go_wp2_with fail
    go_ret
    exact ⟨ret_int10 HX.out, Below.refl _ _⟩
  | true =>
    rw [hb] at NA
    have HX := Lib.hid (show (if has l nm = true then (6 : Int) else if 100 ≤ n then 7 else 0) = r by rw [← HR.out, if_pos hb])
    clear hb HR
    go_enter Tryz.func107, Tryz.ntmps107
    go_wp2_with fail
    refine (NA.out _).mono ?_
    rintro e w1 ⟨rfl, rfl⟩
    go_wp2_with fail
    refine HP.out.mono ?_
    rintro e w1 ⟨⟨k, b, rfl, hP⟩, hb⟩
    have HH := Lib.hid (hP.has_eq HT.out)
    have HB := Lib.hid hb
    clear hP hb HP
    cases b with
    | true =>
      go_wp2_with fail
      go_ret
      exact ⟨ret_int10 (by rw [← HX.out, ← HH.out]; rfl), HB.out⟩
    | false =>
      by_cases h : 100 ≤ n
      · have h' : (100 : Int) ≤ (n : Int) := by omega
        go_wp2_with fail
        go_ret
        exact ⟨ret_int10 (by rw [← HX.out, ← HH.out, if_neg (by decide), if_pos h]), HB.out⟩
      · have h' : decide ((100 : Int) ≤ (n : Int)) = false := decide_eq_false (by omega)
        have h'' : decide (100 ≤ n) = false := decide_eq_false h
        go_wp2_with fail
        go_ret
        exact ⟨ret_int10 (by rw [← HX.out, ← HH.out, if_neg (by decide), if_neg h]), HB.out⟩

theorem moveFault_any (A : Option Addr) (n c : Nat) (l : List E) (nm ds : ByteArray) (w : World) (hs : SeesE w (.slice A n c) l) (hn : l.length = n) (hsrt : Srt l) (hL : n ≤ 1000) :
    Calls Tryz.prog 108 #[.slice A n c, .string nm, .string ds] w fun e w' => e = .returned (.int .i64 (if has l nm = true then (if nameOk ds = true ∧ ds ≠ nm then 0 else 1) else 5)) ∧ Below w.heap.size w w' := by
  have HU := Lib.hid (unlinkFault_any A n c l nm w hs hn hsrt hL)
  have NA := Lib.hid (fun w => dname_any ds w)
  clear hs hn hsrt hL
  generalize hr : (if has l nm = true then (if nameOk ds = true ∧ ds ≠ nm then (0 : Int) else 1) else 5) = r
  have HR := Lib.hid hr
  clear hr
  cases hh : has l nm with
  | false =>
    rw [hh] at HU
    have HX := Lib.hid (show 5 = r by rw [← HR.out, hh]; rfl)
    rw [if_neg (by decide)] at HU
    clear hh HR NA
    go_enter Tryz.func108, Tryz.ntmps108
    go_wp2_with fail
    refine HU.out.mono ?_
    rintro e w1 ⟨rfl, hb⟩
    have HB := Lib.hid hb
    clear hb
    go_wp2_with fail
    go_ret
    exact ⟨ret_int10 HX.out, HB.out⟩
  | true =>
    rw [hh] at HU
    rw [if_pos rfl] at HU
    have HX := Lib.hid (show (if nameOk ds = true ∧ ds ≠ nm then (0 : Int) else 1) = r by rw [← HR.out, hh]; rfl)
    clear hh HR
    cases hb : nameOk ds with
    | false =>
      rw [hb] at NA
      have HY := Lib.hid (show 1 = r by rw [← HX.out, if_neg (by rw [hb]; simp)])
      clear hb HX
      go_enter Tryz.func108, Tryz.ntmps108
      go_wp2_with fail
      refine HU.out.mono ?_
      rintro e w1 ⟨rfl, hb⟩
      have HB := Lib.hid hb
      clear hb
      go_wp2_with fail
      refine (NA.out _).mono ?_
      rintro e w2 ⟨rfl, rfl⟩
      go_wp2_with fail
      go_ret
      exact ⟨ret_int10 HY.out, HB.out⟩
    | true =>
      rw [hb] at NA
      by_cases hd : ds = nm
      · subst hd
        have HY := Lib.hid (show 1 = r by rw [← HX.out, if_neg (by simp)])
        clear hb HX
        go_enter Tryz.func108, Tryz.ntmps108
        go_wp2_with fail
        refine HU.out.mono ?_
        rintro e w1 ⟨rfl, hb⟩
        have HB := Lib.hid hb
        clear hb
        go_wp2_with fail
        refine (NA.out _).mono ?_
        rintro e w2 ⟨rfl, rfl⟩
        go_wp2_with fail
        go_ret
        exact ⟨ret_int10 HY.out, HB.out⟩
      · have HY := Lib.hid (show 0 = r by rw [← HX.out, if_pos ⟨hb, hd⟩])
        have hne := name_ne hd
        clear hb HX hd
        go_enter Tryz.func108, Tryz.ntmps108
        go_wp2_with fail
        refine HU.out.mono ?_
        rintro e w1 ⟨rfl, hb⟩
        have HB := Lib.hid hb
        clear hb
        go_wp2_with fail
        refine (NA.out _).mono ?_
        rintro e w2 ⟨rfl, rfl⟩
        go_wp2_with fail
        go_ret
        exact ⟨ret_int10 HY.out, HB.out⟩

set_option maxHeartbeats 1000000 in
theorem fault_any (A : Option Addr) (n c : Nat) (l : List E) (o : O) (w : World) (hs : SeesE w (.slice A n c) l) (hn : l.length = n) (hsrt : Srt l) (hL : n ≤ 1000) :
    Calls Tryz.prog 92 #[.slice A n c, .agg #[.int .i64 o.kind, .string o.name, .string o.dst, .int .i64 o.node]] w fun e w' => e = .returned (.int .i64 (err l o)) ∧ Below w.heap.size w w' := by
  have B0 := Lib.hid (below_made w (.cells #[.int .i64 o.kind, .string o.name, .string o.dst, .int .i64 o.node] 65))
  have L1 := Lib.hid (linkFault_any A n c l o.name _ (hs.later B0.out) hn hsrt hL)
  have L2 := Lib.hid (moveFault_any A n c l o.name o.dst _ (hs.later B0.out) hn hsrt hL)
  have L3 := Lib.hid (unlinkFault_any A n c l o.name _ (hs.later B0.out) hn hsrt hL)
  clear hs hn hsrt hL
  obtain ⟨kd, nm, ds, nd⟩ := o
  simp only at B0 L1 L2 L3 ⊢
  generalize hr : err l ⟨kd, nm, ds, nd⟩ = r
  have HR := Lib.hid hr
  clear hr
  unfold err at HR
  simp only at HR
  by_cases h1 : kd = 1
  · subst h1
    generalize (if nameOk nm = true then (if has l nm = true then (6 : Int) else if 100 ≤ l.length then 7 else 0) else 1) = r1 at *
    clear L2 L3
    have HE := Lib.hid (show r1 = r by have := HR.out; simpa using this)
    clear HR
    go_enter Tryz.func92, Tryz.ntmps92
    go_wp2_with fail
    refine L1.out.mono ?_
    rintro e w1 ⟨rfl, hb⟩
    have HB := Lib.hid (B0.out.trans (hb.mono B0.out.size))
    clear hb
    go_wp2_with fail
    go_ret
    exact ⟨ret_int10 HE.out, HB.out⟩
  · by_cases h2 : kd = 2
    · subst h2
      generalize (if has l nm = true then (if nameOk ds = true ∧ ds ≠ nm then (0 : Int) else 1) else 5) = r2 at *
      clear L1 L3 h1
      have HE := Lib.hid (show r2 = r by have := HR.out; simpa using this)
      clear HR
      go_enter Tryz.func92, Tryz.ntmps92
      go_wp2_with fail
      refine L2.out.mono ?_
      rintro e w1 ⟨rfl, hb⟩
      have HB := Lib.hid (B0.out.trans (hb.mono B0.out.size))
      clear hb
      go_wp2_with fail
      go_ret
      exact ⟨ret_int10 HE.out, HB.out⟩
    · by_cases h3 : kd = 3
      · subst h3
        have HE := Lib.hid (show (if has l nm = true then (0 : Int) else 5) = r by have := HR.out; simpa using this)
        clear HR
        generalize (if has l nm = true then (0 : Int) else 5) = r3 at *
        clear L1 L2 h1 h2
        go_enter Tryz.func92, Tryz.ntmps92
        go_wp2_with fail
        refine L3.out.mono ?_
        rintro e w1 ⟨rfl, hb⟩
        have HB := Lib.hid (B0.out.trans (hb.mono B0.out.size))
        clear hb
        go_wp2_with fail
        go_ret
        exact ⟨ret_int10 HE.out, HB.out⟩
      · have HE := Lib.hid (show 16 = r by have := HR.out; rw [if_neg h1, if_neg h2, if_neg h3] at this; exact this)
        have d1 : (kd == 1) = false := by simpa using h1
        have d2 : (kd == 2) = false := by simpa using h2
        have d3 : (kd == 3) = false := by simpa using h3
        clear L1 L2 L3 HR h1 h2 h3
        go_enter Tryz.func92, Tryz.ntmps92
        go_wp2_with fail
        go_ret
        exact ⟨ret_int10 HE.out, B0.out⟩

/-- What performed returns. -/
def PerfPost (r : List E × Int) (w : World) (e : Ending) (w' : World) : Prop := ∃ v, e = .returned (.tuple #[v, .int .i64 r.2]) ∧ OwnE w' w.heap.size v r.1 ∧ Below w.heap.size w w'

set_option maxHeartbeats 2000000 in
set_option maxRecDepth 100000 in
theorem performed_any (v u : Value) (l : List E) (os : List O) (w : World) (hs : SeesE w v l) (hu : SeesO w u os) (hord : Ord l) (hL : os.length ≤ 1000000) :
    Calls Tryz.prog 69 #[v, u] w (PerfPost (all l os) w) := by
  obtain ⟨A, c, rfl, hc⟩ := SeesN.form hs
  obtain ⟨A1, c1, rfl, hc1⟩ := SeesN.form hu
  obtain ⟨len, hn⟩ : ∃ len, len = os.length := ⟨_, rfl⟩
  have CL := Lib.hid (cloneE_any _ l w hs (by have := hord.few; omega))
  have HU := Lib.hid (fun W (hb : Below w.heap.size w W) => hu.later hb)
  have HR := Lib.hid hord
  have HN := Lib.hid hn
  rw [← hn] at HU hL ⊢
  clear hs hu hord hn hc hc1
  generalize l.length = n at *
  unfold CloneE at CL
  unfold PerfPost
  go_enter Tryz.func69, Tryz.ntmps69
  go_wp2_with fail
  refine CL.out.mono ?_
  rintro e w0 ⟨v0, rfl, ho0, hb0⟩
  have O0 := Lib.hid ho0
  have B0 := Lib.hid hb0
  clear ho0 hb0 CL
  go_wp2_with fail
  go_loopw [6, 14] (fun x i wr => ∃ (k : Nat) (cur : List E), k ≤ len ∧ i = .int .i64 (k : Int) ∧ all l (os.take k) = (cur, 0) ∧ OwnE wr w.heap.size x cur ∧ Below w.heap.size w wr) (fun _ i _ => len - (intOf i).toNat)
  case atStart => exact ⟨0, l, Nat.zero_le _, rfl, rfl, O0.out, B0.out⟩
  case round =>
    clear O0 B0
    obtain ⟨k, cur, hk, rfl, hall, ho, hb⟩ := hrel
    have HA := Lib.hid hall
    have HO := Lib.hid ho
    have HB := Lib.hid hb
    have OC := Lib.hid (show Ord cur by
      have := all_ord (os.take k) HR.out
      rw [hall] at this
      exact this rfl)
    clear hall ho hb
    by_cases hlt : k < len
    · have hkl : k < os.length := by rw [← HN.out]; exact hlt
      obtain ⟨g, off, rfl, hg, c0, c1', c2, c3⟩ := (HU.out _ HB.out).cells hkl
      obtain ⟨B, d, hx, hcB⟩ := (SeesN.of_own HO.out).form
      subst hx
      have NX := Lib.hid (all_next hkl HA.out)
      have ST := Lib.hid (all_stop hkl HA.out)
      generalize os[k] = o at *
      have BM := Lib.hid (below_made wr (.cells #[.int .i64 o.kind, .string o.name, .string o.dst, .int .i64 o.node] 65))
      have X1 := Lib.hid (OBox.made wr o)
      have O1 := Lib.hid (own_belowN HO.out BM.out)
      have B1 := Lib.hid (HB.out.trans (BM.out.mono HB.out.size))
      have FA := Lib.hid (fault_any B cur.length d cur o _ (SeesE.of_own O1.out) rfl OC.out.srt (by have := OC.out.few; omega))
      have CH := Lib.hid (fun W (h1 : OwnE W w.heap.size (.slice B cur.length d) cur) (h2 : w.heap.size ≤ W.heap.size) (h3 : err cur o = 0) => changed_any w.heap.size _ cur o W h1 OC.out.srt (by have := OC.out.few; omega) h2 h3)
      obtain ⟨m, hm⟩ : ∃ m, m = cur.length := ⟨_, rfl⟩
      rw [← hm] at FA CH HO O1 ⊢
      obtain ⟨kd, nm, ds, nd⟩ := o
      simp only at c0 c1' c2 c3 BM X1 O1 B1 FA CH NX ST
      have HM := Lib.hid hm
      clear hcB hm
      go_wp2_with fail
      refine FA.out.mono ?_
      rintro e w1 ⟨rfl, hb1⟩
      have X2 := Lib.hid (X1.out.later hb1)
      have O2 := Lib.hid (own_belowN O1.out hb1)
      have B2 := Lib.hid (B1.out.trans (hb1.mono B1.out.size))
      clear hb1 FA X1 O1 B1 BM
      obtain ⟨x0, x1, x2, x3⟩ := X2.out.cells
      simp only at x0 x1 x2 x3
      obtain ⟨r, hr⟩ : ∃ r, r = err cur ⟨kd, nm, ds, nd⟩ := ⟨_, rfl⟩
      rw [← hr] at NX ST CH ⊢
      by_cases h0 : r = 0
      · subst h0
        have CC := Lib.hid (CH.out w1 (by show World.ownsRow _ _ _ _ _ _ _; rw [← HM.out]; exact O2.out) B2.out.size rfl)
        have HX := Lib.hid (NX.out rfl)
        clear NX ST CH hr
        unfold InsPost at CC
        go_wp2_with fail
        refine CC.out.mono ?_
        rintro e w2 ⟨v2, rfl, ho2, hb2⟩
        have O3 := Lib.hid ho2
        have B3 := Lib.hid (B2.out.trans hb2)
        clear ho2 hb2
        go_wp2_with fail
        go_roundw
        case rel => exact ⟨k + 1, _, by omega, by go_num, HX.out, O3.out, B3.out⟩
        case measure => simp [intOf]; omega
      · have HX := Lib.hid (ST.out h0)
        have h0' : (r == 0) = false := by simpa using h0
        clear NX ST CH hr h0
        go_wp2_with fail
        go_ret2
        exact ⟨_, by rw [HX.out]; rfl, by rw [HX.out]; exact World.ownsRow_nil _ _ _ _, B2.out⟩
    · have HX := Lib.hid (show all l os = (cur, 0) by
        have h := HA.out
        rw [List.take_of_length_le (by rw [← HN.out]; omega)] at h
        exact h)
      go_wp2_with fail
      go_ret2
      exact ⟨_, by rw [HX.out]; rfl, by rw [HX.out]; exact HO.out, HB.out⟩
end Go.Proofs.YtaklilhnikmmfaaGreat

/-
  Directories in memory.
-/
namespace Go.Proofs.YtaklilhnikmmfaaGreat
open Go.RowKit StrM DirM

/-- A directory, as a value that is read. -/
def SeesD (w : World) (v : Value) (d : D) : Prop := ∃ N S V, v = .agg #[N, S, V] ∧ SeesE w N d.now ∧ SeesE w S d.sure ∧ SeesO w V d.pend
theorem SeesD.later {w w' : World} {v : Value} {d : D} (h : SeesD w v d) (hb : Below w.heap.size w w') : SeesD w' v d := by
  obtain ⟨N, S, V, e, h1, h2, h3⟩ := h
  exact ⟨N, S, V, e, h1.later hb, h2.later hb, h3.later hb⟩
theorem SeesD.slices {w : World} {v : Value} {d : D} (h : SeesD w v d) : ∃ A0 c0 A1 c1 A2 c2, v = .agg #[.slice A0 d.now.length c0, .slice A1 d.sure.length c1, .slice A2 d.pend.length c2] ∧
    SeesE w (.slice A0 d.now.length c0) d.now ∧ SeesE w (.slice A1 d.sure.length c1) d.sure ∧ SeesO w (.slice A2 d.pend.length c2) d.pend := by
  obtain ⟨N, S, V, e, h1, h2, h3⟩ := h
  obtain ⟨A0, c0, rfl, -⟩ := SeesN.form h1
  obtain ⟨A1, c1, rfl, -⟩ := SeesN.form h2
  obtain ⟨A2, c2, rfl, -⟩ := SeesN.form h3
  exact ⟨A0, c0, A1, c1, A2, c2, e, h1, h2, h3⟩
theorem seesE_nil (w : World) : SeesE w (.slice none 0 0) [] := SeesN.nil w
theorem seesO_nil (w : World) : SeesO w (.slice none 0 0) [] := SeesN.nil w
theorem SeesD.zero (w : World) : SeesD w (.agg #[.slice none 0 0, .slice none 0 0, .slice none 0 0]) zd := ⟨_, _, _, rfl, seesE_nil w, seesE_nil w, seesO_nil w⟩

/-- The block of a directory, known whole. -/
def DBox (w : World) (q : Nat) (N S V : Value) : Prop := w.heap[q]? = some (.cells #[N, S, V] 32 (0, 0))
theorem DBox.made (w : World) (N S V : Value) : DBox (w.alloc (.cells #[N, S, V] 32)) w.heap.size N S V := heap_alloc_new w _
theorem DBox.lt {w : World} {q : Nat} {N S V : Value} (h : DBox w q N S V) : q < w.heap.size := (Array.getElem?_eq_some_iff.1 h).1
theorem DBox.later {w w' : World} {q : Nat} {N S V : Value} (h : DBox w q N S V) (hb : Below w.heap.size w w') : DBox w' q N S V := by
  have := hb.block q h.lt
  unfold DBox at h ⊢
  rw [this]; exact h
theorem DBox.cells {w : World} {q : Nat} {N S V : Value} (h : DBox w q N S V) : w.cell? ⟨q, 0, none⟩ = some N ∧ w.cell? ⟨q, 1, none⟩ = some S ∧ w.cell? ⟨q, 2, none⟩ = some V := by
  unfold DBox at h
  refine ⟨?_, ?_, ?_⟩ <;> (rw [cell_of_row w q _ _ _ (0, 0) h]; rfl)
theorem DBox.soft {w : World} {q : Nat} {N S V : Value} (h : DBox w q N S V) : w.frozen? ⟨q, 0, none⟩ = false ∧ w.frozen? ⟨q, 1, none⟩ = false ∧ w.frozen? ⟨q, 2, none⟩ = false := by
  unfold DBox at h
  refine ⟨?_, ?_, ?_⟩ <;> simp [World.frozen?, h]
/-- All three cells are stored. -/
def dset (w : World) (q : Nat) (N S V : Value) : World := ((w.setCell ⟨q, 0, none⟩ N).setCell ⟨q, 1, none⟩ S).setCell ⟨q, 2, none⟩ V
theorem DBox.set {w : World} {q : Nat} {N S V : Value} (h : DBox w q N S V) (N' S' V' : Value) : DBox (dset w q N' S' V') q N' S' V' := by
  have h1 := heap_setCell_same w q 0 _ _ N' h
  have h2 := heap_setCell_same _ q 1 _ _ S' h1
  exact heap_setCell_same _ q 2 _ _ V' h2
theorem dset_below {w W : World} {base q : Nat} (hb : Below base w W) (hq : base ≤ q) (N S V : Value) : Below base w (dset W q N S V) := ((hb.setCell hq _).setCell hq _).setCell hq _
theorem dset_other {w : World} {q g : Nat} (hne : g ≠ q) (N S V : Value) : (dset w q N S V).heap[g]? = w.heap[g]? := by
  have h : ∀ (W : World) (i : Nat) (u : Value), (W.setCell ⟨q, i, none⟩ u).heap[g]? = W.heap[g]? := fun W i u => by
    simp [World.setCell, Array.getElem?_modify, Ne.symm hne]
  unfold dset
  rw [h, h, h]
theorem dset_cell {w : World} {q g i : Nat} (hne : g ≠ q) (N S V : Value) : (dset w q N S V).cell? ⟨g, i, none⟩ = w.cell? ⟨g, i, none⟩ := by
  simp only [World.cell?, dset_other hne]
theorem dset_size (w : World) (q : Nat) (N S V : Value) : (dset w q N S V).heap.size = w.heap.size := by simp [dset]
/-- A cell that is no slice is no cell of a directory's block. -/
theorem DBox.apart {w : World} {q : Nat} {A0 A1 A2 : Option Addr} {n0 n1 n2 c0 c1 c2 : Nat} (h : DBox w q (.slice A0 n0 c0) (.slice A1 n1 c1) (.slice A2 n2 c2)) {g i : Nat} {c : Value} (hc : w.cell? ⟨g, i, none⟩ = some c) (hx : ∀ a m k, c ≠ .slice a m k) : g ≠ q := by
  intro e
  subst e
  unfold DBox at h
  rw [cell_of_row w g _ _ _ (0, 0) h] at hc
  match i, hc with
  | 0, hc => simp at hc; exact hx _ _ _ hc.symm
  | 1, hc => simp at hc; exact hx _ _ _ hc.symm
  | 2, hc => simp at hc; exact hx _ _ _ hc.symm
  | i + 3, hc => simp at hc
theorem SeesN.dset {w : World} {q : Nat} {A0 A1 A2 : Option Addr} {n0 n1 n2 c0 c1 c2 : Nat} {v : Value} {n : Nat} {xs : List Value} (h : SeesN w v n xs) (hq : DBox w q (.slice A0 n0 c0) (.slice A1 n1 c1) (.slice A2 n2 c2))
    (hx : ∀ c, xs[0]? = some c → ∀ a m k, c ≠ .slice a m k) (N S V : Value) : SeesN (dset w q N S V) v n xs := by
  obtain ⟨a, cap, rfl, hn, h0 | ⟨g, off, rfl, hg, hc⟩⟩ := h
  · exact ⟨a, cap, rfl, hn, .inl h0⟩
  · cases xs with
    | nil => exact ⟨_, cap, rfl, hn, .inl rfl⟩
    | cons x r =>
      have hne : g ≠ q := hq.apart (hc 0 x rfl) (hx x rfl)
      exact ⟨_, cap, rfl, hn, .inr ⟨g, off, rfl, by rw [dset_size]; exact hg, fun k c hk => by rw [dset_cell hne]; exact hc k c hk⟩⟩
theorem ecs_first (l : List E) : ∀ c, (ecs l)[0]? = some c → ∀ a m k, c ≠ .slice a m k := by
  cases l with
  | nil => intro c h; cases h
  | cons x r => intro c h; rw [ecs_cons] at h; cases h; intro a m k e; cases e
theorem ocs_first (l : List O) : ∀ c, (ocs l)[0]? = some c → ∀ a m k, c ≠ .slice a m k := by
  cases l with
  | nil => intro c h; cases h
  | cons x r => intro c h; rw [ocs_cons] at h; cases h; intro a m k e; cases e
theorem SeesE.dset {w : World} {q : Nat} {A0 A1 A2 : Option Addr} {n0 n1 n2 c0 c1 c2 : Nat} {v : Value} {l : List E} (h : SeesE w v l) (hq : DBox w q (.slice A0 n0 c0) (.slice A1 n1 c1) (.slice A2 n2 c2)) (N S V : Value) : SeesE (dset w q N S V) v l := SeesN.dset h hq (ecs_first l) N S V
theorem SeesO.dset {w : World} {q : Nat} {A0 A1 A2 : Option Addr} {n0 n1 n2 c0 c1 c2 : Nat} {v : Value} {l : List O} (h : SeesO w v l) (hq : DBox w q (.slice A0 n0 c0) (.slice A1 n1 c1) (.slice A2 n2 c2)) (N S V : Value) : SeesO (dset w q N S V) v l := SeesN.dset h hq (ocs_first l) N S V
theorem SeesD.dset {w : World} {q : Nat} {A0 A1 A2 : Option Addr} {n0 n1 n2 c0 c1 c2 : Nat} {v : Value} {d : D} (h : SeesD w v d) (hq : DBox w q (.slice A0 n0 c0) (.slice A1 n1 c1) (.slice A2 n2 c2)) (N S V : Value) : SeesD (dset w q N S V) v d := by
  obtain ⟨N', S', V', e, h1, h2, h3⟩ := h
  exact ⟨N', S', V', e, h1.dset hq N S V, h2.dset hq N S V, h3.dset hq N S V⟩

/-- The first operations of a slice of them. -/
theorem SeesO.cut {w : World} {A : Option Addr} {n c : Nat} {l : List O} (h : SeesO w (.slice A n c) l) {k : Nat} (hk : k ≤ l.length) : SeesO w (.slice A k c) (l.take k) := by
  obtain ⟨a, cap, e, hn, h⟩ := h
  injection e with e1 e2 e3
  subst e1 e2 e3
  have hl : (l.take k).length = k := by rw [List.length_take]; omega
  refine ⟨A, c, by rw [hl], by rw [hl]; omega, ?_⟩
  rcases h with h0 | ⟨g, off, rfl, hg, hc⟩
  · left
    have : l = [] := by
      cases l with
      | nil => rfl
      | cons x r => rw [ocs_cons] at h0; cases h0
    subst this
    rw [List.take_nil]; rfl
  · refine .inr ⟨g, off, rfl, hg, fun j u hj => hc j u ?_⟩
    rw [← ocs_take l k hk, List.getElem?_take] at hj
    split at hj
    · exact hj
    · cases hj

/-- What a function that hands back a directory returns; one that hands back an error too. -/
def DPost (d : D) (w : World) (e : Ending) (w' : World) : Prop := ∃ v, e = .returned v ∧ SeesD w' v d ∧ Below w.heap.size w w'
def DEPost (d : D) (k : Int) (w : World) (e : Ending) (w' : World) : Prop := ∃ v, e = .returned (.tuple #[v, .int .i64 k]) ∧ SeesD w' v d ∧ Below w.heap.size w w'
end Go.Proofs.YtaklilhnikmmfaaGreat

/-
  The walks of slices.Equal over entries, of ordered, Right and Find, and of the reference's Entries.
-/
namespace Go.Proofs.YtaklilhnikmmfaaGreat
open Go.RowKit StrM DirM

theorem take_all {α : Type} {l1 l2 : List α} {k : Nat} (hk : k = l1.length) (hl : l1.length = l2.length) (h : l1.take k = l2.take k) : l1 = l2 := by
  rw [List.take_of_length_le (by omega), List.take_of_length_le (by omega)] at h
  exact h
theorem take_next {α : Type} {l1 l2 : List α} {k : Nat} (h1 : k < l1.length) (h2 : k < l2.length) (h : l1.take k = l2.take k) (e : l1[k] = l2[k]) : l1.take (k + 1) = l2.take (k + 1) := by
  rw [List.take_succ_eq_append_getElem h1, List.take_succ_eq_append_getElem h2, h, e]
theorem below_drewNN (w : World) (m k : Nat) : Below w.heap.size w ((w.drewN m).drewN k) := (below_drewN w m).trans ((below_drewN (w.drewN m) k).mono (below_drewN w m).size)
theorem ne_at {α : Type} {l1 l2 : List α} {k : Nat} (h1 : k < l1.length) (h2 : k < l2.length) (e : l1[k] ≠ l2[k]) : l1 ≠ l2 := by
  rintro rfl; exact e rfl

set_option maxHeartbeats 2000000 in
set_option maxRecDepth 100000 in
theorem sequal_any (v1 v2 : Value) (l1 l2 : List E) (w : World) (h1 : SeesE w v1 l1) (h2 : SeesE w v2 l2) (hn : l1.length ≤ 1000000) :
    Calls Tryz.prog 91 #[v1, v2] w fun e w' => e = .returned (.bool (decide (l1 = l2))) ∧ Below w.heap.size w w' := by
  obtain ⟨A1, c1, rfl, -⟩ := SeesN.form h1
  obtain ⟨A2, c2, rfl, -⟩ := SeesN.form h2
  obtain ⟨n, hnn⟩ : ∃ n, n = l1.length := ⟨_, rfl⟩
  obtain ⟨m, hmm⟩ : ∃ n, n = l2.length := ⟨_, rfl⟩
  rw [← hnn] at h1 hn ⊢
  rw [← hmm] at h2 ⊢
  have G1 := Lib.hid h1
  have G2 := Lib.hid h2
  have HN := Lib.hid hnn
  have HM := Lib.hid hmm
  clear h1 h2 hnn hmm
  obtain ⟨r, hr⟩ : ∃ r, r = decide (l1 = l2) := ⟨_, rfl⟩
  rw [← hr]
  have HR := Lib.hid hr
  clear hr
  by_cases hnm : n = m
  · subst hnm
    go_enter Tryz.func91, Tryz.ntmps91
    go_wp2_with fail
    go_loopw [13] (fun i wr => ∃ k m : Nat, k ≤ n ∧ i = .int .i64 (k : Int) ∧ wr = w.drewN m ∧ l1.take k = l2.take k) (fun i _ => n - (intOf i).toNat)
    case atStart => exact ⟨0, 0, Nat.zero_le _, rfl, rfl, rfl⟩
    case round =>
      obtain ⟨k, m, hk, rfl, rfl, ht⟩ := hrel
      have HT := Lib.hid ht
      clear ht
      by_cases hlt : k < n
      · have k1 : k < l1.length := by rw [← HN.out]; exact hlt
        have k2 : k < l2.length := by rw [← HM.out]; exact hlt
        obtain ⟨g, off, rfl, hg, hc1, hc2⟩ := G1.out.cells k1
        obtain ⟨g', off', rfl, hg', hd1, hd2⟩ := G2.out.cells k2
        have UP := Lib.hid (take_next k1 k2 HT.out)
        have NE := Lib.hid (ne_at k1 k2)
        generalize l1[k] = x at *
        generalize l2[k] = y at *
        obtain ⟨xn, xm⟩ := x
        obtain ⟨yn, ym⟩ := y
        simp only at hc1 hc2 hd1 hd2
        have hlt' : (k : Int) < (n : Int) := by omega
        by_cases e1 : xn = yn
        · subst e1
          by_cases e2 : xm = ym
          · subst e2
            have HX := Lib.hid (UP.out rfl)
            clear UP NE
            go_wp2_with fail
            go_quiet (fail)
            go_wp2_with fail
            go_roundw
            case rel => exact ⟨k + 1, _, by omega, by go_num, rfl, HX.out⟩
            case measure => simp [intOf]; omega
          · have HX := Lib.hid (show false = r by rw [HR.out, decide_eq_false (NE.out (by simp [e2]))])
            have d2 : (xm == ym) = false := by simpa using e2
            clear UP NE
            go_wp2_with fail
            go_quiet (fail)
            go_wp2_with fail
            go_ret
            exact ⟨ret_bool HX.out, below_drewNN _ _ _⟩
        · have HX := Lib.hid (show false = r by rw [HR.out, decide_eq_false (NE.out (by simp [e1]))])
          have d1 := name_ne e1
          clear UP NE
          go_wp2_with fail
          go_quiet (fail)
          go_wp2_with fail
          go_ret
          exact ⟨ret_bool HX.out, below_drewNN _ _ _⟩
      · have HX := Lib.hid (show true = r by rw [HR.out, decide_eq_true (take_all (k := k) (by rw [← HN.out]; omega) (by rw [← HN.out, ← HM.out]) HT.out)])
        go_wp2_with fail
        go_ret
        exact ⟨ret_bool HX.out, below_drewN _ _⟩
  · have HX := Lib.hid (show false = r by rw [HR.out, decide_eq_false (by rintro rfl; exact hnm (by rw [HN.out, HM.out]))])
    have d1 : ((n : Int) == (m : Int)) = false := by simp; omega
    go_enter Tryz.func91, Tryz.ntmps91
    go_wp2_with fail
    go_ret
    exact ⟨ret_bool HX.out, Below.refl _ _⟩

set_option maxHeartbeats 2000000 in
set_option maxRecDepth 100000 in
theorem rentries_any (v1 v2 : Value) (l1 l2 : List E) (w : World) (h1 : SeesE w v1 l1) (h2 : SeesE w v2 l2) (hn : l1.length ≤ 1000000) :
    Calls Tryz.prog 102 #[v1, v2] w fun e w' => e = .returned (.bool (decide (l1 = l2))) ∧ Below w.heap.size w w' := by
  obtain ⟨A1, c1, rfl, -⟩ := SeesN.form h1
  obtain ⟨A2, c2, rfl, -⟩ := SeesN.form h2
  obtain ⟨n, hnn⟩ : ∃ n, n = l1.length := ⟨_, rfl⟩
  obtain ⟨m, hmm⟩ : ∃ n, n = l2.length := ⟨_, rfl⟩
  rw [← hnn] at h1 hn ⊢
  rw [← hmm] at h2 ⊢
  have G1 := Lib.hid h1
  have G2 := Lib.hid h2
  have HN := Lib.hid hnn
  have HM := Lib.hid hmm
  clear h1 h2 hnn hmm
  obtain ⟨r, hr⟩ : ∃ r, r = decide (l1 = l2) := ⟨_, rfl⟩
  rw [← hr]
  have HR := Lib.hid hr
  clear hr
  by_cases hnm : n = m
  · subst hnm
    go_enter Tryz.func102, Tryz.ntmps102
    go_wp2_with fail
    go_loopw [5] (fun i wr => ∃ k m : Nat, k ≤ n ∧ i = .int .i64 (k : Int) ∧ wr = w.drewN m ∧ l1.take k = l2.take k) (fun i _ => n - (intOf i).toNat)
    case atStart => exact ⟨0, 0, Nat.zero_le _, rfl, rfl, rfl⟩
    case round =>
      obtain ⟨k, m, hk, rfl, rfl, ht⟩ := hrel
      have HT := Lib.hid ht
      clear ht
      by_cases hlt : k < n
      · have k1 : k < l1.length := by rw [← HN.out]; exact hlt
        have k2 : k < l2.length := by rw [← HM.out]; exact hlt
        obtain ⟨g, off, rfl, hg, hc1, hc2⟩ := G1.out.cells k1
        obtain ⟨g', off', rfl, hg', hd1, hd2⟩ := G2.out.cells k2
        have UP := Lib.hid (take_next k1 k2 HT.out)
        have NE := Lib.hid (ne_at k1 k2)
        generalize l1[k] = x at *
        generalize l2[k] = y at *
        obtain ⟨xn, xm⟩ := x
        obtain ⟨yn, ym⟩ := y
        simp only at hc1 hc2 hd1 hd2
        have hlt' : (k : Int) < (n : Int) := by omega
        by_cases e1 : xn = yn
        · subst e1
          by_cases e2 : xm = ym
          · subst e2
            have HX := Lib.hid (UP.out rfl)
            clear UP NE
            go_wp2_with fail
            go_quiet (fail)
            go_wp2_with fail
            go_roundw
            case rel => exact ⟨k + 1, _, by omega, by go_num, rfl, HX.out⟩
            case measure => simp [intOf]; omega
          · have HX := Lib.hid (show false = r by rw [HR.out, decide_eq_false (NE.out (by simp [e2]))])
            have d2 : (xm == ym) = false := by simpa using e2
            clear UP NE
            go_wp2_with fail
            go_quiet (fail)
            go_wp2_with fail
            go_ret
            exact ⟨ret_bool HX.out, below_drewNN _ _ _⟩
        · have HX := Lib.hid (show false = r by rw [HR.out, decide_eq_false (NE.out (by simp [e1]))])
          have d1 := name_ne e1
          clear UP NE
          go_wp2_with fail
          go_quiet (fail)
          go_wp2_with fail
          go_ret
          exact ⟨ret_bool HX.out, below_drewNN _ _ _⟩
      · have HX := Lib.hid (show true = r by rw [HR.out, decide_eq_true (take_all (k := k) (by rw [← HN.out]; omega) (by rw [← HN.out, ← HM.out]) HT.out)])
        go_wp2_with fail
        go_ret
        exact ⟨ret_bool HX.out, below_drewN _ _⟩
  · have HX := Lib.hid (show false = r by rw [HR.out, decide_eq_false (by rintro rfl; exact hnm (by rw [HN.out, HM.out]))])
    have d1 : ((n : Int) == (m : Int)) = false := by simp; omega
    go_enter Tryz.func102, Tryz.ntmps102
    go_wp2_with fail
    go_ret
    exact ⟨ret_bool HX.out, Below.refl _ _⟩
end Go.Proofs.YtaklilhnikmmfaaGreat
