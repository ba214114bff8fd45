/-
  The walks of slices.Clone over entries and operations, of with and changed.
-/
import Derived.Test.YtaklilhnikmmfaaGreatDirIns
import Derived.Test.YtaklilhnikmmfaaGreatDirPlace
import Derived.WalkLawsBesides
namespace Go.Proofs.YtaklilhnikmmfaaGreat
open Go.RowKit StrM DirM

/-- What slices.Clone returns: a row of the call's own. -/
def CloneE (l : List E) (w : World) (e : Ending) (w' : World) : Prop := ∃ v, e = .returned v ∧ OwnE w' w.heap.size v l ∧ Below w.heap.size w w'
def CloneO (l : List O) (w : World) (e : Ending) (w' : World) : Prop := ∃ v, e = .returned v ∧ OwnO w' w.heap.size v l ∧ Below w.heap.size w w'
theorem own_madeN (w : World) (e : TypeId) (sz : Nat) : (w.alloc (.cells #[] e)).ownsRow w.heap.size e sz (.slice (some ⟨w.heap.size, 0, none⟩) 0 0) 0 [] :=
  World.ownsRow_made w #[] 0 (Nat.le_refl _) (by decide) (by simp)

theorem cloneE_any (v : Value) (l : List E) (w : World) (hs : SeesE w v l) (hl : l.length ≤ 1000000) : Calls Tryz.prog 78 #[v] w (CloneE l w) := by
  obtain ⟨A, c, rfl, hc⟩ := SeesN.form hs
  cases A with
  | none =>
    have : l = [] := by
      cases l with
      | nil => rfl
      | cons x r => obtain ⟨g, off, h0, _⟩ := hs.cells (k := 0) (by simp); cases h0
    subst this
    clear hs
    have HP := Lib.hid (show CloneE [] w (.returned (.slice none 0 0)) w from ⟨_, rfl, World.ownsRow_nil _ _ _ _, Below.refl _ _⟩)
    have EQ := fun W => Go.Lib.run_eql_slice_nil (P := Tryz.prog) W 29 67 none 0 c 0 0 Tryz.underlying29
    go_enter Tryz.func78, Tryz.ntmps78
    go_wp2_with fail
    go_ret
    exact HP.out
  | some ad =>
    have HS := Lib.hid (SeesN.later hs (below_made w (.cells #[] 67)))
    have HO := Lib.hid (own_madeN w 67 2)
    have HL := Lib.hid hl
    obtain ⟨n, hn⟩ : ∃ n, n = l.length := ⟨_, rfl⟩
    rw [← hn] at HS HL ⊢
    have HN := Lib.hid hn
    clear hs hl hn
    have EQ := fun W => Go.Lib.run_eql_slice_nil (P := Tryz.prog) W 29 67 (some ad) n c 0 0 Tryz.underlying29
    go_enter Tryz.func78, Tryz.ntmps78
    go_wp2_with (at_builtin; refine append_n nEntry rfl (.tmp 5) (.tmp 6) rfl w.heap.size _ 0 [] rfl HO.out _ n (ecs l) rfl HS.out ?a0 (ecs_ones _) ?a1 ?a2 ?a3 ?_)
    case a0 => rw [HN.out]; exact ecs_len l
    case a1 => have := HL.out; omega
    case a2 => have := HL.out; unfold maxLen; omega
    case a3 => simp
    intro v' w' ho hb _
    have HP := Lib.hid (show CloneE l w (.returned v') w' from ⟨_, rfl, by show w'.ownsRow _ _ _ _ _ _; rw [← HN.out]; simpa using ho, (below_made w _).trans hb⟩)
    clear ho hb
    go_wp2_with fail
    go_ret
    exact HP.out

theorem cloneO_any (v : Value) (l : List O) (w : World) (hs : SeesO w v l) (hl : l.length ≤ 1000000) : Calls Tryz.prog 79 #[v] w (CloneO l w) := by
  obtain ⟨A, c, rfl, hc⟩ := SeesN.form hs
  cases A with
  | none =>
    have : l = [] := by
      cases l with
      | nil => rfl
      | cons x r => obtain ⟨g, off, h0, _⟩ := hs.cells (k := 0) (by simp); cases h0
    subst this
    clear hs
    have HP := Lib.hid (show CloneO [] w (.returned (.slice none 0 0)) w from ⟨_, rfl, World.ownsRow_nil _ _ _ _, Below.refl _ _⟩)
    have EQ := fun W => Go.Lib.run_eql_slice_nil (P := Tryz.prog) W 30 65 none 0 c 0 0 Tryz.underlying30
    go_enter Tryz.func79, Tryz.ntmps79
    go_wp2_with fail
    go_ret
    exact HP.out
  | some ad =>
    have HS := Lib.hid (SeesN.later hs (below_made w (.cells #[] 65)))
    have HO := Lib.hid (own_madeN w 65 4)
    have HL := Lib.hid hl
    obtain ⟨n, hn⟩ : ∃ n, n = l.length := ⟨_, rfl⟩
    rw [← hn] at HS HL ⊢
    have HN := Lib.hid hn
    clear hs hl hn
    have EQ := fun W => Go.Lib.run_eql_slice_nil (P := Tryz.prog) W 30 65 (some ad) n c 0 0 Tryz.underlying30
    go_enter Tryz.func79, Tryz.ntmps79
    go_wp2_with (at_builtin; refine append_n nOp rfl (.tmp 5) (.tmp 6) rfl w.heap.size _ 0 [] rfl HO.out _ n (ocs l) rfl HS.out ?a0 (ocs_ones _) ?a1 ?a2 ?a3 ?_)
    case a0 => rw [HN.out]; exact ocs_len l
    case a1 => have := HL.out; omega
    case a2 => have := HL.out; unfold maxLen; omega
    case a3 => simp
    intro v' w' ho hb _
    have HP := Lib.hid (show CloneO l w (.returned v') w' from ⟨_, rfl, by show w'.ownsRow _ _ _ _ _ _; rw [← HN.out]; simpa using ho, (below_made w _).trans hb⟩)
    clear ho hb
    go_wp2_with fail
    go_ret
    exact HP.out

theorem ecs_set (A B : List E) (x : E) (nd : Int) : (ecs (A ++ x :: B)).set (A.length * 2 + 1) (.int .i64 nd) = ecs (A ++ ⟨x.name, nd⟩ :: B) := by
  rw [ecs_add, ecs_add, List.set_append_right _ _ (by rw [ecs_len]; omega), ecs_len, show A.length * 2 + 1 - A.length * 2 = 1 by omega]
  rfl
set_option maxHeartbeats 2000000 in
set_option maxRecDepth 100000 in
theorem with_any (base : Nat) (v : Value) (l : List E) (nm : ByteArray) (nd : Int) (w : World) (hown : OwnE w base v l) (hsrt : Srt l) (hL : l.length ≤ 1000) (hbase : base ≤ w.heap.size) :
    Calls Tryz.prog 110 #[v, .string nm, .int .i64 nd] w (InsPost base (wi ⟨nm, nd⟩ (wo l nm)) w) := by
  obtain ⟨A, c, rfl, hc⟩ := (SeesN.of_own hown).form
  obtain ⟨n, hn⟩ : ∃ n, n = l.length := ⟨_, rfl⟩
  have HP := Lib.hid (place_any A l.length c l nm w (SeesE.of_own hown) rfl hsrt hL)
  have HO := Lib.hid (show w.ownsRow base 67 2 (.slice A n c) n (ecs l) by rw [hn]; exact hown)
  have HT := Lib.hid hsrt
  have HB := Lib.hid hbase
  have HN := Lib.hid hn
  rw [← hn] at HP hL hc ⊢
  clear hown hsrt hbase hn
  unfold InsPost
  go_enter Tryz.func110, Tryz.ntmps110
  go_wp2_with fail
  refine HP.out.mono ?_
  rintro e w1 ⟨⟨k, b, rfl, hP⟩, hb⟩
  have O1 := Lib.hid (own_belowN HO.out hb)
  have B1 := Lib.hid (hb.mono HB.out)
  have S1 := Lib.hid hb.size
  clear hb HP HO
  cases b with
  | true =>
    obtain ⟨hk, hnm, -⟩ := hP.node
    have HW := Lib.hid (hP.with_old HT.out nd)
    rcases O1.out.2 with ⟨h', h0⟩ | ⟨g, cap, cur, h', hbg, hg, _⟩
    · exfalso
      injection h' with _ h'
      rw [HN.out] at h'; omega
    · injection h' with h1 h2 h3
      subst h1
      have hc1 := (O1.out.cellAt (k * 2 + 1) (by rw [HN.out]; omega)).trans (ecs_at l hk).2
      have hf1 := O1.out.frozenAt (k * 2 + 1)
      obtain ⟨s1, s2⟩ := O1.out.stored (k * 2 + 1) (.int .i64 nd)
      have HS := Lib.hid (show OwnE (w1.setCell ⟨g, k * 2 + 1, none⟩ (.int .i64 nd)) base (.slice (some ⟨g, 0, none⟩) n c) (wi ⟨nm, nd⟩ (wo l nm)) by
        rw [HW.out]
        have e1 := Pl.cut hk
        have e2 : (l.take k).length = k := by rw [List.length_take]; omega
        have e3 : (ecs l).set (k * 2 + 1) (.int .i64 nd) = ecs (l.take k ++ ⟨nm, nd⟩ :: l.drop (k + 1)) := by
          have h := ecs_set (l.take k) (l.drop (k + 1)) l[k] nd
          rw [← e1, e2, hnm] at h
          exact h
        have e4 : (l.take k ++ ⟨nm, nd⟩ :: l.drop (k + 1)).length = n := by
          rw [List.length_append, List.length_cons, List.length_take, List.length_drop, HN.out]; omega
        rw [OwnE, e4, ← e3]
        exact s1)
      have HBS := Lib.hid (show Below base w (w1.setCell ⟨g, k * 2 + 1, none⟩ (.int .i64 nd)) from B1.out.setCell hbg _)
      have hkn : k < n := by rw [HN.out]; exact hk
      have hki : (k : Int) < (n : Int) := by omega
      generalize l[k].node = y at hc1
      clear hP hk hnm s1 s2 h2 h3 hg hbg
      go_wp2_with fail
      go_ret
      exact ⟨_, rfl, HS.out, HBS.out⟩
  | false =>
    have HW := Lib.hid (hP.with_new HT.out nd)
    have hkn := hP.1
    have O2 := Lib.hid (O1.out.alloc (.cells #[.string nm, .int .i64 nd] 67))
    have HI := Lib.hid (insert_any base w1.heap.size (.slice A n c) k l ⟨nm, nd⟩ (w1.alloc (.cells #[.string nm, .int .i64 nd] 67)) (by
        show World.ownsRow _ _ _ _ _ _ _
        rw [← HN.out]; exact O2.out) (EBox.made w1 nm nd) (fun e => by have := (O1.out.lt _ e).2; omega) hkn (by rw [← HN.out]; exact hL) (by have := HB.out; have := S1.out; simp; omega))
    have B2 := Lib.hid (B1.out.alloc (Nat.le_trans HB.out S1.out) (.cells #[.string nm, .int .i64 nd] 67))
    unfold InsPost at HI
    clear hP hkn
    go_wp2_with fail
    refine HI.out.mono ?_
    rintro e w2 ⟨v2, rfl, ho, hb⟩
    have HS := Lib.hid (show OwnE w2 base v2 (wi ⟨nm, nd⟩ (wo l nm)) by rw [HW.out]; exact ho)
    have HBS := Lib.hid (B2.out.trans hb)
    clear ho hb
    go_wp2_with fail
    go_ret
    exact ⟨_, rfl, HS.out, HBS.out⟩
end Go.Proofs.YtaklilhnikmmfaaGreat
