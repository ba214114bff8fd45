/-
  The walks of changed, the faults of operations, and performed.
-/
import Derived.Test.YtaklilhnikmmfaaGreatDirChange
namespace Go.Proofs.YtaklilhnikmmfaaGreat
open Go.RowKit StrM DirM

/-- A block with one operation. -/
def OBox (w : World) (q : Nat) (o : O) : Prop := w.heap[q]? = some (.cells #[.int .i64 o.kind, .string o.name, .string o.dst, .int .i64 o.node] 65 (0, 0))
theorem OBox.made (w : World) (o : O) : OBox (w.alloc (.cells #[.int .i64 o.kind, .string o.name, .string o.dst, .int .i64 o.node] 65)) w.heap.size o := heap_alloc_new w _
theorem OBox.lt {w : World} {q : Nat} {o : O} (h : OBox w q o) : q < w.heap.size := (Array.getElem?_eq_some_iff.1 h).1
theorem OBox.later {w w' : World} {q : Nat} {o : O} (h : OBox w q o) (hb : Below w.heap.size w w') : OBox w' q o := by
  have := hb.block q h.lt
  unfold OBox at h ⊢
  rw [this]; exact h
theorem OBox.cells {w : World} {q : Nat} {o : O} (h : OBox w q o) : w.cell? ⟨q, 0, none⟩ = some (.int .i64 o.kind) ∧ w.cell? ⟨q, 1, none⟩ = some (.string o.name) ∧ w.cell? ⟨q, 2, none⟩ = some (.string o.dst) ∧ w.cell? ⟨q, 3, none⟩ = some (.int .i64 o.node) := by
  unfold OBox at h
  refine ⟨?_, ?_, ?_, ?_⟩ <;> (rw [cell_of_row w q _ _ _ (0, 0) h]; rfl)
theorem OBox.soft {w : World} {q : Nat} {o : O} (h : OBox w q o) : ∀ j, w.frozen? ⟨q, j, none⟩ = false := by
  unfold OBox at h
  intro j; simp [World.frozen?, h]
/-- A block of an operation is no row of entries. -/
theorem OBox.stays {w w' : World} {q base n : Nat} {o : O} {v : Value} {xs : List Value} (h : OBox w q o) (ho : w.ownsRow base 67 2 v n xs) (hs : Stays w w' v) : OBox w' q o := by
  refine hs q _ h fun e => ?_
  rcases ho.2 with ⟨rfl, _⟩ | ⟨g, cap, cur, rfl, _, hg, _⟩
  · cases e
  · have e : q = g := by simpa [Value.ownBlock] using e
    subst e
    unfold OBox at h
    rw [h] at hg
    injection hg with hg
    injection hg with _ hg _
    cases hg

theorem delete_at (base g n cap i : Nat) (j : Int) (hj : j = (i : Int) + 1) (l : List E) (w : World) (hown : OwnE w base (.slice (some ⟨g, 0, none⟩) n cap) l) (hi : i < n) (hL : n ≤ 1000) :
    Calls Tryz.prog 112 #[.slice (some ⟨g, 0, none⟩) n cap, .int .i64 (i : Int), .int .i64 j] w (DelPost base g n cap i l w) := by
  have e : j = ((i + 1 : Nat) : Int) := by omega
  rw [e]
  exact delete_any base g n cap i l w hown hi hL

set_option maxHeartbeats 4000000 in
set_option maxRecDepth 100000 in
theorem changed_any (base : Nat) (v : Value) (l : List E) (o : O) (w : World) (hown : OwnE w base v l) (hsrt : Srt l) (hL : l.length ≤ 1000) (hbase : base ≤ w.heap.size) (he : err l o = 0) :
    Calls Tryz.prog 93 #[v, .agg #[.int .i64 o.kind, .string o.name, .string o.dst, .int .i64 o.node]] w (InsPost base (done l o) w) := by
  obtain ⟨A, c, rfl, hc⟩ := (SeesN.of_own hown).form
  have X0 := Lib.hid (OBox.made w o)
  have O0 := Lib.hid (hown.alloc (.cells #[.int .i64 o.kind, .string o.name, .string o.dst, .int .i64 o.node] 65))
  have B0 := Lib.hid ((Below.refl base w).alloc hbase (.cells #[.int .i64 o.kind, .string o.name, .string o.dst, .int .i64 o.node] 65))
  have hb0 : base ≤ (w.alloc (.cells #[.int .i64 o.kind, .string o.name, .string o.dst, .int .i64 o.node] 65)).heap.size := by simp; omega
  rcases err_kinds he with ⟨hk, h1, h2, h3⟩ | hk
  · have HW := Lib.hid (with_any base (.slice A l.length c) l o.name o.node _ O0.out hsrt hL hb0)
    have HD := Lib.hid (show done l o = wi ⟨o.name, o.node⟩ (wo l o.name) by rw [done, if_pos hk, wo_none h2])
    generalize done l o = res at *
    obtain ⟨kd, nm, ds, nd⟩ := o
    simp only at hk HW HD X0 O0 B0 hb0 ⊢
    subst hk
    generalize l.length = n at *
    clear he h1 h2 h3 hown hsrt hL hc
    unfold InsPost at HW ⊢
    go_enter Tryz.func93, Tryz.ntmps93
    go_wp2_with fail
    refine HW.out.mono ?_
    rintro e w2 ⟨v2, rfl, ho, hb⟩
    have HS := Lib.hid (show OwnE w2 base v2 res by rw [HD.out]; exact ho)
    have HBS := Lib.hid (B0.out.trans hb)
    clear ho hb
    go_wp2_with fail
    go_ret
    exact ⟨_, rfl, HS.out, HBS.out⟩
  · have hh : has l o.name = true := by
      rcases hk with ⟨_, h, _⟩ | ⟨_, h⟩ <;> exact h
    have HP := Lib.hid (place_any A l.length c l o.name _ (SeesE.of_own O0.out) rfl hsrt hL)
    have HT := Lib.hid hsrt
    have HH := Lib.hid hh
    obtain ⟨n, hn⟩ : ∃ n, n = l.length := ⟨_, rfl⟩
    have HN := Lib.hid hn
    have HD2 := Lib.hid (show o.kind = 2 → done l o = wi ⟨o.dst, fv l o.name⟩ (wo (wo l o.name) o.dst) from fun h => by rw [done, if_neg (by omega), if_pos h])
    have HD3 := Lib.hid (show o.kind = 3 → done l o = wo l o.name from fun h => by rw [done, if_neg (by omega), if_neg (by omega)])
    have hk' : o.kind = 2 ∨ o.kind = 3 := by
      rcases hk with ⟨h, _⟩ | ⟨h, _⟩
      · exact .inl h
      · exact .inr h
    generalize done l o = res at *
    have O0' := Lib.hid (show World.ownsRow _ base 67 2 (.slice A n c) n (ecs l) by rw [hn]; exact O0.out)
    rw [← hn] at HP hL ⊢
    obtain ⟨kd, nm, ds, nd⟩ := o
    simp only at hk' HP HD2 HD3 X0 O0' B0 hb0 HH ⊢
    have hk1 : (kd == 1) = false := by rcases hk' with rfl | rfl <;> rfl
    have hbw := hbase
    clear he hk hh hown hsrt hc hn O0
    unfold InsPost
    go_enter Tryz.func93, Tryz.ntmps93
    go_wp2_with fail
    refine HP.out.mono ?_
    rintro e w1 ⟨⟨k, b, rfl, hP⟩, hb⟩
    have hbt : b = true := by rw [hP.has_eq HT.out]; exact HH.out
    subst hbt
    have O1 := Lib.hid (own_belowN O0'.out hb)
    have X1 := Lib.hid (X0.out.later hb)
    have B1 := Lib.hid (B0.out.trans (hb.mono hb0))
    have S1 := Lib.hid (Nat.le_trans hb0 hb.size)
    clear hb HP O0' X0 B0 hb0
    obtain ⟨hk, hnm, hfv⟩ := hP.node
    have HWO := Lib.hid (hP.without HT.out)
    rcases O1.out.2 with ⟨h', h0⟩ | ⟨g, cap, cur, h', hbg, hg, _⟩
    · exfalso
      injection h' with _ h'
      rw [HN.out] at h'; omega
    · injection h' with h1 h2 h3
      subst h1
      have hc1 := (O1.out.cellAt (k * 2 + 1) (by rw [HN.out]; omega)).trans (ecs_at l hk).2
      rw [← hfv] at hc1
      have hkn : k < n := by rw [HN.out]; exact hk
      have hki : (k : Int) < (n : Int) := by omega
      have DE := Lib.hid (delete_at base g n c k ((k : Int) + 1) rfl l w1 (by show World.ownsRow _ _ _ _ _ _ _; rw [← HN.out]; exact O1.out) hkn hL)
      have HL1 := Lib.hid (show n - 1 = (wo l nm).length by rw [HWO.out, List.length_append, List.length_take, List.length_drop, HN.out]; omega)
      have HL2 := Lib.hid (show (wo l nm).length ≤ 1000 by rw [← HL1.out]; omega)
      generalize fv l nm = y at *
      clear hP hk hnm hfv h2 h3 hg hbg
      unfold DelPost at DE
      obtain ⟨x0, x1, x2, x3⟩ := X1.out.cells
      simp only at x0 x1 x2 x3
      go_wp2_with fail
      refine DE.out.mono ?_
      rintro e w2 ⟨rfl, ho2, hb2, hst⟩
      have X2 := Lib.hid (X1.out.stays O1.out hst)
      have O2 := Lib.hid (show OwnE w2 base (.slice (some ⟨g, 0, none⟩) (n - 1) c) (wo l nm) by rw [HWO.out]; exact ho2)
      have B2 := Lib.hid (B1.out.trans hb2)
      have S2 := Lib.hid (Nat.le_trans S1.out hb2.size)
      have HWW := Lib.hid (with_any base _ (wo l nm) ds y w2 O2.out (srt_wo HT.out nm) HL2.out S2.out)
      clear ho2 hb2 hst x0 x1 x2 x3 DE HWO
      generalize n - 1 = n' at *
      obtain ⟨x0, x1, x2, x3⟩ := X2.out.cells
      simp only at x0 x1 x2 x3
      unfold InsPost at HWW
      rcases hk' with rfl | rfl
      · have HD := Lib.hid (HD2.out rfl)
        clear HD2 HD3
        go_wp2_with fail
        refine HWW.out.mono ?_
        rintro e w3 ⟨v3, rfl, ho, hb⟩
        have HS := Lib.hid (show OwnE w3 base v3 res by rw [HD.out]; exact ho)
        have HBS := Lib.hid (B2.out.trans hb)
        clear ho hb
        go_wp2_with fail
        go_ret
        exact ⟨_, rfl, HS.out, HBS.out⟩
      · have HS := Lib.hid (show OwnE w2 base (.slice (some ⟨g, 0, none⟩) n' c) res by rw [HD3.out rfl]; exact O2.out)
        clear HD2 HD3
        go_wp2_with fail
        go_ret
        exact ⟨_, rfl, HS.out, B2.out⟩
end Go.Proofs.YtaklilhnikmmfaaGreat
