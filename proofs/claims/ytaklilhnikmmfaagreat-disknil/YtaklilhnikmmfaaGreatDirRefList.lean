/-
  The walks of the reference's At, Without and With.
-/
import Derived.Test.YtaklilhnikmmfaaGreatDirAct
namespace Go.Proofs.YtaklilhnikmmfaaGreat
open Go.RowKit StrM DirM

theorem av_at {l : List E} {nm : ByteArray} {k : Nat} (hk : k < l.length) (h0 : ∀ j (hj : j < k), (l[j]'(by omega)).name ≠ nm) (h : l[k].name = nm) : av l nm = (k : Int) := by
  have := fnd_at l nm k hk h0 h
  simp [av, this]
theorem av_not {l : List E} {nm : ByteArray} (h0 : ∀ j (hj : j < l.length), l[j].name ≠ nm) : av l nm = -1 := by
  have := fnd_none l nm (fun x hx => by obtain ⟨j, hj, rfl⟩ := List.mem_iff_getElem.1 hx; exact h0 j hj)
  simp [av, this]
theorem ret_int11 {a b : Int} (h : a = b) : Ending.returned (.int .i64 a) = .returned (.int .i64 b) := by rw [h]

set_option maxHeartbeats 2000000 in
set_option maxRecDepth 100000 in
theorem rat_any (v : Value) (l : List E) (nm : ByteArray) (w : World) (hs : SeesE w v l) (hn : l.length ≤ 1000000) :
    Calls Tryz.prog 41 #[v, .string nm] w fun e w' => e = .returned (.int .i64 (av l nm)) ∧ w = w' := by
  obtain ⟨A, c, rfl, -⟩ := SeesN.form hs
  obtain ⟨n, e0⟩ : ∃ n, n = l.length := ⟨_, rfl⟩
  rw [← e0] at hs hn ⊢
  have HS := Lib.hid hs
  have HN := Lib.hid e0
  clear hs e0
  obtain ⟨r, hr⟩ : ∃ r, r = av l nm := ⟨_, rfl⟩
  rw [← hr]
  have HR := Lib.hid hr
  clear hr
  go_enter Tryz.func41, Tryz.ntmps41
  go_wp2_with fail
  go_loopw [5] (fun i wr => ∃ k : Nat, k ≤ n ∧ i = .int .i64 (k : Int) ∧ w = wr ∧ ∀ j (hj : j < l.length), j < k → l[j].name ≠ nm) (fun i _ => n - (intOf i).toNat)
  case atStart => exact ⟨0, Nat.zero_le _, rfl, rfl, fun j _ h => by omega⟩
  case round =>
    obtain ⟨k, hk, rfl, rfl, ha⟩ := hrel
    have HA := Lib.hid ha
    clear ha
    by_cases hlt : k < n
    · have k1 : k < l.length := by rw [← HN.out]; exact hlt
      have hlt' : (k : Int) < (n : Int) := by omega
      obtain ⟨g, off, rfl, hg, hc1, hc2⟩ := SeesE.cells HS.out k1
      have FA := Lib.hid (av_at (nm := nm) k1 (fun j hj => HA.out j (by omega) hj))
      have UP := Lib.hid (fun (h : l[k].name ≠ nm) j (hj : j < l.length) (hjk : j < k + 1) => show l[j].name ≠ nm by
          by_cases e : j = k
          · subst e; exact h
          · exact HA.out j hj (by omega))
      generalize l[k] = x at *
      obtain ⟨xn, xm⟩ := x
      simp only at hc1 hc2 FA UP
      by_cases e : xn = nm
      · subst e
        have HX := Lib.hid (show (k : Int) = r by rw [HR.out, FA.out rfl])
        clear FA UP
        go_wp2_with fail
        go_ret
        exact ⟨ret_int11 HX.out, rfl⟩
      · have HX := Lib.hid (UP.out e)
        have d1 := name_ne e
        clear FA UP e
        go_wp2_with fail
        go_roundw
        case rel => exact ⟨k + 1, by omega, by go_num, trivial, HX.out⟩
        case measure => simp [intOf]; omega
    · have HX := Lib.hid (show -1 = r by rw [HR.out, av_not (fun j hj => HA.out j hj (by have := HN.out; omega))])
      go_wp2_with fail
      go_ret
      exact ⟨ret_int11 HX.out, rfl⟩

theorem wo_take_ne {l : List E} {nm : ByteArray} {k : Nat} (hk : k < l.length) (h : l[k].name ≠ nm) : wo (l.take (k + 1)) nm = wo (l.take k) nm ++ [l[k]] := by
  unfold wo
  rw [List.take_succ_eq_append_getElem hk, List.filter_append]
  simp [h]
theorem wo_take_eq {l : List E} {nm : ByteArray} {k : Nat} (hk : k < l.length) (h : l[k].name = nm) : wo (l.take (k + 1)) nm = wo (l.take k) nm := by
  unfold wo
  rw [List.take_succ_eq_append_getElem hk, List.filter_append]
  simp [h]
theorem wo_take_len (l : List E) (nm : ByteArray) (k : Nat) : (wo (l.take k) nm).length ≤ k := Nat.le_trans (len_wo _ _) (by rw [List.length_take]; omega)

/-- What a function that hands back entries returns. -/
def EPost (l : List E) (w : World) (e : Ending) (w' : World) : Prop := ∃ v, e = .returned v ∧ SeesE w' v l ∧ Below w.heap.size w w'

theorem own_next {w : World} {base m : Nat} {v : Value} {cur : List E} {x : E} (hm : m = cur.length) (h : w.ownsRow base 67 2 v (m + 1) (ecs cur ++ ec x)) : OwnE w base v (cur ++ [x]) := by
  subst hm
  unfold OwnE
  rw [List.length_append, ecs_add, ecs_one]
  exact h

set_option maxHeartbeats 2000000 in
set_option maxRecDepth 100000 in
theorem rwithout_any (v : Value) (l : List E) (nm : ByteArray) (w : World) (hs : SeesE w v l) (hn : l.length ≤ 1000000) :
    Calls Tryz.prog 104 #[v, .string nm] w (EPost (wo l nm) w) := by
  obtain ⟨A, c, rfl, -⟩ := SeesN.form hs
  obtain ⟨n, e0⟩ : ∃ n, n = l.length := ⟨_, rfl⟩
  rw [← e0] at hs hn ⊢
  have HS := Lib.hid (fun W (hb : Below w.heap.size w W) => SeesE.later (l := l) hs hb)
  have HN := Lib.hid e0
  have HO := Lib.hid (own_madeN w 67 2)
  have HB0 := Lib.hid (below_made w (.cells #[] 67))
  clear hs e0
  unfold EPost
  go_enter Tryz.func104, Tryz.ntmps104
  go_wp2_with fail
  go_loopw [5, 6] (fun x i wr => ∃ k : Nat, k ≤ n ∧ i = .int .i64 (k : Int) ∧ OwnE wr w.heap.size x (wo (l.take k) nm) ∧ Below w.heap.size w wr) (fun _ i _ => n - (intOf i).toNat)
  case atStart => exact ⟨0, Nat.zero_le _, rfl, HO.out, HB0.out⟩
  case round =>
    clear HO HB0
    obtain ⟨k, hk, rfl, ho, hb⟩ := hrel
    have HO := Lib.hid ho
    have HB := Lib.hid hb
    clear ho hb
    by_cases hlt : k < n
    · have k1 : k < l.length := by rw [← HN.out]; exact hlt
      have hlt' : (k : Int) < (n : Int) := by omega
      obtain ⟨g, off, rfl, hg, hc1, hc2⟩ := (HS.out _ HB.out).cells k1
      have UN := Lib.hid (wo_take_ne (nm := nm) k1)
      have UE := Lib.hid (wo_take_eq (nm := nm) k1)
      have LE := Lib.hid (wo_take_len l nm k)
      obtain ⟨B, d, hx, -⟩ := (SeesN.of_own HO.out).form
      subst hx
      generalize wo (l.take k) nm = cur at *
      obtain ⟨m, hm⟩ : ∃ m, m = cur.length := ⟨_, rfl⟩
      have HM := Lib.hid hm
      have O1 := Lib.hid (show wr.ownsRow w.heap.size 67 2 (.slice B m d) m (ecs cur) by rw [hm]; exact HO.out)
      rw [← hm] at LE ⊢
      generalize l[k] = x at *
      obtain ⟨xn, xm⟩ := x
      simp only at hc1 hc2 UN UE
      clear hm
      by_cases e : xn = nm
      · subst e
        have HX := Lib.hid (UE.out rfl)
        have O2 := Lib.hid (show OwnE wr w.heap.size (.slice B m d) (wo (l.take (k + 1)) xn) by rw [HX.out]; exact (by show wr.ownsRow _ _ _ _ _ _; rw [← HM.out]; exact O1.out))
        clear UN UE HO
        go_wp2_with fail
        go_roundw
        case rel => exact ⟨k + 1, by omega, by go_num, O2.out, HB.out⟩
        case measure => simp [intOf]; omega
      · have HX := Lib.hid (UN.out e)
        have d1 := name_ne e
        clear UN UE e HO
        go_wp2_with (at_builtin; refine append_n1 nEntry rfl (.tmp 21) (.tmp 26) rfl w.heap.size _ m (ecs cur) rfl O1.out (ec ⟨xn, xm⟩) _ rfl rfl rfl (ec_ones _) ?a1 ?a2 HB.out.size ?_)
        case a1 => have := LE.out; omega
        case a2 => have := LE.out; unfold maxLen; omega
        intro v' w' h2 h3 h4
        have O3 := Lib.hid (show OwnE w' w.heap.size v' (wo (l.take (k + 1)) nm) by rw [HX.out]; exact own_next HM.out h2)
        have B3 := Lib.hid (HB.out.trans h3)
        clear h2 h3 h4
        go_wp2_with fail
        go_roundw
        case rel => exact ⟨k + 1, by omega, by go_num, O3.out, B3.out⟩
        case measure => simp [intOf]; omega
    · have HX := Lib.hid (show wo (l.take k) nm = wo l nm by rw [List.take_of_length_le (by rw [← HN.out]; omega)])
      go_wp2_with fail
      go_ret
      exact ⟨_, rfl, by rw [← HX.out]; exact SeesE.of_own HO.out, HB.out⟩

/-- What With has made of the first k entries, and what is left. -/
def WAt (x : E) (l : List E) (k : Nat) (p : Bool) (cur : List E) : Prop := cur ++ (if p then l.drop k else wi x (l.drop k)) = wi x l ∧ cur.length ≤ k + 1
theorem WAt.start (x : E) (l : List E) : WAt x l 0 false [] := ⟨rfl, Nat.zero_le _⟩
theorem WAt.put {x : E} {l : List E} {k : Nat} {cur : List E} (h : WAt x l k true cur) (hk : k < l.length) : WAt x l (k + 1) true (cur ++ [l[k]]) := by
  have e := h.1
  rw [if_pos rfl, List.drop_eq_getElem_cons hk] at e
  exact ⟨by rw [if_pos rfl, ← e]; simp, by rw [List.length_append]; exact Nat.succ_le_succ h.2⟩
theorem WAt.less {x : E} {l : List E} {k : Nat} {cur : List E} (h : WAt x l k false cur) (hc : cur.length ≤ k) (hk : k < l.length) (hl : lt x.name l[k].name = true) : WAt x l (k + 1) true (cur ++ [x] ++ [l[k]]) := by
  have e := h.1
  rw [if_neg (by decide), List.drop_eq_getElem_cons hk, wi, if_pos hl] at e
  exact ⟨by rw [if_pos rfl, ← e]; simp, by simp; omega⟩
theorem WAt.more {x : E} {l : List E} {k : Nat} {cur : List E} (h : WAt x l k false cur) (hk : k < l.length) (hl : ¬ lt x.name l[k].name = true) : WAt x l (k + 1) false (cur ++ [l[k]]) := by
  have e := h.1
  rw [if_neg (by decide), List.drop_eq_getElem_cons hk, wi, if_neg hl] at e
  exact ⟨by rw [if_neg (by decide), ← e]; simp, by rw [List.length_append]; exact Nat.succ_le_succ h.2⟩
theorem WAt.last {x : E} {l : List E} {k : Nat} {cur : List E} (hk : l.length ≤ k) (h : WAt x l k true cur) : cur = wi x l := by
  have e := h.1
  rw [if_pos rfl, List.drop_eq_nil_of_le hk, List.append_nil] at e
  exact e
theorem WAt.last' {x : E} {l : List E} {k : Nat} {cur : List E} (hk : l.length ≤ k) (h : WAt x l k false cur) : cur ++ [x] = wi x l := by
  have e := h.1
  rw [if_neg (by decide), List.drop_eq_nil_of_le hk, wi] at e
  exact e
theorem EBox.later {w w' : World} {q : Nat} {s : ByteArray} {n : Int} (h : EBox w q s n) (hb : Below (q + 1) w w') : EBox w' q s n := by
  have := hb.block q (by omega)
  unfold EBox at h ⊢
  rw [this]; exact h
theorem EBox.cells {w : World} {q : Nat} {s : ByteArray} {n : Int} (h : EBox w q s n) : w.cell? ⟨q, 0, none⟩ = some (.string s) ∧ w.cell? ⟨q, 1, none⟩ = some (.int .i64 n) := by
  unfold EBox at h
  constructor <;> (rw [cell_of_row w q _ _ _ (0, 0) h]; rfl)
theorem gtr_of {a b : ByteArray} (h : lt a b = true) : Op.bytesLess b.toList a.toList = false ∧ (b.toList == a.toList) = false := ⟨lt_asymm h, name_ne (fun e => lt_ne h e.symm)⟩
theorem gtr_no {a b : ByteArray} (h : ¬ lt a b = true) : (Op.bytesLess b.toList a.toList || b.toList == a.toList) = true := by
  by_cases e : b = a
  · subst e; simp
  · have : Op.bytesLess b.toList a.toList = true := lt_total (fun h => e h.symm) (by simpa using h)
    rw [this]; rfl

set_option maxHeartbeats 4000000 in
set_option maxRecDepth 100000 in
theorem rwith_any (v : Value) (l : List E) (x : E) (w : World) (hs : SeesE w v l) (hn : l.length ≤ 1000000) :
    Calls Tryz.prog 103 #[v, .agg #[.string x.name, .int .i64 x.node]] w (EPost (wi x l) w) := by
  obtain ⟨A, c, rfl, -⟩ := SeesN.form hs
  obtain ⟨n, e0⟩ : ∃ n, n = l.length := ⟨_, rfl⟩
  rw [← e0] at hs hn ⊢
  have HN := Lib.hid e0
  have HX := Lib.hid (show x = ⟨x.name, x.node⟩ from rfl)
  have XW := Lib.hid (EBox.made w x.name x.node)
  have BW := Lib.hid (below_made w (.cells #[.string x.name, .int .i64 x.node] 67))
  obtain ⟨b, hb0⟩ : ∃ b, b = w.heap.size + 1 := ⟨_, rfl⟩
  obtain ⟨W, hW⟩ : ∃ W, W = w.alloc (.cells #[.string x.name, .int .i64 x.node] 67) := ⟨_, rfl⟩
  have hWs : W.heap.size = b := by rw [hW, hb0]; simp
  have HS := Lib.hid (fun W' (hb : Below b W W') => by
    have h := (SeesE.later (l := l) hs BW.out)
    rw [← hW] at h
    exact SeesE.later h (by rw [hWs]; exact hb))
  have HO := Lib.hid (own_madeN W 67 2)
  have HB0 := Lib.hid (below_made W (.cells #[] 67))
  rw [← hW] at XW BW
  rw [hWs] at HO HB0
  have HBW := Lib.hid (fun W' (hb : Below b W W') => BW.out.trans (hb.mono (show w.heap.size ≤ b by omega)))
  have HXB := Lib.hid (fun W' (hb : Below b W W') => XW.out.later (by rw [← hb0]; exact hb))
  obtain ⟨res, hres⟩ : ∃ res, res = wi x l := ⟨_, rfl⟩
  have HR := Lib.hid hres
  have W0 := Lib.hid (WAt.start x l)
  rw [← hres]
  have hq : b = w.heap.size + 1 := hb0
  have HW := Lib.hid hW
  have HWS := Lib.hid hWs
  have HQ := Lib.hid hb0
  clear hs e0 hres hW hWs hb0 hq
  obtain ⟨xn, xm⟩ := x
  simp only at XW HW HXB ⊢
  unfold EPost
  go_enter Tryz.func103, Tryz.ntmps103
  go_wp2_with fail
  rw [← HW.out]
  go_loopw [5, 6, 7] (fun y p i wr => ∃ (k : Nat) (cur : List E) (b' : Bool), k ≤ n ∧ i = .int .i64 (k : Int) ∧ p = .bool b' ∧ WAt ⟨xn, xm⟩ l k b' cur ∧ (b' = false → cur.length ≤ k) ∧ OwnE wr b y cur ∧ Below b W wr) (fun _ _ i _ => n - (intOf i).toNat)
  case atStart =>
    refine ⟨0, [], false, Nat.zero_le _, rfl, rfl, W0.out, fun _ => Nat.le_refl _, ?_, HB0.out⟩
    rw [← HQ.out]
    exact HO.out
  case round =>
    clear HO HB0 W0
    obtain ⟨k, cur, b', hk, rfl, rfl, hw, hc, ho, hb⟩ := hrel
    have HB := Lib.hid hb
    have HBS := Lib.hid (show b ≤ wr.heap.size by have := hb.size; rw [HWS.out] at this; exact this)
    have KW := Lib.hid hw
    have KC := Lib.hid hc
    obtain ⟨B, d, hx, -⟩ := (SeesN.of_own ho).form
    subst hx
    obtain ⟨m, hm⟩ : ∃ m, m = cur.length := ⟨_, rfl⟩
    have HM := Lib.hid hm
    have HO := Lib.hid (show wr.ownsRow b 67 2 (.slice B m d) m (ecs cur) by rw [hm]; exact ho)
    have ML := Lib.hid (show m ≤ k + 1 by rw [hm]; exact hw.2)
    have DB := Lib.hid (fun q => hb.trans ((below_drewN wr q).mono HBS.out))
    have DO := Lib.hid (fun q => own_belowN HO.out (below_drewN wr q))
    have DS := Lib.hid (fun q => show b ≤ (wr.drewN q).heap.size from Nat.le_trans HBS.out (below_drewN wr q).size)
    rw [← hm]
    clear hb hw hc ho hm
    by_cases hlt : k < n
    · have k1 : k < l.length := by rw [← HN.out]; exact hlt
      have hlt' : (k : Int) < (n : Int) := by omega
      have FX := Lib.hid (fun q => (HXB.out _ (DB.out q)).cells)
      obtain ⟨g, off, rfl, hg, hc1, hc2⟩ := (HS.out _ HB.out).cells k1
      obtain ⟨x0, x1⟩ := (HXB.out _ HB.out).cells
      have FE2 := Lib.hid (fun W' (hb : Below b W W') => show W'.cell? ⟨g, off + k * 2, none⟩ = some (.string l[k].name) ∧ W'.cell? ⟨g, off + k * 2 + 1, none⟩ = some (.int .i64 l[k].node) from by
        obtain ⟨g', off', he, _, h1, h2⟩ := (HS.out _ hb).cells k1
        injection he with he
        injection he with he1 he2 _
        subst he1 he2
        exact ⟨h1, h2⟩)
      have LE := Lib.hid (show lt xn l[k].name = true → _ from fun h => h)
      cases b' with
      | true =>
        have PU := Lib.hid (KW.out.put k1)
        clear KW KC
        generalize l[k] = y at *
        obtain ⟨yn, ym⟩ := y
        simp only at hc1 hc2 FE2 PU
        go_wp2_with fail
        go_quiet (fail)
        obtain ⟨hc1, hc2⟩ := FE2.out _ (DB.out nq)
        have O1 := Lib.hid (DO.out nq)
        have B1 := Lib.hid (DB.out nq)
        have S1 := Lib.hid (DS.out nq)
        generalize wr.drewN nq = wq at *
        go_wp2_with (at_builtin; refine append_n1 nEntry rfl (.tmp 31) (.tmp 36) rfl b _ m (ecs cur) rfl O1.out (ec ⟨yn, ym⟩) _ rfl rfl rfl (ec_ones _) ?a1 ?a2 S1.out ?_)
        case a1 => have := ML.out; omega
        case a2 => have := ML.out; unfold maxLen; omega
        intro v' w' h2 h3 h4
        have O3 := Lib.hid (own_next HM.out h2)
        have B3 := Lib.hid (B1.out.trans h3)
        clear h2 h3 h4
        go_wp2_with fail
        go_roundw
        case rel => exact ⟨k + 1, _, true, by omega, by go_num, rfl, PU.out, (fun h => nomatch h), O3.out, B3.out⟩
        case measure => simp [intOf]; omega
      | false =>
        by_cases hl : lt xn l[k].name = true
        · have PU := Lib.hid (KW.out.less (KC.out rfl) k1 hl)
          obtain ⟨d1, d2⟩ := gtr_of hl
          clear KW KC LE hl
          generalize l[k] = y at *
          obtain ⟨yn, ym⟩ := y
          simp only at hc1 hc2 FE2 PU d1 d2
          go_wp2_with fail
          go_quiet (fail)
          obtain ⟨hc1, hc2⟩ := FE2.out _ (DB.out nq)
          obtain ⟨x0, x1⟩ := FX.out nq
          have O1 := Lib.hid (DO.out nq)
          have B1 := Lib.hid (DB.out nq)
          have S1 := Lib.hid (DS.out nq)
          generalize wr.drewN nq = wq at *
          go_wp2_with (at_builtin; refine append_n1 nEntry rfl (.tmp 27) (.tmp 29) rfl b _ m (ecs cur) rfl O1.out (ec ⟨xn, xm⟩) _ rfl rfl rfl (ec_ones _) ?a1 ?a2 S1.out ?_)
          case a1 => have := ML.out; omega
          case a2 => have := ML.out; unfold maxLen; omega
          intro v' w' h2 h3 h4
          have O3 := Lib.hid h2
          have B3 := Lib.hid (B1.out.trans h3)
          have S3 := Lib.hid (Nat.le_trans S1.out h3.size)
          clear hc1 hc2
          obtain ⟨hc1, hc2⟩ := FE2.out _ B3.out
          have ON := Lib.hid (own_next HM.out O3.out)
          have ON2 := Lib.hid (show w'.ownsRow b 67 2 v' (m + 1) (ecs (cur ++ [⟨xn, xm⟩])) by rw [ecs_add, ecs_one]; exact O3.out)
          obtain ⟨B', d', hx', -⟩ := (SeesN.of_own O3.out).form
          subst hx'
          clear h2 h3 h4
          go_wp2_with (at_builtin; refine append_n1 nEntry rfl (.tmp 31) (.tmp 36) rfl b _ (m + 1) (ecs (cur ++ [⟨xn, xm⟩])) rfl ON2.out (ec ⟨yn, ym⟩) _ rfl rfl rfl (ec_ones _) ?a1 ?a2 S3.out ?_)
          case a1 => have := ML.out; omega
          case a2 => have := ML.out; unfold maxLen; omega
          intro v' w2 h2 h3 h4
          have O4 := Lib.hid (own_next (cur := cur ++ [⟨xn, xm⟩]) (by rw [List.length_append, ← HM.out]; rfl) h2)
          have B4 := Lib.hid (B3.out.trans h3)
          clear h2 h3 h4
          go_wp2_with fail
          go_roundw
          case rel => exact ⟨k + 1, _, true, by omega, by go_num, rfl, PU.out, (fun h => nomatch h), O4.out, B4.out⟩
          case measure => simp [intOf]; omega
        · have PU := Lib.hid (KW.out.more k1 hl)
          have HC := Lib.hid (KC.out rfl)
          have d1 := gtr_no hl
          clear KW KC LE hl
          generalize l[k] = y at *
          obtain ⟨yn, ym⟩ := y
          simp only at hc1 hc2 FE2 PU d1
          go_wp2_with fail
          go_quiet (fail)
          obtain ⟨hc1, hc2⟩ := FE2.out _ (DB.out nq)
          have O1 := Lib.hid (DO.out nq)
          have B1 := Lib.hid (DB.out nq)
          have S1 := Lib.hid (DS.out nq)
          generalize wr.drewN nq = wq at *
          go_wp2_with (at_builtin; refine append_n1 nEntry rfl (.tmp 31) (.tmp 36) rfl b _ m (ecs cur) rfl O1.out (ec ⟨yn, ym⟩) _ rfl rfl rfl (ec_ones _) ?a1 ?a2 S1.out ?_)
          case a1 => have := ML.out; omega
          case a2 => have := ML.out; unfold maxLen; omega
          intro v' w' h2 h3 h4
          have O3 := Lib.hid (own_next HM.out h2)
          have B3 := Lib.hid (B1.out.trans h3)
          clear h2 h3 h4
          go_wp2_with fail
          go_roundw
          case rel => exact ⟨k + 1, _, false, by omega, by go_num, rfl, PU.out, fun _ => by have := HC.out; rw [List.length_append]; exact Nat.succ_le_succ this, O3.out, B3.out⟩
          case measure => simp [intOf]; omega
    · cases b' with
      | true =>
        have HF := Lib.hid (show SeesE wr (.slice B m d) res by
          rw [HR.out, ← KW.out.last (by rw [← HN.out]; omega)]
          show SeesN _ _ _ _
          rw [← HM.out]
          exact SeesN.of_own HO.out)
        go_wp2_with fail
        go_ret
        exact ⟨_, rfl, HF.out, HBW.out _ HB.out⟩
      | false =>
        have HL := Lib.hid (KW.out.last' (by rw [← HN.out]; omega))
        obtain ⟨x0, x1⟩ := (HXB.out _ HB.out).cells
        go_wp2_with (at_builtin; refine append_n1 nEntry rfl (.tmp 40) (.tmp 42) rfl b _ m (ecs cur) rfl HO.out (ec ⟨xn, xm⟩) _ rfl rfl rfl (ec_ones _) ?a1 ?a2 HBS.out ?_)
        case a1 => have := ML.out; omega
        case a2 => have := ML.out; unfold maxLen; omega
        intro v' w' h2 h3 h4
        have O3 := Lib.hid (own_next HM.out h2)
        have HF := Lib.hid (show SeesE w' v' res by rw [HR.out, ← HL.out]; exact SeesE.of_own O3.out)
        have B3 := Lib.hid (HB.out.trans h3)
        clear h2 h3 h4
        go_wp2_with fail
        go_ret
        exact ⟨_, rfl, HF.out, HBW.out _ B3.out⟩
end Go.Proofs.YtaklilhnikmmfaaGreat
