/-
  Joined: DirRight DirDo DirSync DirAct DirRefList DirRefDone.
-/
import Derived.Test.YtaklilhnikmmfaaGreatJDirB
import Derived.Deep.RegionHeld3
/-
  The walks of ordered, Right and Find.
-/
namespace Go.Proofs.YtaklilhnikmmfaaGreat
open Go.RowKit StrM DirM

theorem ordL_long {l : List E} (h : 100 < l.length) : ordL l = false := by unfold ordL; rw [decide_eq_false (by omega)]; rfl
theorem ordL_bad {l : List E} {k : Nat} (hk : k < l.length) (h : gd l k = false) : ordL l = false := by unfold ordL; rw [ordK_bad hk h]; exact Bool.and_false _
theorem ordL_good {l : List E} {k : Nat} (hk : k = l.length) (h100 : l.length ≤ 100) (h : ordK l k = true) : ordL l = true := by
  subst hk; unfold ordL; rw [h, decide_eq_true h100]; rfl

theorem gd_next {l : List E} {j k : Nat} (hk : k < l.length) (e : k = j + 1) : gd l k = (nameOk l[k].name && lt (l[j]'(by omega)).name l[k].name) := by subst e; exact gd_succ hk
theorem gd_none {l : List E} {k : Nat} (hk : k < l.length) (e : k = 0) : gd l k = nameOk l[k].name := by subst e; exact gd_zero hk

set_option maxHeartbeats 4000000 in
set_option maxRecDepth 100000 in
theorem ordered_any (v : Value) (l : List E) (w : World) (hs : SeesE w v l) :
    Calls Tryz.prog 90 #[v] w fun e w' => e = .returned (.bool (ordL l)) ∧ Below w.heap.size w w' := by
  obtain ⟨A, c, rfl, -⟩ := SeesN.form hs
  obtain ⟨n, hn⟩ : ∃ n, n = l.length := ⟨_, rfl⟩
  rw [← hn] at hs ⊢
  have HS := Lib.hid (fun W (hb : Below w.heap.size w W) => SeesE.later (l := l) hs hb)
  have HN := Lib.hid hn
  clear hs hn
  obtain ⟨r, hr⟩ : ∃ r, r = ordL l := ⟨_, rfl⟩
  rw [← hr]
  have HR := Lib.hid hr
  clear hr
  by_cases h100 : 100 < n
  · have h100' : (100 : Int) < (n : Int) := by omega
    have HX := Lib.hid (show false = r by rw [HR.out, ordL_long (by rw [← HN.out]; exact h100)])
    clear h100
    go_enter Tryz.func90, Tryz.ntmps90
    go_wp2_with fail
    go_ret
    exact ⟨ret_bool HX.out, Below.refl _ _⟩
  · have h100' : decide ((100 : Int) < (n : Int)) = false := by simp; omega
    have h1h : n ≤ 100 := by omega
    have h100'' : decide (100 < n) = false := by simp; omega
    clear h100
    go_enter Tryz.func90, Tryz.ntmps90
    go_wp2_with fail
    go_loopw [10] (fun i wr => ∃ k : Nat, k ≤ n ∧ i = .int .i64 (k : Int) ∧ Below w.heap.size w wr ∧ ordK l k = true) (fun i _ => n - (intOf i).toNat)
    case atStart => exact ⟨0, Nat.zero_le _, rfl, Below.refl _ _, ordK_zero l⟩
    case round =>
      obtain ⟨k, hk, rfl, hb, ho⟩ := hrel
      have HB := Lib.hid hb
      have HO := Lib.hid ho
      clear hb ho
      by_cases hlt : k < n
      · have k1 : k < l.length := by rw [← HN.out]; exact hlt
        have hlt' : (k : Int) < (n : Int) := by omega
        have UP := Lib.hid (show gd l k = true → ordK l (k + 1) = true from fun h => by rw [ordK_next HO.out]; exact h)
        have DN := Lib.hid (show gd l k = false → false = r from fun h => by rw [HR.out, ordL_bad k1 h])
        have SK := Lib.hid (HS.out _ HB.out)
        rcases Nat.eq_zero_or_pos k with hk0 | hpos
        · obtain ⟨g, off, rfl, hg, hc1, hc2⟩ := SK.out.cells k1
          have GD := Lib.hid (gd_none k1 hk0)
          generalize l[k] = x at *
          have pk' : decide ((0 : Int) < (k : Int)) = false := by simp; omega
          have pk : decide (0 < k) = false := by simp; omega
          clear hk0
          obtain ⟨xn, xm⟩ := x
          simp only at hc1 hc2 GD
          have NA := Lib.hid (fun w => dname_any xn w)
          have BM := Lib.hid (HB.out.alloc HB.out.size (.cells #[.string xn, .int .i64 xm] 67))
          cases hx : nameOk xn with
          | true =>
            rw [hx] at NA
            have HX := Lib.hid (UP.out (by rw [GD.out, hx]))
            clear UP DN GD hx
            go_wp2_with fail
            go_quiet ((go_at_call 106; with_reducible exact quiet_same (NA.out _)))
            go_wp2_with fail
            go_roundw
            case rel => exact ⟨k + 1, by omega, by go_num, BM.out.trans ((below_drewN _ _).mono BM.out.size), HX.out⟩
            case measure => simp [intOf]; omega
          | false =>
            rw [hx] at NA
            have HX := Lib.hid (DN.out (by rw [GD.out, hx]))
            clear UP DN GD hx
            go_wp2_with fail
            go_quiet ((go_at_call 106; with_reducible exact quiet_same (NA.out _)))
            go_wp2_with fail
            go_ret
            exact ⟨ret_bool HX.out, BM.out.trans ((below_drewN _ _).mono BM.out.size)⟩
        · obtain ⟨j, hkj⟩ : ∃ j, k = j + 1 := ⟨k - 1, by omega⟩
          obtain ⟨g, off, rfl, hg, hc1, hc2⟩ := SK.out.cells k1
          obtain ⟨g', off', he, hg', hd1, hd2⟩ := SK.out.cells (k := j) (by omega)
          injection he with he
          injection he with he1 he2 _
          subst he1 he2
          have GD := Lib.hid (gd_next k1 hkj)
          have e1 : (k : Int) - 1 = (j : Int) := by omega
          have pk : 0 < k := hpos
          have pk' : decide (0 < k) = true := by simp; omega
          have pk'' : (0 : Int) < (k : Int) := by omega
          have jn : j < n := by omega
          generalize l[k] = x at *
          generalize l[j]'(by omega) = y at *
          obtain ⟨xn, xm⟩ := x
          obtain ⟨yn, ym⟩ := y
          simp only at hc1 hc2 hd1 hd2 GD
          have NA := Lib.hid (fun w => dname_any xn w)
          have BM := Lib.hid (HB.out.alloc HB.out.size (.cells #[.string xn, .int .i64 xm] 67))
          have KJ := Lib.hid hkj
          clear hkj hpos
          cases hx : nameOk xn with
          | true =>
            rw [hx] at NA
            cases hl : lt yn xn with
            | true =>
              have HX := Lib.hid (UP.out (by rw [GD.out, hx, hl]; rfl))
              have d1 : Op.bytesLess yn.toList xn.toList = true := hl
              clear UP DN GD hx hl
              go_wp2_with fail
              go_quiet ((go_at_call 106; with_reducible exact quiet_same (NA.out _)))
              go_wp2_with fail
              go_roundw
              case rel => exact ⟨k + 1, by omega, by go_num, BM.out.trans ((below_drewN _ _).mono BM.out.size), HX.out⟩
              case measure => simp [intOf]; omega
            | false =>
              have HX := Lib.hid (DN.out (by rw [GD.out, hx, hl]; rfl))
              have d1 : Op.bytesLess yn.toList xn.toList = false := hl
              clear UP DN GD hx hl
              go_wp2_with fail
              go_quiet ((go_at_call 106; with_reducible exact quiet_same (NA.out _)))
              go_wp2_with fail
              go_ret
              exact ⟨ret_bool HX.out, BM.out.trans ((below_drewN _ _).mono BM.out.size)⟩
          | false =>
            rw [hx] at NA
            have HX := Lib.hid (DN.out (by rw [GD.out, hx]; rfl))
            clear UP DN GD hx
            go_wp2_with fail
            go_quiet ((go_at_call 106; with_reducible exact quiet_same (NA.out _)))
            go_wp2_with fail
            go_ret
            exact ⟨ret_bool HX.out, BM.out.trans ((below_drewN _ _).mono BM.out.size)⟩
      · have HX := Lib.hid (show true = r by rw [HR.out, ordL_good (k := k) (by rw [← HN.out]; omega) (by rw [← HN.out]; exact h1h) HO.out])
        go_wp2_with fail
        go_ret
        exact ⟨ret_bool HX.out, HB.out⟩
end Go.Proofs.YtaklilhnikmmfaaGreat

/-
  The walks of Right, Find, settled, Sync and Crash.
-/
namespace Go.Proofs.YtaklilhnikmmfaaGreat
open Go.RowKit StrM DirM

theorem dvalid_unord {d : D} (h : ordL d.sure = false) : valid d = false := by unfold valid; rw [h]; rfl
theorem dvalid_err {d : D} (h : ¬ (all d.sure d.pend).2 = 0) : valid d = false := by unfold valid; rw [decide_eq_false h]; simp
theorem dvalid_eq {d : D} (h1 : ordL d.sure = true) (h2 : (all d.sure d.pend).2 = 0) : valid d = decide ((all d.sure d.pend).1 = d.now) := by unfold valid; rw [h1, decide_eq_true h2]; rfl

set_option maxHeartbeats 2000000 in
set_option maxRecDepth 100000 in
theorem dright_any (v : Value) (d : D) (w : World) (hs : SeesD w v d) (hp : d.pend.length ≤ 1000000) :
    Calls Tryz.prog 68 #[v] w fun e w' => e = .returned (.bool (valid d)) ∧ Below w.heap.size w w' := by
  obtain ⟨A0, c0, A1, c1, A2, c2, rfl, h0, h1, h2⟩ := hs.slices
  have S0 := Lib.hid (fun W (hb : Below w.heap.size w W) => h0.later hb)
  have OR := Lib.hid (fun W (hb : Below w.heap.size w W) => ordered_any _ d.sure W (h1.later hb))
  have PE := Lib.hid (fun W (hb : Below w.heap.size w W) (ho : DirM.Ord d.sure) => performed_any _ _ d.sure d.pend W (h1.later hb) (h2.later hb) ho hp)
  unfold PerfPost at PE
  obtain ⟨n0, e0⟩ : ∃ n, n = d.now.length := ⟨_, rfl⟩
  rw [← e0] at S0 ⊢
  generalize d.sure.length = n1 at *
  generalize d.pend.length = n2 at *
  have B0 := Lib.hid (below_made w (.cells #[.slice A0 n0 c0, .slice A1 n1 c1, .slice A2 n2 c2] 32))
  have X0 := Lib.hid (DBox.made w (.slice A0 n0 c0) (.slice A1 n1 c1) (.slice A2 n2 c2))
  clear hs h0 h1 h2 e0
  obtain ⟨r, hr⟩ : ∃ r, r = valid d := ⟨_, rfl⟩
  rw [← hr]
  have HR := Lib.hid hr
  clear hr
  go_enter Tryz.func68, Tryz.ntmps68
  go_wp2_with fail
  refine (OR.out _ B0.out).mono ?_
  rintro e w1 ⟨rfl, hb1⟩
  have B1 := Lib.hid (B0.out.trans (hb1.mono B0.out.size))
  have X1 := Lib.hid (X0.out.later hb1)
  clear hb1 X0 B0 OR
  cases hv : ordL d.sure with
  | false =>
    have HX := Lib.hid (show false = r by rw [HR.out, dvalid_unord hv])
    clear hv PE
    go_wp2_with fail
    go_ret
    exact ⟨ret_bool HX.out, B1.out⟩
  | true =>
    obtain ⟨x0, x1, x2⟩ := X1.out.cells
    have HO := Lib.hid (ordL_iff.1 hv)
    have VE := Lib.hid (fun h => dvalid_err (d := d) h)
    have VO := Lib.hid (fun h => dvalid_eq (d := d) hv h)
    have PX := Lib.hid (PE.out _ B1.out HO.out)
    clear hv PE
    go_wp2_with fail
    refine PX.out.mono ?_
    rintro e w2 ⟨v2, rfl, ho2, hb2⟩
    have B2 := Lib.hid (B1.out.trans (hb2.mono B1.out.size))
    have X2 := Lib.hid (X1.out.later hb2)
    have O2 := Lib.hid ho2
    clear hb2 ho2 x0 x1 x2 X1 PX
    obtain ⟨x0, x1, x2⟩ := X2.out.cells
    obtain ⟨k, hk⟩ : ∃ k, k = (all d.sure d.pend).2 := ⟨_, rfl⟩
    rw [← hk] at VE VO ⊢
    by_cases hk0 : k = 0
    · subst hk0
      have HX := Lib.hid (VO.out rfl)
      have OL := Lib.hid (show (all d.sure d.pend).1.length ≤ 1000000 by have := (all_ord _ HO.out hk.symm).few; omega)
      have SQ := Lib.hid (sequal_any v2 _ _ d.now w2 (SeesE.of_own O2.out) (S0.out _ B2.out) OL.out)
      rw [← HX.out, ← HR.out] at SQ
      clear VE VO hk
      go_wp2_with fail
      refine SQ.out.mono ?_
      rintro e w3 ⟨rfl, hb3⟩
      have B3 := Lib.hid (B2.out.trans (hb3.mono B2.out.size))
      clear hb3
      go_wp2_with fail
      go_ret
      exact ⟨rfl, B3.out⟩
    · have HX := Lib.hid (show false = r by rw [HR.out, VE.out hk0])
      have d1 : (k == 0) = false := by simpa using hk0
      clear VE VO hk hk0
      go_wp2_with fail
      go_ret
      exact ⟨ret_bool HX.out, B2.out⟩

theorem find_at {l : List E} {nm : ByteArray} {k : Nat} (hk : k < l.length) (h0 : ∀ j (hj : j < k), (l[j]'(by omega)).name ≠ nm) (h : l[k].name = nm) : fv l nm = l[k].node ∧ has l nm = true := by
  have := fnd_at l nm k hk h0 h
  simp [fv, has, this]
theorem find_not {l : List E} {nm : ByteArray} (h0 : ∀ j (hj : j < l.length), l[j].name ≠ nm) : fv l nm = 0 ∧ has l nm = false := by
  have := fnd_none l nm (fun x hx => by obtain ⟨j, hj, rfl⟩ := List.mem_iff_getElem.1 hx; exact h0 j hj)
  simp [fv, has, this]

set_option maxHeartbeats 2000000 in
set_option maxRecDepth 100000 in
theorem find_any (v : Value) (d : D) (nm : ByteArray) (w : World) (hs : SeesD w v d) (hn : d.now.length ≤ 1000000) :
    Calls Tryz.prog 39 #[v, .string nm] w fun e w' => e = .returned (.tuple #[.int .i64 (fv d.now nm), .bool (has d.now nm)]) ∧ Below w.heap.size w w' := by
  obtain ⟨A0, c0, A1, c1, A2, c2, rfl, h0, h1, h2⟩ := hs.slices
  have S0 := Lib.hid (fun W (hb : Below w.heap.size w W) => h0.later hb)
  generalize d.now = l at *
  obtain ⟨n, e0⟩ : ∃ n, n = l.length := ⟨_, rfl⟩
  rw [← e0] at S0 hn ⊢
  generalize d.sure.length = n1 at *
  generalize d.pend.length = n2 at *
  have B0 := Lib.hid (below_made w (.cells #[.slice A0 n c0, .slice A1 n1 c1, .slice A2 n2 c2] 32))
  have X0 := Lib.hid (DBox.made w (.slice A0 n c0) (.slice A1 n1 c1) (.slice A2 n2 c2))
  have HN := Lib.hid e0
  clear hs h0 h1 h2 e0
  obtain ⟨r, hr⟩ : ∃ r, r = fv l nm := ⟨_, rfl⟩
  obtain ⟨s, hs⟩ : ∃ s, s = has l nm := ⟨_, rfl⟩
  rw [← hr, ← hs]
  have HR := Lib.hid hr
  have HS := Lib.hid hs
  clear hr hs
  go_enter Tryz.func39, Tryz.ntmps39
  go_wp2_with fail
  go_loopw [11] (fun i wr => ∃ k : Nat, k ≤ n ∧ i = .int .i64 (k : Int) ∧ Below w.heap.size w wr ∧ ∀ j (hj : j < l.length), j < k → l[j].name ≠ nm) (fun i _ => n - (intOf i).toNat)
  case atStart => exact ⟨0, Nat.zero_le _, rfl, B0.out, fun j _ h => by omega⟩
  case round =>
    obtain ⟨k, hk, rfl, hb, ha⟩ := hrel
    have HB := Lib.hid hb
    have HA := Lib.hid ha
    clear hb ha
    by_cases hlt : k < n
    · have k1 : k < l.length := by rw [← HN.out]; exact hlt
      have hlt' : (k : Int) < (n : Int) := by omega
      obtain ⟨g, off, rfl, hg, hc1, hc2⟩ := (S0.out _ HB.out).cells k1
      have FA := Lib.hid (find_at (nm := nm) k1 (fun j hj => HA.out j (by omega) hj))
      have UP := Lib.hid (fun (h : l[k].name ≠ nm) j (hj : j < l.length) (hjk : j < k + 1) => show l[j].name ≠ nm by
          by_cases e : j = k
          · subst e; exact h
          · exact HA.out j hj (by omega))
      generalize l[k] = x at *
      obtain ⟨xn, xm⟩ := x
      simp only at hc1 hc2 FA UP
      have BM := Lib.hid (HB.out.alloc HB.out.size (.cells #[.string xn, .int .i64 xm] 67))
      by_cases e : xn = nm
      · subst e
        obtain ⟨f1, f2⟩ := FA.out rfl
        have HX := Lib.hid (show xm = r by rw [HR.out, f1])
        have HY := Lib.hid (show true = s by rw [HS.out, f2])
        clear FA UP f1 f2
        go_wp2_with fail
        go_ret2
        exact ⟨by rw [← HX.out, ← HY.out]; rfl, BM.out⟩
      · have HX := Lib.hid (UP.out e)
        have d1 := name_ne e
        clear FA UP e
        go_wp2_with fail
        go_roundw
        case rel => exact ⟨k + 1, by omega, by go_num, BM.out, HX.out⟩
        case measure => simp [intOf]; omega
    · obtain ⟨f1, f2⟩ := find_not (l := l) (nm := nm) (fun j hj => HA.out j hj (by have := HN.out; omega))
      have HX := Lib.hid (show 0 = r by rw [HR.out, f1])
      have HY := Lib.hid (show false = s by rw [HS.out, f2])
      clear f1 f2
      go_wp2_with fail
      go_ret2
      exact ⟨by rw [← HX.out, ← HY.out]; rfl, HB.out⟩

set_option maxHeartbeats 2000000 in
set_option maxRecDepth 100000 in
theorem dsettled_any (v : Value) (l : List E) (w : World) (hs : SeesE w v l) (hl : l.length ≤ 1000000) : Calls Tryz.prog 70 #[v] w (DPost ⟨l, l, []⟩ w) := by
  have CL := Lib.hid (fun W (hb : Below w.heap.size w W) => cloneE_any v l W (hs.later hb) hl)
  unfold CloneE at CL
  unfold DPost
  have B0 := Lib.hid (below_made w (.cells #[.slice none 0 0, .slice none 0 0, .slice none 0 0] 32))
  have Y0 := Lib.hid (DBox.made w (.slice none 0 0) (.slice none 0 0) (.slice none 0 0))
  clear hs hl
  go_enter Tryz.func70, Tryz.ntmps70
  go_wp2_with fail
  refine (CL.out _ B0.out).mono ?_
  rintro e w1 ⟨v1, rfl, ho1, hb1⟩
  have B1 := Lib.hid (B0.out.trans (hb1.mono B0.out.size))
  have Y1 := Lib.hid (Y0.out.later hb1)
  have S1 := Lib.hid (SeesE.of_own ho1)
  clear hb1 ho1 B0 Y0
  go_wp2_with fail
  refine (CL.out _ B1.out).mono ?_
  rintro e w2 ⟨v2, rfl, ho2, hb2⟩
  have B2 := Lib.hid (B1.out.trans (hb2.mono B1.out.size))
  have Y2 := Lib.hid (Y1.out.later hb2)
  have T1 := Lib.hid (S1.out.later hb2)
  have T2 := Lib.hid (SeesE.of_own ho2)
  clear hb2 ho2 B1 Y1 S1
  obtain ⟨y0, y1, y2⟩ := Y2.out.cells
  obtain ⟨z0, z1, z2⟩ := Y2.out.soft
  obtain ⟨A0, c0, rfl, -⟩ := SeesN.form T1.out
  obtain ⟨A1, c1, rfl, -⟩ := SeesN.form T2.out
  obtain ⟨n, hn⟩ : ∃ n, n = l.length := ⟨_, rfl⟩
  rw [← hn] at T1 T2 ⊢
  clear hn
  have YF := Lib.hid (Y2.out.set (.slice A0 n c0) (.slice A1 n c1) (.slice none 0 0))
  have HF := Lib.hid (show SeesD (dset w2 w.heap.size (.slice A0 n c0) (.slice A1 n c1) (.slice none 0 0)) (.agg #[.slice A0 n c0, .slice A1 n c1, .slice none 0 0]) ⟨l, l, []⟩ ∧ Below w.heap.size w (dset w2 w.heap.size (.slice A0 n c0) (.slice A1 n c1) (.slice none 0 0)) from
      ⟨⟨_, _, _, rfl, T1.out.dset Y2.out _ _ _, T2.out.dset Y2.out _ _ _, seesO_nil _⟩, dset_below B2.out (Nat.le_refl _) _ _ _⟩)
  go_wp2_with fail
  change bodyPost _ _ _ _ _ (dset w2 w.heap.size (.slice A0 n c0) (.slice A1 n c1) (.slice none 0 0))
  generalize dset w2 w.heap.size (.slice A0 n c0) (.slice A1 n c1) (.slice none 0 0) = w9 at *
  obtain ⟨y0, y1, y2⟩ := YF.out.cells
  exact bodyPost_ret (by simp [results, Tryz.results70, go_sem, y0, y1, y2]) rfl ⟨_, rfl, HF.out.1, HF.out.2⟩
end Go.Proofs.YtaklilhnikmmfaaGreat

/-
  The walks of Sync and Crash.
-/
namespace Go.Proofs.YtaklilhnikmmfaaGreat
open Go.RowKit StrM DirM

theorem dsyn_no {d : D} (h : valid d = false) : syn d = zd := by unfold syn; rw [h]; rfl
theorem dsyn_ok {d : D} (h : valid d = true) : syn d = ⟨d.now, d.now, []⟩ := by unfold syn; rw [h]; rfl
theorem dcr_no {d : D} (h : valid d = false) (n : Int) : cr d n = zd := by unfold cr; rw [h]; rfl
theorem dcr_ok {d : D} (h : valid d = true) (n : Int) : cr d n = ⟨crL d n, crL d n, []⟩ := by unfold cr; rw [h]; rfl

theorem ops_elem : Tryz.prog.underlying 30 = some (.slice (Tryz.prog.elem 30)) := by kernel_rfl
theorem ops_size (W : World) : (sizeOf (Tryz.prog.elem 30)).run Tryz.prog W = .ok 4 W := by kernel_rfl
theorem cut_ops (A : Option Addr) (n c k : Nat) (hk : k ≤ c) (W : World) : (Instr.sliceAt 30 (.slice A n c) none (some (.int .i64 (k : Int))) none).run Tryz.prog W = .ok (.slice A k c) W := by
  rw [run_sliceAt_slice W _ _ _ _ _ ops_elem, run_slice_h W _ A n c ops_elem .i64 _ (by omega) (by omega), ops_size]
  simp only [Result.andThen, Int.toNat_natCast]
  cases A <;> simp [sliced, Addr.add]

set_option maxHeartbeats 2000000 in
set_option maxRecDepth 100000 in
theorem dsync_any (v : Value) (d : D) (w : World) (hs : SeesD w v d) (hp : d.pend.length ≤ 1000000) : Calls Tryz.prog 58 #[v] w (DPost (syn d) w) := by
  obtain ⟨A0, c0, A1, c1, A2, c2, rfl, h0, h1, h2⟩ := hs.slices
  have RI := Lib.hid (fun W (hb : Below w.heap.size w W) => dright_any _ d W (hs.later hb) hp)
  have SE := Lib.hid (fun W (hb : Below w.heap.size w W) (hv : valid d = true) => dsettled_any _ d.now W (h0.later hb) (by have := (valid_now hv).few; omega))
  unfold DPost at SE ⊢
  generalize d.now.length = n0 at *
  generalize d.sure.length = n1 at *
  generalize d.pend.length = n2 at *
  have B0 := Lib.hid ((below_made w (.cells #[.slice A0 n0 c0, .slice A1 n1 c1, .slice A2 n2 c2] 32)).alloc (below_made w _).size (.cells #[.slice none 0 0, .slice none 0 0, .slice none 0 0] 32))
  have X0 := Lib.hid ((DBox.made w (.slice A0 n0 c0) (.slice A1 n1 c1) (.slice A2 n2 c2)).later (below_made _ (.cells #[.slice none 0 0, .slice none 0 0, .slice none 0 0] 32)))
  have Y0 := Lib.hid (show DBox _ (w.heap.size + 1) _ _ _ by simpa using DBox.made (w.alloc (.cells #[.slice A0 n0 c0, .slice A1 n1 c1, .slice A2 n2 c2] 32)) (.slice none 0 0) (.slice none 0 0) (.slice none 0 0))
  clear hs h0 h1 h2 hp
  go_enter Tryz.func58, Tryz.ntmps58
  go_wp2_with fail
  refine (RI.out _ B0.out).mono ?_
  rintro e w1 ⟨rfl, hb1⟩
  have B1 := Lib.hid (B0.out.trans (hb1.mono B0.out.size))
  have X1 := Lib.hid (X0.out.later hb1)
  have Y1 := Lib.hid (Y0.out.later hb1)
  clear hb1 X0 Y0 B0
  cases hv : valid d with
  | false =>
    have HF := Lib.hid (dsyn_no hv)
    obtain ⟨y0, y1, y2⟩ := Y1.out.cells
    obtain ⟨z0, z1, z2⟩ := Y1.out.soft
    have YF := Lib.hid (Y1.out.set (.slice none 0 0) (.slice none 0 0) (.slice none 0 0))
    have BF := Lib.hid (dset_below B1.out (show w.heap.size ≤ w.heap.size + 1 by omega) (.slice none 0 0) (.slice none 0 0) (.slice none 0 0))
    clear hv SE
    go_wp2_with fail
    change bodyPost _ _ _ _ _ (dset w1 (w.heap.size + 1) (.slice none 0 0) (.slice none 0 0) (.slice none 0 0))
    generalize dset w1 (w.heap.size + 1) (.slice none 0 0) (.slice none 0 0) (.slice none 0 0) = w9 at *
    obtain ⟨y0, y1, y2⟩ := YF.out.cells
    exact bodyPost_ret (by simp [results, Tryz.results58, go_sem, y0, y1, y2]; rfl) rfl ⟨_, rfl, by rw [HF.out]; exact SeesD.zero _, BF.out⟩
  | true =>
    have HF := Lib.hid (dsyn_ok hv)
    obtain ⟨x0, x1, x2⟩ := X1.out.cells
    have SE := Lib.hid (fun W hb => SE.out W hb hv)
    clear hv
    go_wp2_with fail
    refine (SE.out _ B1.out).mono ?_
    rintro e w2 ⟨v2, rfl, s2, hb2⟩
    rw [← HF.out] at s2
    obtain ⟨B0, d0, B1', d1, B2', d2, rfl, -⟩ := s2.slices
    have B2 := Lib.hid (B1.out.trans (hb2.mono B1.out.size))
    have Y2 := Lib.hid (Y1.out.later hb2)
    have S2 := Lib.hid s2
    obtain ⟨y0, y1, y2⟩ := Y2.out.cells
    obtain ⟨z0, z1, z2⟩ := Y2.out.soft
    clear hb2 s2 HF
    generalize (syn d).now.length = m0 at *
    generalize (syn d).sure.length = m1 at *
    generalize (syn d).pend.length = m2 at *
    have YF := Lib.hid (Y2.out.set (.slice B0 m0 d0) (.slice B1' m1 d1) (.slice B2' m2 d2))
    have HF2 := Lib.hid (show SeesD (dset w2 (w.heap.size + 1) (.slice B0 m0 d0) (.slice B1' m1 d1) (.slice B2' m2 d2)) (.agg #[.slice B0 m0 d0, .slice B1' m1 d1, .slice B2' m2 d2]) (syn d) ∧ Below w.heap.size w (dset w2 (w.heap.size + 1) (.slice B0 m0 d0) (.slice B1' m1 d1) (.slice B2' m2 d2)) from
      ⟨S2.out.dset Y2.out _ _ _, dset_below B2.out (by omega) _ _ _⟩)
    go_wp2_with fail
    change bodyPost _ _ _ _ _ (dset w2 (w.heap.size + 1) (.slice B0 m0 d0) (.slice B1' m1 d1) (.slice B2' m2 d2))
    generalize dset w2 (w.heap.size + 1) (.slice B0 m0 d0) (.slice B1' m1 d1) (.slice B2' m2 d2) = w9 at *
    obtain ⟨y0, y1, y2⟩ := YF.out.cells
    exact bodyPost_ret (by simp [results, Tryz.results58, go_sem, y0, y1, y2]) rfl ⟨_, rfl, HF2.out.1, HF2.out.2⟩

theorem perf_cut {d : D} {n : Int} (hv : valid d = true) : (all d.sure (d.pend.take (cnt n d.pend.length))) = (crL d n, 0) ∧ (crL d n).length ≤ 1000000 := by
  obtain ⟨h1, h2⟩ := valid_pre hv (cnt n d.pend.length)
  exact ⟨by rw [← h1]; rfl, by have := h2.few; unfold crL; omega⟩

set_option maxHeartbeats 4000000 in
set_option maxRecDepth 100000 in
theorem dcrash_any (v : Value) (d : D) (n : Int) (w : World) (hs : SeesD w v d) (hp : d.pend.length ≤ 1000000) : Calls Tryz.prog 43 #[v, .int .i64 n] w (DPost (cr d n) w) := by
  obtain ⟨A0, c0, A1, c1, A2, c2, rfl, h0, h1, h2⟩ := hs.slices
  have hc2 : d.pend.length ≤ c2 := by obtain ⟨a, cap, e, hn⟩ := SeesN.form h2; injection e with _ _ e; omega
  have RI := Lib.hid (fun W (hb : Below w.heap.size w W) => dright_any _ d W (hs.later hb) hp)
  have PE := Lib.hid (fun W (hb : Below w.heap.size w W) (hv : valid d = true) => performed_any _ _ d.sure (d.pend.take (cnt n d.pend.length)) W (h1.later hb) ((h2.later hb).cut (cnt_le n _)) (valid_iff.1 hv).1 (by rw [List.length_take]; omega))
  have SE := Lib.hid (fun W u (h : SeesE W u (crL d n)) (hl : (crL d n).length ≤ 1000000) => dsettled_any u (crL d n) W h hl)
  have PC := Lib.hid (fun hv => perf_cut (d := d) (n := n) hv)
  unfold PerfPost at PE
  unfold DPost at SE ⊢
  have VN := Lib.hid (fun h => dcr_no (d := d) h n)
  have VO := Lib.hid (fun h => dcr_ok (d := d) h n)
  generalize crL d n = C at *
  generalize d.now.length = n0 at *
  generalize d.sure.length = n1 at *
  obtain ⟨n2, hn2⟩ : ∃ n2, n2 = d.pend.length := ⟨_, rfl⟩
  rw [← hn2] at RI PE PC hc2 ⊢
  obtain ⟨k, hk⟩ : ∃ k, k = cnt n n2 := ⟨_, rfl⟩
  rw [← hk] at PE PC
  have hki : (k : Int) = min (max n 0) (n2 : Int) := by rw [hk]; exact cnt_int n n2
  have hkn : k ≤ n2 := by rw [hk]; exact cnt_le n n2
  obtain ⟨m, hm⟩ : ∃ m : Nat, (m : Int) = max n 0 := ⟨(max n 0).toNat, by omega⟩
  have hmax : ∀ W, (Builtin.max_ #[3, 3] 3 #[.int .i64 n, .int .i64 0]).run Tryz.prog W = .ok (.int .i64 (m : Int)) W := by
    intro W
    rw [run_max_int2, hm]
    congr 2
    split <;> omega
  have hmin : ∀ W, (Builtin.min_ #[3, 3] 3 #[.int .i64 (m : Int), .int .i64 (n2 : Int)]).run Tryz.prog W = .ok (.int .i64 (k : Int)) W := by
    intro W
    rw [run_min_int2]
    congr 2
    split <;> omega
  have CU := fun W => cut_ops A2 n2 c2 k (by omega) W
  have B0 := Lib.hid ((below_made w (.cells #[.slice A0 n0 c0, .slice A1 n1 c1, .slice A2 n2 c2] 32)).alloc (below_made w _).size (.cells #[.slice none 0 0, .slice none 0 0, .slice none 0 0] 32))
  have X0 := Lib.hid ((DBox.made w (.slice A0 n0 c0) (.slice A1 n1 c1) (.slice A2 n2 c2)).later (below_made _ (.cells #[.slice none 0 0, .slice none 0 0, .slice none 0 0] 32)))
  have Y0 := Lib.hid (show DBox _ (w.heap.size + 1) _ _ _ by simpa using DBox.made (w.alloc (.cells #[.slice A0 n0 c0, .slice A1 n1 c1, .slice A2 n2 c2] 32)) (.slice none 0 0) (.slice none 0 0) (.slice none 0 0))
  clear hs h0 h1 h2 hp hn2 hk hki hm
  go_enter Tryz.func43, Tryz.ntmps43
  go_wp2_with fail
  refine (RI.out _ B0.out).mono ?_
  rintro e w1 ⟨rfl, hb1⟩
  have B1 := Lib.hid (B0.out.trans (hb1.mono B0.out.size))
  have X1 := Lib.hid (X0.out.later hb1)
  have Y1 := Lib.hid (Y0.out.later hb1)
  clear hb1 X0 Y0 B0
  cases hv : valid d with
  | false =>
    have HF := Lib.hid (VN.out hv)
    obtain ⟨y0, y1, y2⟩ := Y1.out.cells
    obtain ⟨z0, z1, z2⟩ := Y1.out.soft
    have YF := Lib.hid (Y1.out.set (.slice none 0 0) (.slice none 0 0) (.slice none 0 0))
    have BF := Lib.hid (dset_below B1.out (show w.heap.size ≤ w.heap.size + 1 by omega) (.slice none 0 0) (.slice none 0 0) (.slice none 0 0))
    clear hv SE PE PC VN VO
    go_wp2_with fail
    change bodyPost _ _ _ _ _ (dset w1 (w.heap.size + 1) (.slice none 0 0) (.slice none 0 0) (.slice none 0 0))
    generalize dset w1 (w.heap.size + 1) (.slice none 0 0) (.slice none 0 0) (.slice none 0 0) = w9 at *
    obtain ⟨y0, y1, y2⟩ := YF.out.cells
    exact bodyPost_ret (by simp [results, Tryz.results43, go_sem, y0, y1, y2]; rfl) rfl ⟨_, rfl, by rw [HF.out]; exact SeesD.zero _, BF.out⟩
  | true =>
    have HF := Lib.hid (VO.out hv)
    obtain ⟨pc, pl⟩ := PC.out hv
    have PX := Lib.hid (show ∀ W (hb : Below w.heap.size w W), Calls Tryz.prog 69 #[.slice A1 n1 c1, .slice A2 k c2] W fun e w' => ∃ v, e = .returned (.tuple #[v, .int .i64 0]) ∧ SeesE w' v C ∧ Below W.heap.size W w' from fun W hb => by
      have h := PE.out W hb hv
      rw [pc] at h
      refine h.mono ?_
      rintro e w' ⟨v, he, ho, hb⟩
      exact ⟨v, he, SeesE.of_own ho, hb⟩)
    have HL := Lib.hid pl
    have BD := Lib.hid B1.out.drew
    have XD := Lib.hid (X1.out.later (below_drew _ (Nat.le_refl _)))
    have YD := Lib.hid (Y1.out.later (below_drew _ (Nat.le_refl _)))
    obtain ⟨x0, x1, x2⟩ := X1.out.cells
    clear hv VN VO PE PC pc pl
    go_wp2_with fail
    go_region_held3 (fun W => W.cell? ⟨w.heap.size, 0, none⟩ = some (.slice A0 n0 c0) ∧ W.cell? ⟨w.heap.size, 1, none⟩ = some (.slice A1 n1 c1) ∧ W.cell? ⟨w.heap.size, 2, none⟩ = some (.slice A2 n2 c2))
      (first | exact XD.out.cells | exact hX3.cells)
      (first
        | (go_at_call 69; (with_reducible refine (PX.out _ BD.out).mono ?_); rintro e w3 ⟨v3, rfl, s3, b3⟩; have hX3 := XD.out.later b3; have hB3 := BD.out.trans (b3.mono BD.out.size)))
    all_goals
      have S3 := Lib.hid s3
      have B3 := Lib.hid hB3
      have Y3 := Lib.hid (YD.out.later b3)
      have SX := Lib.hid (SE.out _ _ S3.out HL.out)
      clear s3 b3 hX3 hB3 x0 x1 x2
      go_wp2_with fail
      refine SX.out.mono ?_
      rintro e w4 ⟨v4, rfl, s4, hb4⟩
      rw [← HF.out] at s4
      obtain ⟨E0, e0, E1, e1, E2, e2, rfl, -⟩ := s4.slices
      have B4 := Lib.hid (B3.out.trans (hb4.mono B3.out.size))
      have Y4 := Lib.hid (Y3.out.later hb4)
      have S4 := Lib.hid s4
      obtain ⟨y0, y1, y2⟩ := Y4.out.cells
      obtain ⟨z0, z1, z2⟩ := Y4.out.soft
      clear hb4 s4 HF SX
      generalize (cr d n).now.length = m0 at *
      generalize (cr d n).sure.length = m1 at *
      generalize (cr d n).pend.length = m2 at *
      have YF := Lib.hid (Y4.out.set (.slice E0 m0 e0) (.slice E1 m1 e1) (.slice E2 m2 e2))
      have HF2 := Lib.hid (show SeesD (dset w4 (w.heap.size + 1) (.slice E0 m0 e0) (.slice E1 m1 e1) (.slice E2 m2 e2)) (.agg #[.slice E0 m0 e0, .slice E1 m1 e1, .slice E2 m2 e2]) (cr d n) ∧ Below w.heap.size w (dset w4 (w.heap.size + 1) (.slice E0 m0 e0) (.slice E1 m1 e1) (.slice E2 m2 e2)) from
        ⟨S4.out.dset Y4.out _ _ _, dset_below B4.out (by omega) _ _ _⟩)
      go_wp2_with fail
      change bodyPost _ _ _ _ _ (dset w4 (w.heap.size + 1) (.slice E0 m0 e0) (.slice E1 m1 e1) (.slice E2 m2 e2))
      generalize dset w4 (w.heap.size + 1) (.slice E0 m0 e0) (.slice E1 m1 e1) (.slice E2 m2 e2) = w9 at *
      obtain ⟨y0, y1, y2⟩ := YF.out.cells
      exact bodyPost_ret (by simp [results, Tryz.results43, go_sem, y0, y1, y2]) rfl ⟨_, rfl, HF2.out.1, HF2.out.2⟩
end Go.Proofs.YtaklilhnikmmfaaGreat

/-
  The walk of Do.
-/
namespace Go.Proofs.YtaklilhnikmmfaaGreat
open Go.RowKit StrM DirM

theorem doE_no {d : D} (h : valid d = false) (o : O) : doE d o = 10 := by unfold doE; rw [h]; rfl
theorem doE_ok {d : D} (h : valid d = true) (o : O) : doE d o = err d.now o := by unfold doE; rw [h]; rfl
theorem doD_no {d : D} (h : valid d = false) (o : O) : doD d o = zd := by unfold doD; rw [h]; rfl
theorem doD_err {d : D} {o : O} (h : valid d = true) (he : ¬ err d.now o = 0) : doD d o = zd := by unfold doD; rw [h, if_pos rfl, if_neg he]
theorem doD_ok {d : D} {o : O} (h : valid d = true) (he : err d.now o = 0) : doD d o = ⟨done d.now o, d.sure, d.pend ++ [o]⟩ := by unfold doD; rw [h, if_pos rfl, if_pos he]
theorem all_one (l : List E) (o : O) : all l [o] = if err l o = 0 then (done l o, 0) else ([], err l o) := rfl

/-- The row of operations is copied, and what was copied ahead of it stays. -/
def Mid6 (w2 : World) (B : Nat) (vS v4 : Value) (d : D) (W : World) : Prop :=
  W.ownsRow B 65 4 v4 d.pend.length (ocs d.pend) ∧ B ≤ W.heap.size ∧ w2.heap.size ≤ B ∧ (∀ W', Below B W W' → SeesE W' vS d.sure) ∧ Below w2.heap.size w2 W
theorem Mid6.done {w2 w6 : World} {B : Nat} {vS v4 v6 : Value} {d : D} {o : O} {W W1 : World} (h : Mid6 w2 B vS v4 d W) (h1 : Below B W W1) (ho : w6.ownsRow B 65 4 v6 (d.pend.length + 1) (ocs d.pend ++ oc o)) (hb : Below B W1 w6) :
    SeesO w6 v6 (d.pend ++ [o]) ∧ SeesE w6 vS d.sure ∧ Below w2.heap.size w2 w6 := by
  refine ⟨?_, h.2.2.2.1 _ (h1.trans hb), h.2.2.2.2.trans ((h1.trans hb).mono h.2.2.1)⟩
  have : SeesN w6 v6 (d.pend.length + 1) (ocs d.pend ++ oc o) := SeesN.of_own ho
  unfold SeesO
  rw [List.length_append, ocs_add]
  exact this

set_option maxHeartbeats 8000000 in
set_option maxRecDepth 100000 in
theorem ddo_any (v : Value) (d : D) (o : O) (w : World) (hs : SeesD w v d) (hp : d.pend.length ≤ 999999) :
    Calls Tryz.prog 48 #[v, .agg #[.int .i64 o.kind, .string o.name, .string o.dst, .int .i64 o.node]] w (DEPost (doD d o) (doE d o) w) := by
  obtain ⟨A0, c0, A1, c1, A2, c2, rfl, h0, h1, h2⟩ := hs.slices
  have RI := Lib.hid (fun W (hb : Below w.heap.size w W) => dright_any _ d W (hs.later hb) (by omega))
  have PE := Lib.hid (fun W u (hb : Below w.heap.size w W) (hu : SeesO W u [o]) (hv : valid d = true) => performed_any _ _ d.now [o] W (h0.later hb) hu (valid_now hv) (by simp))
  have CE := Lib.hid (fun W (hb : Below w.heap.size w W) (hv : valid d = true) => cloneE_any _ d.sure W (h1.later hb) (by have := (valid_iff.1 hv).1.few; omega))
  have CO := Lib.hid (fun W (hb : Below w.heap.size w W) => cloneO_any _ d.pend W (h2.later hb) (by omega))
  unfold PerfPost at PE
  rw [all_one] at PE
  unfold CloneE at CE
  unfold CloneO at CO
  unfold DEPost
  have VN := Lib.hid (fun h => doD_no (d := d) h o)
  have VE := Lib.hid (fun h => doD_err (d := d) (o := o) h)
  have VO := Lib.hid (fun h => doD_ok (d := d) (o := o) h)
  have WN := Lib.hid (fun h => doE_no (d := d) h o)
  have WO := Lib.hid (fun h => doE_ok (d := d) h o)
  have SO := Lib.hid (fun W : World => SeesN.one W 65 (oc o))
  have HPL := Lib.hid hp
  obtain ⟨n0, e0⟩ : ∃ n, n = d.now.length := ⟨_, rfl⟩
  obtain ⟨n1, e1⟩ : ∃ n, n = d.sure.length := ⟨_, rfl⟩
  obtain ⟨n2, e2⟩ : ∃ n, n = d.pend.length := ⟨_, rfl⟩
  rw [← e0] at RI PE ⊢
  rw [← e1] at RI CE ⊢
  rw [← e2] at RI CO HPL ⊢
  have HN1 := Lib.hid e1
  have HN2 := Lib.hid e2
  have B0 := Lib.hid (((below_made w (.cells #[.slice A0 n0 c0, .slice A1 n1 c1, .slice A2 n2 c2] 32)).alloc (below_made w _).size (.cells #[.int .i64 o.kind, .string o.name, .string o.dst, .int .i64 o.node] 65)).alloc ((below_made w _).alloc (below_made w _).size _).size (.cells #[.slice none 0 0, .slice none 0 0, .slice none 0 0] 32))
  have X0 := Lib.hid (((DBox.made w (.slice A0 n0 c0) (.slice A1 n1 c1) (.slice A2 n2 c2)).later (below_made _ (.cells #[.int .i64 o.kind, .string o.name, .string o.dst, .int .i64 o.node] 65))).later (below_made _ (.cells #[.slice none 0 0, .slice none 0 0, .slice none 0 0] 32)))
  have P0 := Lib.hid (show OBox _ (w.heap.size + 1) _ by simpa using (OBox.made (w.alloc (.cells #[.slice A0 n0 c0, .slice A1 n1 c1, .slice A2 n2 c2] 32)) o).later (below_made _ (.cells #[.slice none 0 0, .slice none 0 0, .slice none 0 0] 32)))
  have Y0 := Lib.hid (show DBox _ (w.heap.size + 1 + 1) _ _ _ by simpa using DBox.made ((w.alloc (.cells #[.slice A0 n0 c0, .slice A1 n1 c1, .slice A2 n2 c2] 32)).alloc (.cells #[.int .i64 o.kind, .string o.name, .string o.dst, .int .i64 o.node] 65)) (.slice none 0 0) (.slice none 0 0) (.slice none 0 0))
  clear hs h0 h1 h2 hp e0 e1 e2
  obtain ⟨er, her⟩ : ∃ er, er = err d.now o := ⟨_, rfl⟩
  rw [← her] at PE VE VO WO
  have HER := Lib.hid her
  have HO := Lib.hid (show o = ⟨o.kind, o.name, o.dst, o.node⟩ from rfl)
  obtain ⟨nx, hnx⟩ : ∃ nx, nx = done d.now o := ⟨_, rfl⟩
  rw [← hnx] at PE VO
  have dl : d.pend ++ [o] = d.pend ++ [o] := rfl
  obtain ⟨de, hde⟩ : ∃ de, de = doD d o := ⟨_, rfl⟩
  obtain ⟨ee, hee⟩ : ∃ ee, ee = doE d o := ⟨_, rfl⟩
  rw [← hde] at VN VE VO ⊢
  rw [← hee] at WN WO ⊢
  have OC := Lib.hid (show oc o = [.int .i64 o.kind, .string o.name, .string o.dst, .int .i64 o.node] from rfl)
  obtain ⟨lp, hlp⟩ : ∃ lp, lp = d.pend ++ [o] := ⟨_, rfl⟩
  rw [← hlp] at VO
  have HLP := Lib.hid hlp
  obtain ⟨us, hus⟩ : ∃ us, us = oc o := ⟨_, rfl⟩
  have HUS := Lib.hid hus
  rw [← hus] at SO OC
  have US4 := Lib.hid (show us.length = 4 by rw [hus]; rfl)
  have US1 := Lib.hid (show ∀ c ∈ us, c.oneCell' = true by rw [hus]; exact oc_ones o)
  have PF := Lib.hid (fun W u (hb : Below w.heap.size w W) (hu : SeesN W u 1 us) hv => PE.out W u hb (show SeesN W u 1 (ocs [o]) by rw [ocs_one, ← hus]; exact hu) hv)
  clear her hnx dl hde hee hlp hus PE
  obtain ⟨kd, nm, ds, nd⟩ := o
  simp only at B0 X0 P0 Y0 OC ⊢
  have UA := OC.out
  go_enter Tryz.func48, Tryz.ntmps48
  go_wp2_with fail
  refine (RI.out _ B0.out).mono ?_
  rintro e w1 ⟨rfl, hb1⟩
  have B1 := Lib.hid (B0.out.trans (hb1.mono B0.out.size))
  have X1 := Lib.hid (X0.out.later hb1)
  have P1 := Lib.hid (P0.out.later hb1)
  have Y1 := Lib.hid (Y0.out.later hb1)
  clear hb1 X0 Y0 B0 P0 RI
  cases hv : valid d with
  | false =>
    have HF := Lib.hid (VN.out hv)
    have HE := Lib.hid (WN.out hv)
    obtain ⟨y0, y1, y2⟩ := Y1.out.cells
    obtain ⟨z0, z1, z2⟩ := Y1.out.soft
    have YF := Lib.hid (Y1.out.set (.slice none 0 0) (.slice none 0 0) (.slice none 0 0))
    have BF := Lib.hid (dset_below B1.out (show w.heap.size ≤ w.heap.size + 1 + 1 by omega) (.slice none 0 0) (.slice none 0 0) (.slice none 0 0))
    clear hv CE CO PF VN VO VE WN WO UA
    go_wp2_with fail
    change bodyPost _ _ _ _ _ (dset w1 (w.heap.size + 1 + 1) (.slice none 0 0) (.slice none 0 0) (.slice none 0 0))
    generalize dset w1 (w.heap.size + 1 + 1) (.slice none 0 0) (.slice none 0 0) (.slice none 0 0) = w9 at *
    obtain ⟨y0, y1, y2⟩ := YF.out.cells
    exact bodyPost_ret (by simp [results, Tryz.results48, go_sem, y0, y1, y2]; rfl) rfl ⟨_, by rw [HE.out], by rw [HF.out]; exact SeesD.zero _, BF.out⟩
  | true =>
    have HE := Lib.hid (WO.out hv)
    have CF := Lib.hid (fun W hb => CE.out W hb hv)
    have VF := Lib.hid (VE.out hv)
    have VP := Lib.hid (VO.out hv)
    clear CE VE VO
    have PX := Lib.hid (PF.out (w1.alloc (.cells #[.int .i64 kd, .string nm, .string ds, .int .i64 nd] 65)) (.slice (some ⟨w1.heap.size, 0, none⟩) 1 1) (B1.out.alloc B1.out.size _) (by have h := SO.out w1; rw [UA] at h ⊢; exact h) hv)
    have XA := Lib.hid (X1.out.later (below_made w1 (.cells #[.int .i64 kd, .string nm, .string ds, .int .i64 nd] 65)))
    have PA := Lib.hid (P1.out.later (below_made w1 (.cells #[.int .i64 kd, .string nm, .string ds, .int .i64 nd] 65)))
    have YA := Lib.hid (Y1.out.later (below_made w1 (.cells #[.int .i64 kd, .string nm, .string ds, .int .i64 nd] 65)))
    have BA := Lib.hid (B1.out.alloc B1.out.size (.cells #[.int .i64 kd, .string nm, .string ds, .int .i64 nd] 65))
    obtain ⟨x0, x1, x2⟩ := X1.out.cells
    obtain ⟨p0, p1, p2, p3⟩ := P1.out.cells
    simp only at p0 p1 p2 p3
    clear hv VN WN WO PF UA
    go_wp2_with fail
    refine PX.out.mono ?_
    rintro e w2 ⟨v2, rfl, ho2, hb2⟩
    have B2 := Lib.hid (BA.out.trans (hb2.mono BA.out.size))
    have X2 := Lib.hid (XA.out.later hb2)
    have P2 := Lib.hid (PA.out.later hb2)
    have Y2 := Lib.hid (YA.out.later hb2)
    clear hb2 X1 P1 Y1 B1 XA PA YA BA x0 x1 x2 p0 p1 p2 p3 PX
    by_cases h0 : er = 0
    · subst h0
      rw [if_pos rfl] at ho2 ⊢
      have S2 := Lib.hid (SeesE.of_own ho2)
      have HF := Lib.hid (VP.out rfl)
      obtain ⟨m0, hm0⟩ : ∃ m, m = nx.length := ⟨_, rfl⟩
      obtain ⟨D0, d0, rfl, -⟩ := SeesN.form S2.out
      rw [← hm0] at S2 ⊢
      clear VF VP ho2 hm0
      have HB2 := Lib.hid (fun W (hb : Below w2.heap.size w2 W) => B2.out.trans (hb.mono B2.out.size))
      have CX := Lib.hid (show ∀ W (hb : Below w2.heap.size w2 W), Calls Tryz.prog 78 #[.slice A1 n1 c1] W fun e w' => ∃ A c, e = .returned (.slice A n1 c) ∧ SeesE w' (.slice A n1 c) d.sure ∧ Below W.heap.size W w' ∧ Below w2.heap.size w2 w' from fun W hb => by
        refine (CF.out W (HB2.out W hb)).mono ?_
        rintro e w' ⟨v, he, ho, hb'⟩
        have hS := SeesE.of_own ho
        obtain ⟨A, c, rfl, -⟩ := SeesN.form hS
        rw [← HN1.out] at he hS
        exact ⟨A, c, he, hS, hb', hb.trans (hb'.mono hb.size)⟩)
      have CY := Lib.hid (show ∀ W vS (hb : Below w2.heap.size w2 W) (hS : SeesE W vS d.sure), Calls Tryz.prog 79 #[.slice A2 n2 c2] W fun e w' => ∃ v4, e = .returned v4 ∧ Below W.heap.size W w' ∧ Mid6 w2 W.heap.size vS v4 d w' from fun W vS hb hS => by
        refine (CO.out W (HB2.out W hb)).mono ?_
        rintro e w' ⟨v, he, ho, hb'⟩
        exact ⟨v, he, hb', ho, hb'.size, hb.size, fun W' hW' => hS.later (hb'.trans hW'), hb.trans (hb'.mono hb.size)⟩)
      have KD : Below w2.heap.size w2 w2.drew := below_drew _ (Nat.le_refl _)
      have KA : Below w2.heap.size w2 (w2.alloc (.cells #[.int .i64 kd, .string nm, .string ds, .int .i64 nd] 65)).drew := (below_made w2 _).drew
      have SA := Lib.hid (show SeesN (w2.alloc (.cells #[.int .i64 kd, .string nm, .string ds, .int .i64 nd] 65)).drew (.slice (some ⟨w2.heap.size, 0, none⟩) 1 1) 1 us from by
        have h := SO.out w2
        rw [OC.out] at h ⊢
        exact SeesN.later h (below_drew _ (Nat.le_refl _)))
      have SB := Lib.hid (show ∀ W : World, SeesN (W.alloc (.cells #[.int .i64 kd, .string nm, .string ds, .int .i64 nd] 65)) (.slice (some ⟨W.heap.size, 0, none⟩) 1 1) 1 us from fun W => by
        have h := SO.out W
        rw [OC.out] at h ⊢
        exact h)
      have HC := Lib.hid (show ∀ W, Below w2.heap.size w2 W → (W.cell? ⟨w.heap.size, 1, none⟩ = some (.slice A1 n1 c1) ∧ W.cell? ⟨w.heap.size, 2, none⟩ = some (.slice A2 n2 c2)) ∧ W.cell? ⟨w.heap.size + 1, 0, none⟩ = some (.int .i64 kd) ∧ W.cell? ⟨w.heap.size + 1, 1, none⟩ = some (.string nm) ∧ W.cell? ⟨w.heap.size + 1, 2, none⟩ = some (.string ds) ∧ W.cell? ⟨w.heap.size + 1, 3, none⟩ = some (.int .i64 nd) from
        fun W hb => ⟨(X2.out.later hb).cells.2, (P2.out.later hb).cells⟩)
      have N1 := Lib.hid (show (d.pend.length + 1) * 48 ≤ 140737488355328 by have := HPL.out; rw [← HN2.out]; omega)
      have N2 := Lib.hid (show d.pend.length + 1 ≤ maxLen by have := HPL.out; rw [← HN2.out]; unfold maxLen; omega)
      have hq1 : w.heap.size ≠ w.heap.size + 1 + 1 := by omega
      have hq2 : w.heap.size + 1 ≠ w.heap.size + 1 + 1 := by omega
      obtain ⟨⟨x1, x2⟩, p0, p1, p2, p3⟩ := HC.out _ (Below.refl _ _)
      clear CF CO
      go_wp2_with fail
      go_region_held3 (fun W => W.cell? ⟨w.heap.size, 1, none⟩ = some (.slice A1 n1 c1) ∧ W.cell? ⟨w.heap.size, 2, none⟩ = some (.slice A2 n2 c2) ∧ W.cell? ⟨w.heap.size + 1, 0, none⟩ = some (.int .i64 kd) ∧ W.cell? ⟨w.heap.size + 1, 1, none⟩ = some (.string nm) ∧ W.cell? ⟨w.heap.size + 1, 2, none⟩ = some (.string ds) ∧ W.cell? ⟨w.heap.size + 1, 3, none⟩ = some (.int .i64 nd))
        (first | exact and_assoc.1 (HC.out _ KD) | exact and_assoc.1 (HC.out _ KA) | exact and_assoc.1 (HC.out _ k6) | exact and_assoc.1 (HC.out _ m4.2.2.2.2) | exact and_assoc.1 (HC.out _ (m4.2.2.2.2.alloc m4.2.2.2.2.size _)) | exact and_assoc.1 (HC.out _ k3) | exact and_assoc.1 (HC.out _ (k3.alloc k3.size _)) | exact ⟨(dset_cell hq1 _ _ _).trans (HC.out _ k6).1.1, (dset_cell hq1 _ _ _).trans (HC.out _ k6).1.2, (dset_cell hq2 _ _ _).trans (HC.out _ k6).2.1, (dset_cell hq2 _ _ _).trans (HC.out _ k6).2.2.1, (dset_cell hq2 _ _ _).trans (HC.out _ k6).2.2.2.1, (dset_cell hq2 _ _ _).trans (HC.out _ k6).2.2.2.2⟩)
        (first
          | (go_at_call 78; (with_reducible refine (CX.out _ (by assumption)).mono ?_); rintro e w3 ⟨A3, c3, rfl, s3, b3, k3⟩)
          | (go_at_call 79; (first | (with_reducible refine (CY.out _ _ k3 s3).mono ?_) | (with_reducible refine (CY.out _ _ (k3.alloc k3.size _) (s3.later (below_made _ _))).mono ?_)); rintro e w4 ⟨v4, rfl, b4, m4⟩)
          | (refine step_append_n1 nOp rfl (.tmp 30) (.tmp 32) rfl _ v4 d.pend.length (ocs d.pend) (by simp [Act.eval]) m4.1 us _ (by simp [Act.eval]) ((SA.out.later b3).later b4) US4.out US1.out N1.out N2.out m4.2.1 ?_; intro v6 w6 o6 b6 st6; have hX := m4.done (o := ⟨kd, nm, ds, nd⟩) (Below.refl _ _) (by rw [← HUS.out]; exact o6) b6; have k6 := hX.2.2; obtain ⟨A6, c6, rfl, -⟩ := SeesN.form (SeesN.of_own o6); have hY6 := Y2.out.later k6; obtain ⟨y0, y1, y2⟩ := hY6.cells; obtain ⟨z0, z1, z2⟩ := hY6.soft)
          | (refine step_append_n1 nOp rfl (.tmp 30) (.tmp 32) rfl _ v4 d.pend.length (ocs d.pend) (by simp [Act.eval]) m4.1 us _ (by simp [Act.eval]) ((SB.out w3).later b4) US4.out US1.out N1.out N2.out m4.2.1 ?_; intro v6 w6 o6 b6 st6; have hX := m4.done (o := ⟨kd, nm, ds, nd⟩) (Below.refl _ _) (by rw [← HUS.out]; exact o6) b6; have k6 := hX.2.2; obtain ⟨A6, c6, rfl, -⟩ := SeesN.form (SeesN.of_own o6); have hY6 := Y2.out.later k6; obtain ⟨y0, y1, y2⟩ := hY6.cells; obtain ⟨z0, z1, z2⟩ := hY6.soft)
          | (refine step_append_n1 nOp rfl (.tmp 30) (.tmp 32) rfl _ v4 d.pend.length (ocs d.pend) (by simp [Act.eval]) (m4.1.alloc _) us _ (by simp [Act.eval]) (SB.out w4) US4.out US1.out N1.out N2.out (by have := m4.2.1; simp; omega) ?_; intro v6 w6 o6 b6 st6; have hX := m4.done (o := ⟨kd, nm, ds, nd⟩) ((Below.refl _ _).alloc m4.2.1 _) (by rw [← HUS.out]; exact o6) b6; have k6 := hX.2.2; obtain ⟨A6, c6, rfl, -⟩ := SeesN.form (SeesN.of_own o6); have hY6 := Y2.out.later k6; obtain ⟨y0, y1, y2⟩ := hY6.cells; obtain ⟨z0, z1, z2⟩ := hY6.soft))
      all_goals
        have HF2 := Lib.hid (show SeesD (dset w6 (w.heap.size + 1 + 1) (.slice D0 m0 d0) (.slice A3 n1 c3) (.slice A6 (d.pend.length + 1) c6)) (.agg #[.slice D0 m0 d0, .slice A3 n1 c3, .slice A6 (d.pend.length + 1) c6]) de ∧ Below w.heap.size w (dset w6 (w.heap.size + 1 + 1) (.slice D0 m0 d0) (.slice A3 n1 c3) (.slice A6 (d.pend.length + 1) c6)) from
          ⟨by rw [HF.out, HLP.out]; exact ⟨_, _, _, rfl, (S2.out.later k6).dset hY6 _ _ _, hX.2.1.dset hY6 _ _ _, hX.1.dset hY6 _ _ _⟩, dset_below (B2.out.trans (k6.mono B2.out.size)) (by omega) _ _ _⟩)
        have YF := Lib.hid (hY6.set (.slice D0 m0 d0) (.slice A3 n1 c3) (.slice A6 (d.pend.length + 1) c6))
        clear hX k6 hY6 y0 y1 y2 z0 z1 z2 o6 b6 st6 m4 b4 s3 b3 k3
        go_wp2_with fail
        change bodyPost _ _ _ _ _ (dset w6 (w.heap.size + 1 + 1) (.slice D0 m0 d0) (.slice A3 n1 c3) (.slice A6 (d.pend.length + 1) c6))
        generalize dset w6 (w.heap.size + 1 + 1) (.slice D0 m0 d0) (.slice A3 n1 c3) (.slice A6 (d.pend.length + 1) c6) = w9 at *
        obtain ⟨y0, y1, y2⟩ := YF.out.cells
        exact bodyPost_ret (by simp [results, Tryz.results48, go_sem, y0, y1, y2]; rfl) rfl ⟨_, by rw [HE.out], HF2.out.1, HF2.out.2⟩
    · rw [if_neg h0] at ho2 ⊢
      have HF := Lib.hid (VF.out h0)
      have d1 : (er == 0) = false := by simpa using h0
      obtain ⟨y0, y1, y2⟩ := Y2.out.cells
      obtain ⟨z0, z1, z2⟩ := Y2.out.soft
      have YF := Lib.hid (Y2.out.set (.slice none 0 0) (.slice none 0 0) (.slice none 0 0))
      have BF := Lib.hid (dset_below B2.out (show w.heap.size ≤ w.heap.size + 1 + 1 by omega) (.slice none 0 0) (.slice none 0 0) (.slice none 0 0))
      clear VF VP CF CO ho2 h0
      go_wp2_with fail
      change bodyPost _ _ _ _ _ (dset w2 (w.heap.size + 1 + 1) (.slice none 0 0) (.slice none 0 0) (.slice none 0 0))
      generalize dset w2 (w.heap.size + 1 + 1) (.slice none 0 0) (.slice none 0 0) (.slice none 0 0) = w9 at *
      obtain ⟨y0, y1, y2⟩ := YF.out.cells
      exact bodyPost_ret (by simp [results, Tryz.results48, go_sem, y0, y1, y2]; rfl) rfl ⟨_, by rw [HE.out], by rw [HF.out]; exact SeesD.zero _, BF.out⟩
end Go.Proofs.YtaklilhnikmmfaaGreat

/-
  The walks of the reference's At, Without and With.
-/
namespace Go.Proofs.YtaklilhnikmmfaaGreat
open Go.RowKit StrM DirM

theorem av_at {l : List E} {nm : ByteArray} {k : Nat} (hk : k < l.length) (h0 : ∀ j (hj : j < k), (l[j]'(by omega)).name ≠ nm) (h : l[k].name = nm) : av l nm = (k : Int) := by
  have := fnd_at l nm k hk h0 h
  simp [av, this]
theorem av_not {l : List E} {nm : ByteArray} (h0 : ∀ j (hj : j < l.length), l[j].name ≠ nm) : av l nm = -1 := by
  have := fnd_none l nm (fun x hx => by obtain ⟨j, hj, rfl⟩ := List.mem_iff_getElem.1 hx; exact h0 j hj)
  simp [av, this]
theorem ret_int11 {a b : Int} (h : a = b) : Ending.returned (.int .i64 a) = .returned (.int .i64 b) := by rw [h]

set_option maxHeartbeats 2000000 in
set_option maxRecDepth 100000 in
theorem rat_any (v : Value) (l : List E) (nm : ByteArray) (w : World) (hs : SeesE w v l) (hn : l.length ≤ 1000000) :
    Calls Tryz.prog 41 #[v, .string nm] w fun e w' => e = .returned (.int .i64 (av l nm)) ∧ w = w' := by
  obtain ⟨A, c, rfl, -⟩ := SeesN.form hs
  obtain ⟨n, e0⟩ : ∃ n, n = l.length := ⟨_, rfl⟩
  rw [← e0] at hs hn ⊢
  have HS := Lib.hid hs
  have HN := Lib.hid e0
  clear hs e0
  obtain ⟨r, hr⟩ : ∃ r, r = av l nm := ⟨_, rfl⟩
  rw [← hr]
  have HR := Lib.hid hr
  clear hr
  go_enter Tryz.func41, Tryz.ntmps41
  go_wp2_with fail
  go_loopw [5] (fun i wr => ∃ k : Nat, k ≤ n ∧ i = .int .i64 (k : Int) ∧ w = wr ∧ ∀ j (hj : j < l.length), j < k → l[j].name ≠ nm) (fun i _ => n - (intOf i).toNat)
  case atStart => exact ⟨0, Nat.zero_le _, rfl, rfl, fun j _ h => by omega⟩
  case round =>
    obtain ⟨k, hk, rfl, rfl, ha⟩ := hrel
    have HA := Lib.hid ha
    clear ha
    by_cases hlt : k < n
    · have k1 : k < l.length := by rw [← HN.out]; exact hlt
      have hlt' : (k : Int) < (n : Int) := by omega
      obtain ⟨g, off, rfl, hg, hc1, hc2⟩ := SeesE.cells HS.out k1
      have FA := Lib.hid (av_at (nm := nm) k1 (fun j hj => HA.out j (by omega) hj))
      have UP := Lib.hid (fun (h : l[k].name ≠ nm) j (hj : j < l.length) (hjk : j < k + 1) => show l[j].name ≠ nm by
          by_cases e : j = k
          · subst e; exact h
          · exact HA.out j hj (by omega))
      generalize l[k] = x at *
      obtain ⟨xn, xm⟩ := x
      simp only at hc1 hc2 FA UP
      by_cases e : xn = nm
      · subst e
        have HX := Lib.hid (show (k : Int) = r by rw [HR.out, FA.out rfl])
        clear FA UP
        go_wp2_with fail
        go_ret
        exact ⟨ret_int11 HX.out, rfl⟩
      · have HX := Lib.hid (UP.out e)
        have d1 := name_ne e
        clear FA UP e
        go_wp2_with fail
        go_roundw
        case rel => exact ⟨k + 1, by omega, by go_num, trivial, HX.out⟩
        case measure => simp [intOf]; omega
    · have HX := Lib.hid (show -1 = r by rw [HR.out, av_not (fun j hj => HA.out j hj (by have := HN.out; omega))])
      go_wp2_with fail
      go_ret
      exact ⟨ret_int11 HX.out, rfl⟩

theorem wo_take_ne {l : List E} {nm : ByteArray} {k : Nat} (hk : k < l.length) (h : l[k].name ≠ nm) : wo (l.take (k + 1)) nm = wo (l.take k) nm ++ [l[k]] := by
  unfold wo
  rw [List.take_succ_eq_append_getElem hk, List.filter_append]
  simp [h]
theorem wo_take_eq {l : List E} {nm : ByteArray} {k : Nat} (hk : k < l.length) (h : l[k].name = nm) : wo (l.take (k + 1)) nm = wo (l.take k) nm := by
  unfold wo
  rw [List.take_succ_eq_append_getElem hk, List.filter_append]
  simp [h]
theorem wo_take_len (l : List E) (nm : ByteArray) (k : Nat) : (wo (l.take k) nm).length ≤ k := Nat.le_trans (len_wo _ _) (by rw [List.length_take]; omega)

/-- What a function that hands back entries returns. -/
def EPost (l : List E) (w : World) (e : Ending) (w' : World) : Prop := ∃ v, e = .returned v ∧ SeesE w' v l ∧ Below w.heap.size w w'

theorem own_next {w : World} {base m : Nat} {v : Value} {cur : List E} {x : E} (hm : m = cur.length) (h : w.ownsRow base 67 2 v (m + 1) (ecs cur ++ ec x)) : OwnE w base v (cur ++ [x]) := by
  subst hm
  unfold OwnE
  rw [List.length_append, ecs_add, ecs_one]
  exact h

set_option maxHeartbeats 2000000 in
set_option maxRecDepth 100000 in
theorem rwithout_any (v : Value) (l : List E) (nm : ByteArray) (w : World) (hs : SeesE w v l) (hn : l.length ≤ 1000000) :
    Calls Tryz.prog 104 #[v, .string nm] w (EPost (wo l nm) w) := by
  obtain ⟨A, c, rfl, -⟩ := SeesN.form hs
  obtain ⟨n, e0⟩ : ∃ n, n = l.length := ⟨_, rfl⟩
  rw [← e0] at hs hn ⊢
  have HS := Lib.hid (fun W (hb : Below w.heap.size w W) => SeesE.later (l := l) hs hb)
  have HN := Lib.hid e0
  have HO := Lib.hid (own_madeN w 67 2)
  have HB0 := Lib.hid (below_made w (.cells #[] 67))
  clear hs e0
  unfold EPost
  go_enter Tryz.func104, Tryz.ntmps104
  go_wp2_with fail
  go_loopw [5, 6] (fun x i wr => ∃ k : Nat, k ≤ n ∧ i = .int .i64 (k : Int) ∧ OwnE wr w.heap.size x (wo (l.take k) nm) ∧ Below w.heap.size w wr) (fun _ i _ => n - (intOf i).toNat)
  case atStart => exact ⟨0, Nat.zero_le _, rfl, HO.out, HB0.out⟩
  case round =>
    clear HO HB0
    obtain ⟨k, hk, rfl, ho, hb⟩ := hrel
    have HO := Lib.hid ho
    have HB := Lib.hid hb
    clear ho hb
    by_cases hlt : k < n
    · have k1 : k < l.length := by rw [← HN.out]; exact hlt
      have hlt' : (k : Int) < (n : Int) := by omega
      obtain ⟨g, off, rfl, hg, hc1, hc2⟩ := (HS.out _ HB.out).cells k1
      have UN := Lib.hid (wo_take_ne (nm := nm) k1)
      have UE := Lib.hid (wo_take_eq (nm := nm) k1)
      have LE := Lib.hid (wo_take_len l nm k)
      obtain ⟨B, d, hx, -⟩ := (SeesN.of_own HO.out).form
      subst hx
      generalize wo (l.take k) nm = cur at *
      obtain ⟨m, hm⟩ : ∃ m, m = cur.length := ⟨_, rfl⟩
      have HM := Lib.hid hm
      have O1 := Lib.hid (show wr.ownsRow w.heap.size 67 2 (.slice B m d) m (ecs cur) by rw [hm]; exact HO.out)
      rw [← hm] at LE ⊢
      generalize l[k] = x at *
      obtain ⟨xn, xm⟩ := x
      simp only at hc1 hc2 UN UE
      clear hm
      by_cases e : xn = nm
      · subst e
        have HX := Lib.hid (UE.out rfl)
        have O2 := Lib.hid (show OwnE wr w.heap.size (.slice B m d) (wo (l.take (k + 1)) xn) by rw [HX.out]; exact (by show wr.ownsRow _ _ _ _ _ _; rw [← HM.out]; exact O1.out))
        clear UN UE HO
        go_wp2_with fail
        go_roundw
        case rel => exact ⟨k + 1, by omega, by go_num, O2.out, HB.out⟩
        case measure => simp [intOf]; omega
      · have HX := Lib.hid (UN.out e)
        have d1 := name_ne e
        clear UN UE e HO
        go_wp2_with (at_builtin; refine append_n1 nEntry rfl (.tmp 21) (.tmp 26) rfl w.heap.size _ m (ecs cur) rfl O1.out (ec ⟨xn, xm⟩) _ rfl rfl rfl (ec_ones _) ?a1 ?a2 HB.out.size ?_)
        case a1 => have := LE.out; omega
        case a2 => have := LE.out; unfold maxLen; omega
        intro v' w' h2 h3 h4
        have O3 := Lib.hid (show OwnE w' w.heap.size v' (wo (l.take (k + 1)) nm) by rw [HX.out]; exact own_next HM.out h2)
        have B3 := Lib.hid (HB.out.trans h3)
        clear h2 h3 h4
        go_wp2_with fail
        go_roundw
        case rel => exact ⟨k + 1, by omega, by go_num, O3.out, B3.out⟩
        case measure => simp [intOf]; omega
    · have HX := Lib.hid (show wo (l.take k) nm = wo l nm by rw [List.take_of_length_le (by rw [← HN.out]; omega)])
      go_wp2_with fail
      go_ret
      exact ⟨_, rfl, by rw [← HX.out]; exact SeesE.of_own HO.out, HB.out⟩

/-- What With has made of the first k entries, and what is left. -/
def WAt (x : E) (l : List E) (k : Nat) (p : Bool) (cur : List E) : Prop := cur ++ (if p then l.drop k else wi x (l.drop k)) = wi x l ∧ cur.length ≤ k + 1
theorem WAt.start (x : E) (l : List E) : WAt x l 0 false [] := ⟨rfl, Nat.zero_le _⟩
theorem WAt.put {x : E} {l : List E} {k : Nat} {cur : List E} (h : WAt x l k true cur) (hk : k < l.length) : WAt x l (k + 1) true (cur ++ [l[k]]) := by
  have e := h.1
  rw [if_pos rfl, List.drop_eq_getElem_cons hk] at e
  exact ⟨by rw [if_pos rfl, ← e]; simp, by rw [List.length_append]; exact Nat.succ_le_succ h.2⟩
theorem WAt.less {x : E} {l : List E} {k : Nat} {cur : List E} (h : WAt x l k false cur) (hc : cur.length ≤ k) (hk : k < l.length) (hl : lt x.name l[k].name = true) : WAt x l (k + 1) true (cur ++ [x] ++ [l[k]]) := by
  have e := h.1
  rw [if_neg (by decide), List.drop_eq_getElem_cons hk, wi, if_pos hl] at e
  exact ⟨by rw [if_pos rfl, ← e]; simp, by simp; omega⟩
theorem WAt.more {x : E} {l : List E} {k : Nat} {cur : List E} (h : WAt x l k false cur) (hk : k < l.length) (hl : ¬ lt x.name l[k].name = true) : WAt x l (k + 1) false (cur ++ [l[k]]) := by
  have e := h.1
  rw [if_neg (by decide), List.drop_eq_getElem_cons hk, wi, if_neg hl] at e
  exact ⟨by rw [if_neg (by decide), ← e]; simp, by rw [List.length_append]; exact Nat.succ_le_succ h.2⟩
theorem WAt.last {x : E} {l : List E} {k : Nat} {cur : List E} (hk : l.length ≤ k) (h : WAt x l k true cur) : cur = wi x l := by
  have e := h.1
  rw [if_pos rfl, List.drop_eq_nil_of_le hk, List.append_nil] at e
  exact e
theorem WAt.last' {x : E} {l : List E} {k : Nat} {cur : List E} (hk : l.length ≤ k) (h : WAt x l k false cur) : cur ++ [x] = wi x l := by
  have e := h.1
  rw [if_neg (by decide), List.drop_eq_nil_of_le hk, wi] at e
  exact e
theorem EBox.later {w w' : World} {q : Nat} {s : ByteArray} {n : Int} (h : EBox w q s n) (hb : Below (q + 1) w w') : EBox w' q s n := by
  have := hb.block q (by omega)
  unfold EBox at h ⊢
  rw [this]; exact h
theorem EBox.cells {w : World} {q : Nat} {s : ByteArray} {n : Int} (h : EBox w q s n) : w.cell? ⟨q, 0, none⟩ = some (.string s) ∧ w.cell? ⟨q, 1, none⟩ = some (.int .i64 n) := by
  unfold EBox at h
  constructor <;> (rw [cell_of_row w q _ _ _ (0, 0) h]; rfl)
theorem gtr_of {a b : ByteArray} (h : lt a b = true) : Op.bytesLess b.toList a.toList = false ∧ (b.toList == a.toList) = false := ⟨lt_asymm h, name_ne (fun e => lt_ne h e.symm)⟩
theorem gtr_no {a b : ByteArray} (h : ¬ lt a b = true) : (Op.bytesLess b.toList a.toList || b.toList == a.toList) = true := by
  by_cases e : b = a
  · subst e; simp
  · have : Op.bytesLess b.toList a.toList = true := lt_total (fun h => e h.symm) (by simpa using h)
    rw [this]; rfl

set_option maxHeartbeats 4000000 in
set_option maxRecDepth 100000 in
theorem rwith_any (v : Value) (l : List E) (x : E) (w : World) (hs : SeesE w v l) (hn : l.length ≤ 1000000) :
    Calls Tryz.prog 103 #[v, .agg #[.string x.name, .int .i64 x.node]] w (EPost (wi x l) w) := by
  obtain ⟨A, c, rfl, -⟩ := SeesN.form hs
  obtain ⟨n, e0⟩ : ∃ n, n = l.length := ⟨_, rfl⟩
  rw [← e0] at hs hn ⊢
  have HN := Lib.hid e0
  have HX := Lib.hid (show x = ⟨x.name, x.node⟩ from rfl)
  have XW := Lib.hid (EBox.made w x.name x.node)
  have BW := Lib.hid (below_made w (.cells #[.string x.name, .int .i64 x.node] 67))
  obtain ⟨b, hb0⟩ : ∃ b, b = w.heap.size + 1 := ⟨_, rfl⟩
  obtain ⟨W, hW⟩ : ∃ W, W = w.alloc (.cells #[.string x.name, .int .i64 x.node] 67) := ⟨_, rfl⟩
  have hWs : W.heap.size = b := by rw [hW, hb0]; simp
  have HS := Lib.hid (fun W' (hb : Below b W W') => by
    have h := (SeesE.later (l := l) hs BW.out)
    rw [← hW] at h
    exact SeesE.later h (by rw [hWs]; exact hb))
  have HO := Lib.hid (own_madeN W 67 2)
  have HB0 := Lib.hid (below_made W (.cells #[] 67))
  rw [← hW] at XW BW
  rw [hWs] at HO HB0
  have HBW := Lib.hid (fun W' (hb : Below b W W') => BW.out.trans (hb.mono (show w.heap.size ≤ b by omega)))
  have HXB := Lib.hid (fun W' (hb : Below b W W') => XW.out.later (by rw [← hb0]; exact hb))
  obtain ⟨res, hres⟩ : ∃ res, res = wi x l := ⟨_, rfl⟩
  have HR := Lib.hid hres
  have W0 := Lib.hid (WAt.start x l)
  rw [← hres]
  have hq : b = w.heap.size + 1 := hb0
  have HW := Lib.hid hW
  have HWS := Lib.hid hWs
  have HQ := Lib.hid hb0
  clear hs e0 hres hW hWs hb0 hq
  obtain ⟨xn, xm⟩ := x
  simp only at XW HW HXB ⊢
  unfold EPost
  go_enter Tryz.func103, Tryz.ntmps103
  go_wp2_with fail
  rw [← HW.out]
  go_loopw [5, 6, 7] (fun y p i wr => ∃ (k : Nat) (cur : List E) (b' : Bool), k ≤ n ∧ i = .int .i64 (k : Int) ∧ p = .bool b' ∧ WAt ⟨xn, xm⟩ l k b' cur ∧ (b' = false → cur.length ≤ k) ∧ OwnE wr b y cur ∧ Below b W wr) (fun _ _ i _ => n - (intOf i).toNat)
  case atStart =>
    refine ⟨0, [], false, Nat.zero_le _, rfl, rfl, W0.out, fun _ => Nat.le_refl _, ?_, HB0.out⟩
    rw [← HQ.out]
    exact HO.out
  case round =>
    clear HO HB0 W0
    obtain ⟨k, cur, b', hk, rfl, rfl, hw, hc, ho, hb⟩ := hrel
    have HB := Lib.hid hb
    have HBS := Lib.hid (show b ≤ wr.heap.size by have := hb.size; rw [HWS.out] at this; exact this)
    have KW := Lib.hid hw
    have KC := Lib.hid hc
    obtain ⟨B, d, hx, -⟩ := (SeesN.of_own ho).form
    subst hx
    obtain ⟨m, hm⟩ : ∃ m, m = cur.length := ⟨_, rfl⟩
    have HM := Lib.hid hm
    have HO := Lib.hid (show wr.ownsRow b 67 2 (.slice B m d) m (ecs cur) by rw [hm]; exact ho)
    have ML := Lib.hid (show m ≤ k + 1 by rw [hm]; exact hw.2)
    have DB := Lib.hid (fun q => hb.trans ((below_drewN wr q).mono HBS.out))
    have DO := Lib.hid (fun q => own_belowN HO.out (below_drewN wr q))
    have DS := Lib.hid (fun q => show b ≤ (wr.drewN q).heap.size from Nat.le_trans HBS.out (below_drewN wr q).size)
    rw [← hm]
    clear hb hw hc ho hm
    by_cases hlt : k < n
    · have k1 : k < l.length := by rw [← HN.out]; exact hlt
      have hlt' : (k : Int) < (n : Int) := by omega
      have FX := Lib.hid (fun q => (HXB.out _ (DB.out q)).cells)
      obtain ⟨g, off, rfl, hg, hc1, hc2⟩ := (HS.out _ HB.out).cells k1
      obtain ⟨x0, x1⟩ := (HXB.out _ HB.out).cells
      have FE2 := Lib.hid (fun W' (hb : Below b W W') => show W'.cell? ⟨g, off + k * 2, none⟩ = some (.string l[k].name) ∧ W'.cell? ⟨g, off + k * 2 + 1, none⟩ = some (.int .i64 l[k].node) from by
        obtain ⟨g', off', he, _, h1, h2⟩ := (HS.out _ hb).cells k1
        injection he with he
        injection he with he1 he2 _
        subst he1 he2
        exact ⟨h1, h2⟩)
      have LE := Lib.hid (show lt xn l[k].name = true → _ from fun h => h)
      cases b' with
      | true =>
        have PU := Lib.hid (KW.out.put k1)
        clear KW KC
        generalize l[k] = y at *
        obtain ⟨yn, ym⟩ := y
        simp only at hc1 hc2 FE2 PU
        go_wp2_with fail
        go_quiet (fail)
        obtain ⟨hc1, hc2⟩ := FE2.out _ (DB.out nq)
        have O1 := Lib.hid (DO.out nq)
        have B1 := Lib.hid (DB.out nq)
        have S1 := Lib.hid (DS.out nq)
        generalize wr.drewN nq = wq at *
        go_wp2_with (at_builtin; refine append_n1 nEntry rfl (.tmp 31) (.tmp 36) rfl b _ m (ecs cur) rfl O1.out (ec ⟨yn, ym⟩) _ rfl rfl rfl (ec_ones _) ?a1 ?a2 S1.out ?_)
        case a1 => have := ML.out; omega
        case a2 => have := ML.out; unfold maxLen; omega
        intro v' w' h2 h3 h4
        have O3 := Lib.hid (own_next HM.out h2)
        have B3 := Lib.hid (B1.out.trans h3)
        clear h2 h3 h4
        go_wp2_with fail
        go_roundw
        case rel => exact ⟨k + 1, _, true, by omega, by go_num, rfl, PU.out, (fun h => nomatch h), O3.out, B3.out⟩
        case measure => simp [intOf]; omega
      | false =>
        by_cases hl : lt xn l[k].name = true
        · have PU := Lib.hid (KW.out.less (KC.out rfl) k1 hl)
          obtain ⟨d1, d2⟩ := gtr_of hl
          clear KW KC LE hl
          generalize l[k] = y at *
          obtain ⟨yn, ym⟩ := y
          simp only at hc1 hc2 FE2 PU d1 d2
          go_wp2_with fail
          go_quiet (fail)
          obtain ⟨hc1, hc2⟩ := FE2.out _ (DB.out nq)
          obtain ⟨x0, x1⟩ := FX.out nq
          have O1 := Lib.hid (DO.out nq)
          have B1 := Lib.hid (DB.out nq)
          have S1 := Lib.hid (DS.out nq)
          generalize wr.drewN nq = wq at *
          go_wp2_with (at_builtin; refine append_n1 nEntry rfl (.tmp 27) (.tmp 29) rfl b _ m (ecs cur) rfl O1.out (ec ⟨xn, xm⟩) _ rfl rfl rfl (ec_ones _) ?a1 ?a2 S1.out ?_)
          case a1 => have := ML.out; omega
          case a2 => have := ML.out; unfold maxLen; omega
          intro v' w' h2 h3 h4
          have O3 := Lib.hid h2
          have B3 := Lib.hid (B1.out.trans h3)
          have S3 := Lib.hid (Nat.le_trans S1.out h3.size)
          clear hc1 hc2
          obtain ⟨hc1, hc2⟩ := FE2.out _ B3.out
          have ON := Lib.hid (own_next HM.out O3.out)
          have ON2 := Lib.hid (show w'.ownsRow b 67 2 v' (m + 1) (ecs (cur ++ [⟨xn, xm⟩])) by rw [ecs_add, ecs_one]; exact O3.out)
          obtain ⟨B', d', hx', -⟩ := (SeesN.of_own O3.out).form
          subst hx'
          clear h2 h3 h4
          go_wp2_with (at_builtin; refine append_n1 nEntry rfl (.tmp 31) (.tmp 36) rfl b _ (m + 1) (ecs (cur ++ [⟨xn, xm⟩])) rfl ON2.out (ec ⟨yn, ym⟩) _ rfl rfl rfl (ec_ones _) ?a1 ?a2 S3.out ?_)
          case a1 => have := ML.out; omega
          case a2 => have := ML.out; unfold maxLen; omega
          intro v' w2 h2 h3 h4
          have O4 := Lib.hid (own_next (cur := cur ++ [⟨xn, xm⟩]) (by rw [List.length_append, ← HM.out]; rfl) h2)
          have B4 := Lib.hid (B3.out.trans h3)
          clear h2 h3 h4
          go_wp2_with fail
          go_roundw
          case rel => exact ⟨k + 1, _, true, by omega, by go_num, rfl, PU.out, (fun h => nomatch h), O4.out, B4.out⟩
          case measure => simp [intOf]; omega
        · have PU := Lib.hid (KW.out.more k1 hl)
          have HC := Lib.hid (KC.out rfl)
          have d1 := gtr_no hl
          clear KW KC LE hl
          generalize l[k] = y at *
          obtain ⟨yn, ym⟩ := y
          simp only at hc1 hc2 FE2 PU d1
          go_wp2_with fail
          go_quiet (fail)
          obtain ⟨hc1, hc2⟩ := FE2.out _ (DB.out nq)
          have O1 := Lib.hid (DO.out nq)
          have B1 := Lib.hid (DB.out nq)
          have S1 := Lib.hid (DS.out nq)
          generalize wr.drewN nq = wq at *
          go_wp2_with (at_builtin; refine append_n1 nEntry rfl (.tmp 31) (.tmp 36) rfl b _ m (ecs cur) rfl O1.out (ec ⟨yn, ym⟩) _ rfl rfl rfl (ec_ones _) ?a1 ?a2 S1.out ?_)
          case a1 => have := ML.out; omega
          case a2 => have := ML.out; unfold maxLen; omega
          intro v' w' h2 h3 h4
          have O3 := Lib.hid (own_next HM.out h2)
          have B3 := Lib.hid (B1.out.trans h3)
          clear h2 h3 h4
          go_wp2_with fail
          go_roundw
          case rel => exact ⟨k + 1, _, false, by omega, by go_num, rfl, PU.out, fun _ => by have := HC.out; rw [List.length_append]; exact Nat.succ_le_succ this, O3.out, B3.out⟩
          case measure => simp [intOf]; omega
    · cases b' with
      | true =>
        have HF := Lib.hid (show SeesE wr (.slice B m d) res by
          rw [HR.out, ← KW.out.last (by rw [← HN.out]; omega)]
          show SeesN _ _ _ _
          rw [← HM.out]
          exact SeesN.of_own HO.out)
        go_wp2_with fail
        go_ret
        exact ⟨_, rfl, HF.out, HBW.out _ HB.out⟩
      | false =>
        have HL := Lib.hid (KW.out.last' (by rw [← HN.out]; omega))
        obtain ⟨x0, x1⟩ := (HXB.out _ HB.out).cells
        go_wp2_with (at_builtin; refine append_n1 nEntry rfl (.tmp 40) (.tmp 42) rfl b _ m (ecs cur) rfl HO.out (ec ⟨xn, xm⟩) _ rfl rfl rfl (ec_ones _) ?a1 ?a2 HBS.out ?_)
        case a1 => have := ML.out; omega
        case a2 => have := ML.out; unfold maxLen; omega
        intro v' w' h2 h3 h4
        have O3 := Lib.hid (own_next HM.out h2)
        have HF := Lib.hid (show SeesE w' v' res by rw [HR.out, ← HL.out]; exact SeesE.of_own O3.out)
        have B3 := Lib.hid (HB.out.trans h3)
        clear h2 h3 h4
        go_wp2_with fail
        go_ret
        exact ⟨_, rfl, HF.out, HBW.out _ B3.out⟩
end Go.Proofs.YtaklilhnikmmfaaGreat

/-
  The walks of the reference's Done and All.
-/
namespace Go.Proofs.YtaklilhnikmmfaaGreat
open Go.RowKit StrM DirM

/-- Names that a string can hold. -/
def OkO (o : O) : Prop := o.name.size ≤ maxLen ∧ o.dst.size ≤ maxLen
/-- What Done returns. -/
def RDPost (l : List E) (o : O) (w : World) (e : Ending) (w' : World) : Prop :=
  ∃ v, e = .returned (.tuple #[v, .int .i64 (err l o)]) ∧ SeesE w' v (if err l o = 0 then done l o else []) ∧ Below w.heap.size w w'

theorem err_out {l : List E} {o : O} (h : o.kind < 1 ∨ 3 < o.kind) : err l o = 16 := by
  unfold err
  rw [if_neg (by omega), if_neg (by omega), if_neg (by omega)]
theorem err_link {l : List E} {o : O} (h : o.kind = 1) : err l o = if nameOk o.name = true then (if has l o.name = true then 6 else if 100 ≤ l.length then 7 else 0) else 1 := by
  unfold err; rw [if_pos h]
theorem err_move {l : List E} {o : O} (h : o.kind = 2) : err l o = if has l o.name = true then (if nameOk o.dst = true ∧ o.dst ≠ o.name then 0 else 1) else 5 := by
  unfold err; rw [if_neg (by omega), if_pos h]
theorem err_unlink {l : List E} {o : O} (h : o.kind = 3) : err l o = if has l o.name = true then 0 else 5 := by
  unfold err; rw [if_neg (by omega), if_neg (by omega), if_pos h]
theorem done_link {l : List E} {o : O} (h : o.kind = 1) : done l o = wi ⟨o.name, o.node⟩ l := by unfold done; rw [if_pos h]
theorem done_move {l : List E} {o : O} (h : o.kind = 2) : done l o = wi ⟨o.dst, fv l o.name⟩ (wo (wo l o.name) o.dst) := by unfold done; rw [if_neg (by omega), if_pos h]
theorem done_unlink {l : List E} {o : O} (h : o.kind = 3) : done l o = wo l o.name := by unfold done; rw [if_neg (by omega), if_neg (by omega)]

set_option maxHeartbeats 4000000 in
set_option maxRecDepth 100000 in
theorem rdone_any (v : Value) (l : List E) (o : O) (w : World) (hs : SeesE w v l) (hn : l.length ≤ 100000) (ho : OkO o) :
    Calls Tryz.prog 86 #[v, .agg #[.int .i64 o.kind, .string o.name, .string o.dst, .int .i64 o.node]] w (RDPost l o w) := by
  obtain ⟨A, c, rfl, -⟩ := SeesN.form hs
  have HS := Lib.hid (fun W (hb : Below w.heap.size w W) => hs.later hb)
  have AT := Lib.hid (fun W (hb : Below w.heap.size w W) => rat_any _ l o.name W (hs.later hb) (by omega))
  have N1 := Lib.hid (fun W => rname_any o.name W ho.1)
  have N2 := Lib.hid (fun W => rname_any o.dst W ho.2)
  have WO := Lib.hid (fun W (hb : Below w.heap.size w W) => rwithout_any _ l o.name W (hs.later hb) (by omega))
  have WP := Lib.hid (fun W u (h : SeesE W u (wo l o.name)) => rwithout_any u (wo l o.name) o.dst W h (by have := len_wo l o.name; omega))
  have WI := Lib.hid (fun W (hb : Below w.heap.size w W) => rwith_any _ l ⟨o.name, o.node⟩ W (hs.later hb) (by omega))
  have WJ := Lib.hid (fun W u (h : SeesE W u (wo (wo l o.name) o.dst)) => rwith_any u _ ⟨o.dst, fv l o.name⟩ W h (by have := len_wo l o.name; have := len_wo (wo l o.name) o.dst; omega))
  unfold EPost at WO WP WI WJ
  obtain ⟨n, e0⟩ : ∃ n, n = l.length := ⟨_, rfl⟩
  rw [← e0] at AT WO WI HS hn ⊢
  have HN := Lib.hid e0
  have B0 := Lib.hid (below_made w (.cells #[.int .i64 o.kind, .string o.name, .string o.dst, .int .i64 o.node] 65))
  have P0 := Lib.hid (OBox.made w o)
  unfold RDPost
  have EO := Lib.hid (err_out (l := l) (o := o))
  have EL := Lib.hid (err_link (l := l) (o := o))
  have EM := Lib.hid (err_move (l := l) (o := o))
  have EU := Lib.hid (err_unlink (l := l) (o := o))
  have DL := Lib.hid (done_link (l := l) (o := o))
  have DM := Lib.hid (done_move (l := l) (o := o))
  have DU := Lib.hid (done_unlink (l := l) (o := o))
  rw [← e0] at EL
  generalize err l o = er at *
  generalize done l o = dn at *
  obtain ⟨res, hres⟩ : ∃ res, res = if er = 0 then dn else [] := ⟨_, rfl⟩
  rw [← hres]
  have RE := Lib.hid (fun h : ¬ er = 0 => show res = [] by rw [hres, if_neg h])
  have RO := Lib.hid (fun h : er = 0 => show res = dn by rw [hres, if_pos h])
  clear hs e0 ho hres
  obtain ⟨kd, nm, ds, nd⟩ := o
  simp only at AT N1 N2 WO WP WI WJ B0 P0 EO EL EM EU DL DM DU ⊢
  obtain ⟨p0, p1, p2, p3⟩ := P0.out.cells
  simp only at p0 p1 p2 p3
  by_cases k1 : kd < 1
  · have HE := Lib.hid (EO.out (.inl k1))
    clear N1 N2 WO WP WI WJ EO EL EM EU DL DM DU p0 p1 p2 p3
    go_enter Tryz.func86, Tryz.ntmps86
    go_wp2_with fail
    refine (AT.out _ B0.out).mono ?_
    rintro e w' ⟨rfl, rfl⟩
    go_wp2_with fail
    go_ret2
    exact ⟨_, by rw [HE.out]; rfl, by rw [RE.out (by rw [HE.out]; decide)]; exact seesE_nil _, B0.out⟩
  · by_cases k3 : 3 < kd
    · have HE := Lib.hid (EO.out (.inr k3))
      have d1 : decide (kd < 1) = false := by simpa using k1
      clear N1 N2 WO WP WI WJ EO EL EM EU DL DM DU p0 p1 p2 p3 k1
      go_enter Tryz.func86, Tryz.ntmps86
      go_wp2_with fail
      refine (AT.out _ B0.out).mono ?_
      rintro e w' ⟨rfl, rfl⟩
      go_wp2_with fail
      go_ret2
      exact ⟨_, by rw [HE.out]; rfl, by rw [RE.out (by rw [HE.out]; decide)]; exact seesE_nil _, B0.out⟩
    · have hk : kd = 1 ∨ kd = 2 ∨ kd = 3 := by omega
      clear k1 k3 EO
      rcases hk with rfl | rfl | rfl
      · have HE := Lib.hid (EL.out rfl)
        have HD := Lib.hid (DL.out rfl)
        clear EL EM EU DL DM DU WO WP WJ N2
        cases hb : nameOk nm with
        | false =>
          rw [hb] at HE N1
          have HE := Lib.hid (show er = 1 by rw [HE.out]; rfl)
          clear WI hb
          go_enter Tryz.func86, Tryz.ntmps86
          go_wp2_with fail
          refine (AT.out _ B0.out).mono ?_
          rintro e w' ⟨rfl, rfl⟩
          go_wp2_with fail
          refine (N1.out _).mono ?_
          rintro e w' ⟨rfl, rfl⟩
          go_wp2_with fail
          go_ret2
          exact ⟨_, by rw [HE.out]; rfl, by rw [RE.out (by rw [HE.out]; decide)]; exact seesE_nil _, B0.out⟩
        | true =>
          rw [hb] at HE N1
          cases hh : has l nm with
          | true =>
            rw [hh] at HE
            have HE2 := Lib.hid (show er = 6 by rw [HE.out]; rfl)
            obtain ⟨k, _, hav, _, _⟩ := av_has hh
            rw [hav] at AT
            have d1 : (0 : Int) ≤ (k : Int) := by omega
            clear WI hb hh hav HE
            go_enter Tryz.func86, Tryz.ntmps86
            go_wp2_with fail
            refine (AT.out _ B0.out).mono ?_
            rintro e w' ⟨rfl, rfl⟩
            go_wp2_with fail
            refine (N1.out _).mono ?_
            rintro e w' ⟨rfl, rfl⟩
            go_wp2_with fail
            go_ret2
            exact ⟨_, by rw [HE2.out]; rfl, by rw [RE.out (by rw [HE2.out]; decide)]; exact seesE_nil _, B0.out⟩
          | false =>
            rw [hh] at HE
            rw [(av_none hh).1] at AT
            by_cases h100 : 100 ≤ n
            · have HE2 := Lib.hid (show er = 7 by rw [HE.out, if_pos rfl, if_neg (by decide), if_pos h100])
              have d1 : (100 : Int) ≤ (n : Int) := by omega
              clear WI hb hh HE
              go_enter Tryz.func86, Tryz.ntmps86
              go_wp2_with fail
              refine (AT.out _ B0.out).mono ?_
              rintro e w' ⟨rfl, rfl⟩
              go_wp2_with fail
              refine (N1.out _).mono ?_
              rintro e w' ⟨rfl, rfl⟩
              go_wp2_with fail
              go_ret2
              exact ⟨_, by rw [HE2.out]; rfl, by rw [RE.out (by rw [HE2.out]; decide)]; exact seesE_nil _, B0.out⟩
            · have HE2 := Lib.hid (show er = 0 by rw [HE.out, if_pos rfl, if_neg (by decide), if_neg h100])
              have d1 : decide ((100 : Int) ≤ (n : Int)) = false := by simp; omega
              have d2 : decide (100 ≤ n) = false := by simp; omega
              clear hb hh HE h100
              go_enter Tryz.func86, Tryz.ntmps86
              go_wp2_with fail
              refine (AT.out _ B0.out).mono ?_
              rintro e w' ⟨rfl, rfl⟩
              go_wp2_with fail
              refine (N1.out _).mono ?_
              rintro e w' ⟨rfl, rfl⟩
              go_wp2_with fail
              refine (WI.out _ B0.out).mono ?_
              rintro e w' ⟨v', rfl, s', hb'⟩
              have S' := Lib.hid s'
              have B' := Lib.hid (B0.out.trans (hb'.mono B0.out.size))
              clear s' hb'
              go_wp2_with fail
              go_ret2
              exact ⟨_, by rw [HE2.out]; rfl, by rw [RO.out HE2.out, HD.out]; exact S'.out, B'.out⟩
      · have HE := Lib.hid (EM.out rfl)
        have HD := Lib.hid (DM.out rfl)
        clear EL EM EU DL DM DU WI N1
        cases hh : has l nm with
        | false =>
          rw [hh] at HE
          have HE2 := Lib.hid (show er = 5 by rw [HE.out]; rfl)
          rw [(av_none hh).1] at AT
          clear HE hh WO WP WJ N2
          go_enter Tryz.func86, Tryz.ntmps86
          go_wp2_with fail
          refine (AT.out _ B0.out).mono ?_
          rintro e w' ⟨rfl, rfl⟩
          go_wp2_with fail
          go_ret2
          exact ⟨_, by rw [HE2.out]; rfl, by rw [RE.out (by rw [HE2.out]; decide)]; exact seesE_nil _, B0.out⟩
        | true =>
          rw [hh] at HE
          obtain ⟨k, hkl, hav, hnode, -⟩ := av_has hh
          rw [hav] at AT
          have d1 : decide ((k : Int) < 0) = false := by simp
          cases hb : nameOk ds with
          | false =>
            rw [hb] at HE N2
            have HE2 := Lib.hid (show er = 1 by rw [HE.out]; simp)
            clear HE hh WO WP WJ hb hav hnode
            go_enter Tryz.func86, Tryz.ntmps86
            go_wp2_with fail
            refine (AT.out _ B0.out).mono ?_
            rintro e w' ⟨rfl, rfl⟩
            go_wp2_with fail
            refine (N2.out _).mono ?_
            rintro e w' ⟨rfl, rfl⟩
            go_wp2_with fail
            go_ret2
            exact ⟨_, by rw [HE2.out]; rfl, by rw [RE.out (by rw [HE2.out]; decide)]; exact seesE_nil _, B0.out⟩
          | true =>
            rw [hb] at HE N2
            by_cases e : ds = nm
            · subst e
              have HE2 := Lib.hid (show er = 1 by rw [HE.out]; simp)
              clear HE hh WO WP WJ hb hav hnode
              go_enter Tryz.func86, Tryz.ntmps86
              go_wp2_with fail
              refine (AT.out _ B0.out).mono ?_
              rintro e w' ⟨rfl, rfl⟩
              go_wp2_with fail
              refine (N2.out _).mono ?_
              rintro e w' ⟨rfl, rfl⟩
              go_wp2_with fail
              go_ret2
              exact ⟨_, by rw [HE2.out]; rfl, by rw [RE.out (by rw [HE2.out]; decide)]; exact seesE_nil _, B0.out⟩
            · have HE2 := Lib.hid (show er = 0 by rw [HE.out, if_pos rfl, if_pos ⟨rfl, e⟩])
              have dne := name_ne e
              have HR := Lib.hid (RO.out HE2.out)
              obtain ⟨g, off, rfl, hg, -, hc2⟩ := SeesE.cells (HS.out _ (Below.refl _ _)) hkl
              rw [hnode] at hc2
              have HC := Lib.hid (fun W (hb : Below w.heap.size w W) => (hb.cell (p := ⟨g, off + k * 2 + 1, none⟩) hg).trans hc2)
              have PB := Lib.hid (fun W (hb : Below (w.heap.size + 1) (w.alloc (.cells #[.int .i64 2, .string nm, .string ds, .int .i64 nd] 65)) W) => (P0.out.later (by simpa using hb)).cells)
              have BD := Lib.hid B0.out.drew
              have PD := Lib.hid (show Below (w.heap.size + 1) (w.alloc (.cells #[.int .i64 2, .string nm, .string ds, .int .i64 nd] 65)) (w.alloc (.cells #[.int .i64 2, .string nm, .string ds, .int .i64 nd] 65)).drew from (Below.refl _ _).drew)
              have hwk : k < n := by rw [HN.out]; exact hkl
              have hcd := HC.out _ B0.out
              generalize fv l nm = fw at *
              generalize wo l nm = l1 at *
              generalize wo l1 ds = l2 at *
              have SZ := Lib.hid (show ∀ W : World, Below (w.heap.size + 1) (w.alloc (.cells #[.int .i64 2, .string nm, .string ds, .int .i64 nd] 65)) W → w.heap.size + 1 ≤ W.heap.size from fun W hb => by have := hb.size; simpa using this)
              clear hb hh HE e hav hnode hc2 RE RO hg
              go_enter Tryz.func86, Tryz.ntmps86
              go_wp2_with fail
              refine (AT.out _ B0.out).mono ?_
              rintro e w' ⟨rfl, rfl⟩
              go_wp2_with fail
              refine (N2.out _).mono ?_
              rintro e w' ⟨rfl, rfl⟩
              go_wp2_with fail
              go_region_held3 (fun W => W.cell? ⟨w.heap.size, 1, none⟩ = some (.string nm) ∧ W.cell? ⟨w.heap.size, 2, none⟩ = some (.string ds) ∧ W.cell? ⟨g, off + k * 2 + 1, none⟩ = some (.int .i64 fw))
                (first | exact ⟨(PB.out _ PD.out).2.1, (PB.out _ PD.out).2.2.1, HC.out _ BD.out⟩ | exact ⟨(PB.out _ hP3).2.1, (PB.out _ hP3).2.2.1, HC.out _ hB3⟩ | exact ⟨(PB.out _ hP4).2.1, (PB.out _ hP4).2.2.1, HC.out _ hB4⟩ | exact ⟨(PB.out _ hP5).2.1, (PB.out _ hP5).2.2.1, HC.out _ hB5⟩)
                (first
                  | (go_at_call 104; (with_reducible refine (WO.out _ BD.out).mono ?_); rintro e w3 ⟨v3, rfl, s3, b3⟩; have hB3 := BD.out.trans (b3.mono BD.out.size); have hP3 := PD.out.trans (b3.mono (SZ.out _ PD.out)))
                  | (go_at_call 104; (with_reducible refine (WP.out _ _ s3).mono ?_); rintro e w4 ⟨v4, rfl, s4, b4⟩; have hB4 := hB3.trans (b4.mono hB3.size); have hP4 := hP3.trans (b4.mono (SZ.out _ hP3)))
                  | (go_at_call 103; (with_reducible refine (WJ.out _ _ s4).mono ?_); rintro e w5 ⟨v5, rfl, s5, b5⟩; have hB5 := hB4.trans (b5.mono hB4.size); have hP5 := hP4.trans (b5.mono (SZ.out _ hP4))))
              all_goals
                have S5 := Lib.hid s5
                have B5 := Lib.hid hB5
                clear s5 b5 hB5 hP5 s4 b4 hB4 hP4 s3 b3 hB3 hP3
                go_wp2_with fail
                go_ret2
                exact ⟨_, by rw [HE2.out]; rfl, by rw [HR.out, HD.out]; exact S5.out, B5.out⟩
      · have HE := Lib.hid (EU.out rfl)
        have HD := Lib.hid (DU.out rfl)
        clear EL EM EU DL DM DU WI N1 WP WJ N2
        cases hh : has l nm with
        | false =>
          rw [hh] at HE
          have HE2 := Lib.hid (show er = 5 by rw [HE.out]; rfl)
          rw [(av_none hh).1] at AT
          clear HE hh WO
          go_enter Tryz.func86, Tryz.ntmps86
          go_wp2_with fail
          refine (AT.out _ B0.out).mono ?_
          rintro e w' ⟨rfl, rfl⟩
          go_wp2_with fail
          go_ret2
          exact ⟨_, by rw [HE2.out]; rfl, by rw [RE.out (by rw [HE2.out]; decide)]; exact seesE_nil _, B0.out⟩
        | true =>
          rw [hh] at HE
          have HE2 := Lib.hid (show er = 0 by rw [HE.out]; rfl)
          obtain ⟨k, _, hav, _, _⟩ := av_has hh
          rw [hav] at AT
          have d1 : decide ((k : Int) < 0) = false := by simp
          clear hh hav HE
          go_enter Tryz.func86, Tryz.ntmps86
          go_wp2_with fail
          refine (AT.out _ B0.out).mono ?_
          rintro e w' ⟨rfl, rfl⟩
          go_wp2_with fail
          refine (WO.out _ B0.out).mono ?_
          rintro e w' ⟨v', rfl, s', hb'⟩
          have S' := Lib.hid s'
          have B' := Lib.hid (B0.out.trans (hb'.mono B0.out.size))
          clear s' hb'
          go_wp2_with fail
          go_ret2
          exact ⟨_, by rw [HE2.out]; rfl, by rw [RO.out HE2.out, HD.out]; exact S'.out, B'.out⟩
end Go.Proofs.YtaklilhnikmmfaaGreat
