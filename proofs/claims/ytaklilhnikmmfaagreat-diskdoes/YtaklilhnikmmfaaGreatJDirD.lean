/-
  Joined: DirRefRight DirRefSync DirRefAct DirRefSame DirMade.
-/
import Derived.Test.YtaklilhnikmmfaaGreatJDirC
/-
  The walks of the reference's All and Right.
-/
namespace Go.Proofs.YtaklilhnikmmfaaGreat
open Go.RowKit StrM DirM

theorem len_done {l : List E} {o : O} (h : err l o = 0) : (done l o).length ≤ max l.length 100 := by
  rcases err_kinds h with ⟨hk, _, _, h3⟩ | ⟨hk, h1, _⟩ | ⟨hk, _⟩
  · rw [done_link hk, len_wi]; omega
  · rw [done_move hk, len_wi]
    have a := len_wo_has h1
    have b := len_wo (wo l o.name) o.dst
    omega
  · rw [done_unlink hk]
    have := len_wo l o.name
    omega
theorem all_len : ∀ (os : List O) (l : List E), (all l os).1.length ≤ max l.length 100
  | [], l => by simp [all]; omega
  | o :: r, l => by
    unfold all
    split
    · next h =>
      have a := all_len r (done l o)
      have b := len_done h
      omega
    · simp

set_option maxHeartbeats 2000000 in
set_option maxRecDepth 100000 in
theorem rall_any (v u : Value) (l : List E) (os : List O) (w : World) (hs : SeesE w v l) (hu : SeesO w u os) (hl : l.length ≤ 1000) (hL : os.length ≤ 1000000) (hos : ∀ o ∈ os, OkO o) :
    Calls Tryz.prog 89 #[v, u] w fun e w' => ∃ v, e = .returned (.tuple #[v, .bool (decide ((all l os).2 = 0))]) ∧ SeesE w' v (all l os).1 ∧ Below w.heap.size w w' := by
  obtain ⟨A1, c1, rfl, hc1⟩ := SeesN.form hu
  obtain ⟨len, hn⟩ : ∃ len, len = os.length := ⟨_, rfl⟩
  have HU := Lib.hid (fun W (hb : Below w.heap.size w W) => hu.later hb)
  have H0 := Lib.hid hs
  have HN := Lib.hid hn
  have HOS := Lib.hid hos
  have HAL := Lib.hid (fun k => Nat.le_trans (all_len (os.take k) l) (show max l.length 100 ≤ 1000 by omega))
  rw [← hn] at HU hL ⊢
  obtain ⟨B, d, rfl, -⟩ := SeesN.form hs
  generalize l.length = n at *
  clear hs hu hn hc1 hos hl
  obtain ⟨re, hre⟩ : ∃ re, re = all l os := ⟨_, rfl⟩
  rw [← hre]
  have RE := Lib.hid hre
  clear hre
  go_enter Tryz.func89, Tryz.ntmps89
  go_wp2_with fail
  go_loopw [0, 6] (fun x i wr => ∃ (k : Nat) (cur : List E), k ≤ len ∧ i = .int .i64 (k : Int) ∧ all l (os.take k) = (cur, 0) ∧ SeesE wr x cur ∧ Below w.heap.size w wr) (fun _ i _ => len - (intOf i).toNat)
  case atStart => exact ⟨0, l, Nat.zero_le _, rfl, rfl, H0.out, Below.refl _ _⟩
  case round =>
    clear H0
    obtain ⟨k, cur, hk, rfl, hall, hx, hb⟩ := hrel
    have HA := Lib.hid hall
    have HX := Lib.hid hx
    have HB := Lib.hid hb
    have CL := Lib.hid (show cur.length ≤ 100000 by have h := HAL.out k; rw [hall] at h; simp only at h; omega)
    obtain ⟨B', d', hx', -⟩ := SeesN.form hx
    subst hx'
    clear hall hx hb
    by_cases hlt : k < len
    · have hkl : k < os.length := by rw [← HN.out]; exact hlt
      have hlt' : (k : Int) < (len : Int) := by omega
      obtain ⟨g, off, rfl, hg, c0, c1', c2, c3⟩ := (HU.out _ HB.out).cells hkl
      have NX := Lib.hid (all_next hkl HA.out)
      have ST := Lib.hid (all_stop hkl HA.out)
      have DO := Lib.hid (rdone_any _ cur os[k] wr HX.out CL.out (HOS.out _ (List.getElem_mem hkl)))
      unfold RDPost at DO
      generalize os[k] = o at *
      generalize cur.length = m at *
      obtain ⟨er, her⟩ : ∃ er, er = err cur o := ⟨_, rfl⟩
      rw [← her] at NX ST DO
      obtain ⟨res, hres⟩ : ∃ res, res = if er = 0 then done cur o else [] := ⟨_, rfl⟩
      rw [← hres] at DO
      have RO := Lib.hid (fun h : er = 0 => show res = done cur o by rw [hres, if_pos h])
      obtain ⟨kd, nm, ds, nd⟩ := o
      simp only at c0 c1' c2 c3 DO
      clear her hres
      go_wp2_with fail
      refine DO.out.mono ?_
      rintro e w1 ⟨v1, rfl, s1, hb1⟩
      have S1 := Lib.hid s1
      have B1 := Lib.hid (HB.out.trans (hb1.mono HB.out.size))
      clear s1 hb1 DO
      by_cases h0 : er = 0
      · have HX2 := Lib.hid (NX.out h0)
        have S2 := Lib.hid (show SeesE w1 v1 (done cur ⟨kd, nm, ds, nd⟩) by rw [← RO.out h0]; exact S1.out)
        subst h0
        clear NX ST RO
        go_wp2_with fail
        go_roundw
        case rel => exact ⟨k + 1, _, by omega, by go_num, HX2.out, S2.out, B1.out⟩
        case measure => simp [intOf]; omega
      · have HX2 := Lib.hid (show re = ([], er) by rw [RE.out, ST.out h0])
        have h0' : (er == 0) = false := by simpa using h0
        have HD := Lib.hid (show false = decide (re.2 = 0) by rw [HX2.out]; simpa using h0)
        clear NX ST RO h0
        go_wp2_with fail
        go_ret2
        exact ⟨_, by rw [← HD.out]; rfl, by rw [HX2.out]; exact seesE_nil _, B1.out⟩
    · have HX2 := Lib.hid (show re = (cur, 0) by
        have h := HA.out
        rw [List.take_of_length_le (by rw [← HN.out]; omega)] at h
        rw [RE.out, h])
      have HD := Lib.hid (show true = decide (re.2 = 0) by rw [HX2.out]; rfl)
      go_wp2_with fail
      go_ret2
      exact ⟨_, by rw [← HD.out]; rfl, by rw [HX2.out]; exact HX.out, HB.out⟩

/-- Sizes that the reference bears. -/
structure DSz (d : D) : Prop where
  sure : d.sure.length ≤ 1000
  pend : d.pend.length ≤ 1000000
  names : ∀ x ∈ d.sure, x.name.size ≤ maxLen
  ops : ∀ o ∈ d.pend, OkO o

set_option maxHeartbeats 8000000 in
set_option maxRecDepth 100000 in
theorem rdright_any (v : Value) (d : D) (w : World) (hs : SeesD w v d) (hz : DSz d) :
    Calls Tryz.prog 85 #[v] w fun e w' => e = .returned (.bool (valid d)) ∧ Below w.heap.size w w' := by
  obtain ⟨A0, c0, A1, c1, A2, c2, rfl, h0, h1, h2⟩ := hs.slices
  have S0 := Lib.hid (fun W (hb : Below w.heap.size w W) => h0.later hb)
  have S1 := Lib.hid (fun W (hb : Below w.heap.size w W) => h1.later hb)
  have AL := Lib.hid (fun W (hb : Below w.heap.size w W) => rall_any _ _ d.sure d.pend W (h1.later hb) (h2.later hb) hz.sure hz.pend hz.ops)
  have RN := Lib.hid (fun (k : Nat) (hk : k < d.sure.length) W => rname_any d.sure[k].name W (hz.names _ (List.getElem_mem hk)))
  have AN := Lib.hid (show (all d.sure d.pend).1.length ≤ 1000000 by have := all_len d.pend d.sure; have := hz.sure; omega)
  obtain ⟨n0, e0⟩ : ∃ n, n = d.now.length := ⟨_, rfl⟩
  obtain ⟨n, e1⟩ : ∃ n, n = d.sure.length := ⟨_, rfl⟩
  rw [← e0] at S0 ⊢
  rw [← e1] at S1 AL ⊢
  generalize d.pend.length = n2 at *
  have HN := Lib.hid e1
  have HNZ := Lib.hid (show n ≤ 1000 by rw [e1]; exact hz.sure)
  have B0 := Lib.hid (below_made w (.cells #[.slice A0 n0 c0, .slice A1 n c1, .slice A2 n2 c2] 32))
  have X0 := Lib.hid (DBox.made w (.slice A0 n0 c0) (.slice A1 n c1) (.slice A2 n2 c2))
  clear hs h0 h1 h2 e0 e1 hz
  obtain ⟨r, hr⟩ : ∃ r, r = valid d := ⟨_, rfl⟩
  rw [← hr]
  have VU := Lib.hid (fun h => dvalid_unord (d := d) h)
  have VE := Lib.hid (fun h => dvalid_err (d := d) h)
  have VO := Lib.hid (fun h1 h2 => dvalid_eq (d := d) h1 h2)
  rw [← hr] at VU VE VO
  clear hr
  generalize all d.sure d.pend = al at *
  generalize d.now = nw at *
  generalize d.sure = sr at *
  go_enter Tryz.func85, Tryz.ntmps85
  go_wp2_with fail
  go_loopw [3] (fun i wr => ∃ k : Nat, k ≤ n ∧ i = .int .i64 (k : Int) ∧ Below w.heap.size w wr ∧ DBox wr w.heap.size (.slice A0 n0 c0) (.slice A1 n c1) (.slice A2 n2 c2) ∧ ordK sr k = true) (fun i _ => n - (intOf i).toNat)
  case atStart => exact ⟨0, Nat.zero_le _, rfl, B0.out, X0.out, ordK_zero _⟩
  case round =>
    clear B0 X0
    obtain ⟨k, hk, rfl, hb, hx, ho⟩ := hrel
    have HO := Lib.hid ho
    have HB := Lib.hid hb
    have XM := Lib.hid hx
    obtain ⟨x0, x1, x2⟩ := XM.out.cells
    clear ho hb hx
    by_cases hlt : k < n
    · have k1 : k < sr.length := by rw [← HN.out]; exact hlt
      have hlt' : (k : Int) < (n : Int) := by omega
      have hkb : k ≤ 1000 := by have := HNZ.out; omega
      have hnb : n ≤ 1000 := HNZ.out
      have UP := Lib.hid (show gd sr k = true → ordK sr (k + 1) = true from fun h => by rw [ordK_next HO.out]; exact h)
      have DN := Lib.hid (show gd sr k = false → false = r from fun h => by rw [VU.out (ordL_bad k1 h)])
      have SK := Lib.hid (S1.out _ HB.out)
      have NA := Lib.hid (RN.out k k1)
      have DD := Lib.hid (fun q => HB.out.trans ((below_drewN wr q).mono HB.out.size))
      have DX := Lib.hid (fun q => XM.out.later (below_drewN wr q))
      rcases Nat.eq_zero_or_pos k with hk0 | hpos
      · obtain ⟨g, off, rfl, hg, hc1, hc2⟩ := SK.out.cells k1
        have GD := Lib.hid (gd_none k1 hk0)
        have pk' : decide ((0 : Int) < (k : Int)) = false := by simp; omega
        have pk : decide (0 < k) = false := by simp; omega
        generalize sr[k] = x at *
        clear hk0
        obtain ⟨xn, xm⟩ := x
        simp only at hc1 hc2 GD NA
        cases hx : nameOk xn with
        | true =>
          rw [hx] at NA
          have HX := Lib.hid (UP.out (by rw [GD.out, hx]))
          clear UP DN GD hx
          go_wp2_with fail
          go_quiet ((go_at_call 101; with_reducible exact quiet_same (NA.out _)))
          go_wp2_with fail
          go_roundw
          case rel => exact ⟨k + 1, by omega, by go_num, DD.out _, DX.out _, HX.out⟩
          case measure => simp [intOf]; omega
        | false =>
          rw [hx] at NA
          have HX := Lib.hid (DN.out (by rw [GD.out, hx]))
          clear UP DN GD hx
          go_wp2_with fail
          go_quiet ((go_at_call 101; with_reducible exact quiet_same (NA.out _)))
          go_wp2_with fail
          go_ret
          exact ⟨ret_bool HX.out, DD.out _⟩
      · obtain ⟨j, hkj⟩ : ∃ j, k = j + 1 := ⟨k - 1, by omega⟩
        obtain ⟨g, off, rfl, hg, hc1, hc2⟩ := SK.out.cells k1
        obtain ⟨g', off', he, hg', hd1, hd2⟩ := SK.out.cells (k := j) (by omega)
        injection he with he
        injection he with he1 he2 _
        subst he1 he2
        have GD := Lib.hid (gd_next k1 hkj)
        have e1 : (k : Int) - 1 = (j : Int) := by omega
        have pk : 0 < k := hpos
        have pk' : decide (0 < k) = true := by simp; omega
        have pk'' : (0 : Int) < (k : Int) := by omega
        have jn : j < n := by omega
        generalize sr[k] = x at *
        generalize sr[j]'(by omega) = y at *
        obtain ⟨xn, xm⟩ := x
        obtain ⟨yn, ym⟩ := y
        simp only at hc1 hc2 hd1 hd2 GD NA
        clear hkj hpos
        cases hx : nameOk xn with
        | true =>
          rw [hx] at NA
          cases hl : lt yn xn with
          | true =>
            have HX := Lib.hid (UP.out (by rw [GD.out, hx, hl]; rfl))
            have d1 : Op.bytesLess yn.toList xn.toList = true := hl
            clear UP DN GD hx hl
            go_wp2_with fail
            go_quiet ((go_at_call 101; with_reducible exact quiet_same (NA.out _)))
            go_wp2_with fail
            go_roundw
            case rel => exact ⟨k + 1, by omega, by go_num, DD.out _, DX.out _, HX.out⟩
            case measure => simp [intOf]; omega
          | false =>
            have HX := Lib.hid (DN.out (by rw [GD.out, hx, hl]; rfl))
            have d1 : Op.bytesLess yn.toList xn.toList = false := hl
            clear UP DN GD hx hl
            go_wp2_with fail
            go_quiet ((go_at_call 101; with_reducible exact quiet_same (NA.out _)))
            go_wp2_with fail
            go_ret
            exact ⟨ret_bool HX.out, DD.out _⟩
        | false =>
          rw [hx] at NA
          have HX := Lib.hid (DN.out (by rw [GD.out, hx]; rfl))
          clear UP DN GD hx
          go_wp2_with fail
          go_quiet ((go_at_call 101; with_reducible exact quiet_same (NA.out _)))
          go_wp2_with fail
          go_ret
          exact ⟨ret_bool HX.out, DD.out _⟩
    · by_cases h100 : 100 < n
      · have h100' : (100 : Int) < (n : Int) := by omega
        have HX := Lib.hid (show false = r by rw [VU.out (ordL_long (by rw [← HN.out]; exact h100))])
        clear h100 VU VE VO
        go_wp2_with fail
        go_ret
        exact ⟨ret_bool HX.out, HB.out⟩
      · have h100' : decide ((100 : Int) < (n : Int)) = false := by simp; omega
        have h100'' : decide (100 < n) = false := by simp; omega
        have HG := Lib.hid (ordL_good (l := sr) (k := k) (by rw [← HN.out]; omega) (by rw [← HN.out]; omega) HO.out)
        have VO2 := Lib.hid (VO.out HG.out)
        have AX := Lib.hid (AL.out _ HB.out)
        clear h100 VU VO
        by_cases ha : al.2 = 0
        · have HX := Lib.hid (VO2.out ha)
          rw [decide_eq_true ha] at AX
          clear VE VO2 ha
          go_wp2_with fail
          refine AX.out.mono ?_
          rintro e w1 ⟨v1, rfl, s1, hb1⟩
          have B1 := Lib.hid (HB.out.trans (hb1.mono HB.out.size))
          have X1 := Lib.hid (XM.out.later hb1)
          have EN := Lib.hid (rentries_any v1 _ al.1 nw w1 s1 (S0.out _ B1.out) AN.out)
          rw [← HX.out] at EN
          clear s1 hb1 x0 x1 x2
          obtain ⟨x0, x1, x2⟩ := X1.out.cells
          go_wp2_with fail
          refine EN.out.mono ?_
          rintro e w2 ⟨rfl, hb2⟩
          have B2 := Lib.hid (B1.out.trans (hb2.mono B1.out.size))
          clear hb2
          go_wp2_with fail
          go_ret
          exact ⟨rfl, B2.out⟩
        · have HX := Lib.hid (show false = r from (VE.out ha).symm)
          rw [decide_eq_false ha] at AX
          clear VE VO2 ha
          go_wp2_with fail
          refine AX.out.mono ?_
          rintro e w1 ⟨v1, rfl, s1, hb1⟩
          have B1 := Lib.hid (HB.out.trans (hb1.mono HB.out.size))
          clear s1 hb1
          go_wp2_with fail
          go_ret
          exact ⟨ret_bool HX.out, B1.out⟩
end Go.Proofs.YtaklilhnikmmfaaGreat

/-
  The walks of the reference's Sync and Crash.
-/
namespace Go.Proofs.YtaklilhnikmmfaaGreat
open Go.RowKit StrM DirM

set_option maxHeartbeats 2000000 in
set_option maxRecDepth 100000 in
theorem rdsync_any (v : Value) (d : D) (w : World) (hs : SeesD w v d) (hz : DSz d) : Calls Tryz.prog 65 #[v] w (DPost (syn d) w) := by
  obtain ⟨A0, c0, A1, c1, A2, c2, rfl, h0, h1, h2⟩ := hs.slices
  have RI := Lib.hid (fun W (hb : Below w.heap.size w W) => rdright_any _ d W (hs.later hb) hz)
  have S0 := Lib.hid h0
  unfold DPost
  generalize d.now.length = n0 at *
  generalize d.sure.length = n1 at *
  generalize d.pend.length = n2 at *
  have B0 := Lib.hid ((below_made w (.cells #[.slice A0 n0 c0, .slice A1 n1 c1, .slice A2 n2 c2] 32)).alloc (below_made w _).size (.cells #[.slice none 0 0, .slice none 0 0, .slice none 0 0] 32))
  have X0 := Lib.hid ((DBox.made w (.slice A0 n0 c0) (.slice A1 n1 c1) (.slice A2 n2 c2)).later (below_made _ (.cells #[.slice none 0 0, .slice none 0 0, .slice none 0 0] 32)))
  have Y0 := Lib.hid (show DBox _ (w.heap.size + 1) _ _ _ by simpa using DBox.made (w.alloc (.cells #[.slice A0 n0 c0, .slice A1 n1 c1, .slice A2 n2 c2] 32)) (.slice none 0 0) (.slice none 0 0) (.slice none 0 0))
  clear hs h0 h1 h2 hz
  go_enter Tryz.func65, Tryz.ntmps65
  go_wp2_with fail
  refine (RI.out _ B0.out).mono ?_
  rintro e w1 ⟨rfl, hb1⟩
  have B1 := Lib.hid (B0.out.trans (hb1.mono B0.out.size))
  have X1 := Lib.hid (X0.out.later hb1)
  have Y1 := Lib.hid (Y0.out.later hb1)
  clear hb1 X0 Y0 B0
  obtain ⟨y0, y1, y2⟩ := Y1.out.cells
  obtain ⟨z0, z1, z2⟩ := Y1.out.soft
  cases hv : valid d with
  | false =>
    have HF := Lib.hid (dsyn_no hv)
    have YF := Lib.hid (Y1.out.set (.slice none 0 0) (.slice none 0 0) (.slice none 0 0))
    have BF := Lib.hid (dset_below B1.out (show w.heap.size ≤ w.heap.size + 1 by omega) (.slice none 0 0) (.slice none 0 0) (.slice none 0 0))
    clear hv
    go_wp2_with fail
    change bodyPost _ _ _ _ _ (dset w1 (w.heap.size + 1) (.slice none 0 0) (.slice none 0 0) (.slice none 0 0))
    generalize dset w1 (w.heap.size + 1) (.slice none 0 0) (.slice none 0 0) (.slice none 0 0) = w9 at *
    clear y0 y1 y2
    obtain ⟨y0, y1, y2⟩ := YF.out.cells
    exact bodyPost_ret (by simp [results, Tryz.results65, go_sem, y0, y1, y2]; rfl) rfl ⟨_, rfl, by rw [HF.out]; exact SeesD.zero _, BF.out⟩
  | true =>
    have HF := Lib.hid (dsyn_ok hv)
    obtain ⟨x0, x1, x2⟩ := X1.out.cells
    have YF := Lib.hid (Y1.out.set (.slice A0 n0 c0) (.slice A0 n0 c0) (.slice none 0 0))
    have HF2 := Lib.hid (show SeesD (dset w1 (w.heap.size + 1) (.slice A0 n0 c0) (.slice A0 n0 c0) (.slice none 0 0)) (.agg #[.slice A0 n0 c0, .slice A0 n0 c0, .slice none 0 0]) (syn d) ∧ Below w.heap.size w (dset w1 (w.heap.size + 1) (.slice A0 n0 c0) (.slice A0 n0 c0) (.slice none 0 0)) from
      ⟨by rw [HF.out]; exact ⟨_, _, _, rfl, (S0.out.later B1.out).dset Y1.out _ _ _, (S0.out.later B1.out).dset Y1.out _ _ _, seesO_nil _⟩, dset_below B1.out (by omega) _ _ _⟩)
    clear hv
    go_wp2_with fail
    change bodyPost _ _ _ _ _ (dset w1 (w.heap.size + 1) (.slice A0 n0 c0) (.slice A0 n0 c0) (.slice none 0 0))
    generalize dset w1 (w.heap.size + 1) (.slice A0 n0 c0) (.slice A0 n0 c0) (.slice none 0 0) = w9 at *
    clear y0 y1 y2
    obtain ⟨y0, y1, y2⟩ := YF.out.cells
    exact bodyPost_ret (by simp [results, Tryz.results65, go_sem, y0, y1, y2]) rfl ⟨_, rfl, HF2.out.1, HF2.out.2⟩

set_option maxHeartbeats 8000000 in
set_option maxRecDepth 100000 in
theorem rdcrash_any (v : Value) (d : D) (n : Int) (w : World) (hs : SeesD w v d) (hz : DSz d) : Calls Tryz.prog 66 #[v, .int .i64 n] w (DPost (cr d n) w) := by
  obtain ⟨A0, c0, A1, c1, A2, c2, rfl, h0, h1, h2⟩ := hs.slices
  have hc2 : d.pend.length ≤ c2 := by obtain ⟨a, cap, e, hn⟩ := SeesN.form h2; injection e with _ _ e; omega
  have RI := Lib.hid (fun W (hb : Below w.heap.size w W) => rdright_any _ d W (hs.later hb) hz)
  have PE := Lib.hid (fun W (hb : Below w.heap.size w W) => rall_any _ _ d.sure (d.pend.take (cnt n d.pend.length)) W (h1.later hb) ((h2.later hb).cut (cnt_le n _)) hz.sure (by rw [List.length_take]; have := hz.pend; omega) (fun o ho => hz.ops o (List.mem_of_mem_take ho)))
  have PC := Lib.hid (fun hv => perf_cut (d := d) (n := n) hv)
  have HPB := Lib.hid hz.pend
  unfold DPost
  have VN := Lib.hid (fun h => dcr_no (d := d) h n)
  have VO := Lib.hid (fun h => dcr_ok (d := d) h n)
  generalize crL d n = C at *
  generalize d.now.length = n0 at *
  generalize d.sure.length = n1 at *
  obtain ⟨n2, hn2⟩ : ∃ n2, n2 = d.pend.length := ⟨_, rfl⟩
  rw [← hn2] at RI PE PC hc2 HPB ⊢
  obtain ⟨k, hk⟩ : ∃ k, k = cnt n n2 := ⟨_, rfl⟩
  rw [← hk] at PE PC
  have hki : (k : Int) = min (max n 0) (n2 : Int) := by rw [hk]; exact cnt_int n n2
  have hkn : k ≤ n2 := by rw [hk]; exact cnt_le n n2
  have CU := fun W => cut_ops A2 n2 c2 k (by omega) W
  have B0 := Lib.hid ((below_made w (.cells #[.slice A0 n0 c0, .slice A1 n1 c1, .slice A2 n2 c2] 32)).alloc (below_made w _).size (.cells #[.slice none 0 0, .slice none 0 0, .slice none 0 0] 32))
  have X0 := Lib.hid ((DBox.made w (.slice A0 n0 c0) (.slice A1 n1 c1) (.slice A2 n2 c2)).later (below_made _ (.cells #[.slice none 0 0, .slice none 0 0, .slice none 0 0] 32)))
  have Y0 := Lib.hid (show DBox _ (w.heap.size + 1) _ _ _ by simpa using DBox.made (w.alloc (.cells #[.slice A0 n0 c0, .slice A1 n1 c1, .slice A2 n2 c2] 32)) (.slice none 0 0) (.slice none 0 0) (.slice none 0 0))
  clear hs h0 h1 h2 hz hn2 hk
  go_enter Tryz.func66, Tryz.ntmps66
  go_wp2_with fail
  refine (RI.out _ B0.out).mono ?_
  rintro e w1 ⟨rfl, hb1⟩
  have B1 := Lib.hid (B0.out.trans (hb1.mono B0.out.size))
  have X1 := Lib.hid (X0.out.later hb1)
  have Y1 := Lib.hid (Y0.out.later hb1)
  clear hb1 X0 Y0 B0
  cases hv : valid d with
  | false =>
    have HF := Lib.hid (VN.out hv)
    obtain ⟨y0, y1, y2⟩ := Y1.out.cells
    obtain ⟨z0, z1, z2⟩ := Y1.out.soft
    have YF := Lib.hid (Y1.out.set (.slice none 0 0) (.slice none 0 0) (.slice none 0 0))
    have BF := Lib.hid (dset_below B1.out (show w.heap.size ≤ w.heap.size + 1 by omega) (.slice none 0 0) (.slice none 0 0) (.slice none 0 0))
    clear hv PE PC VN VO
    go_wp2_with fail
    change bodyPost _ _ _ _ _ (dset w1 (w.heap.size + 1) (.slice none 0 0) (.slice none 0 0) (.slice none 0 0))
    generalize dset w1 (w.heap.size + 1) (.slice none 0 0) (.slice none 0 0) (.slice none 0 0) = w9 at *
    obtain ⟨y0, y1, y2⟩ := YF.out.cells
    exact bodyPost_ret (by simp [results, Tryz.results66, go_sem, y0, y1, y2]; rfl) rfl ⟨_, rfl, by rw [HF.out]; exact SeesD.zero _, BF.out⟩
  | true =>
    have HF := Lib.hid (VO.out hv)
    obtain ⟨pc, pl⟩ := PC.out hv
    have PX := Lib.hid (show ∀ W (hb : Below w.heap.size w W), Calls Tryz.prog 89 #[.slice A1 n1 c1, .slice A2 k c2] W fun e w' => ∃ A c, e = .returned (.tuple #[.slice A C.length c, .bool true]) ∧ SeesE w' (.slice A C.length c) C ∧ Below W.heap.size W w' from fun W hb => by
      have h := PE.out W hb
      rw [pc] at h
      refine h.mono ?_
      rintro e w' ⟨v, he, ho, hb⟩
      obtain ⟨A, c, rfl, -⟩ := SeesN.form ho
      exact ⟨A, c, he, ho, hb⟩)
    have BD := Lib.hid B1.out.drew
    have XD := Lib.hid (X1.out.later (below_drew _ (Nat.le_refl _)))
    have YD := Lib.hid (Y1.out.later (below_drew _ (Nat.le_refl _)))
    obtain ⟨x0, x1, x2⟩ := X1.out.cells
    generalize C.length = m at *
    clear hv VN VO PE PC pc pl
    have hcase : (n < 0 ∧ k = 0) ∨ (0 ≤ n ∧ (n2 : Int) < n ∧ k = n2) ∨ (0 ≤ n ∧ n ≤ n2 ∧ n = (k : Int)) := by omega
    rcases hcase with ⟨a1, a2⟩ | ⟨a1, a2, a3⟩ | ⟨a1, a2, a3⟩
    · have CV := fun W => by
        have h := CU W
        rw [show (k : Int) = 0 by omega] at h
        exact h
      clear CU a2 hkn hki
      go_wp2_with fail
      go_region_held3 (fun W => W.cell? ⟨w.heap.size, 0, none⟩ = some (.slice A0 n0 c0) ∧ W.cell? ⟨w.heap.size, 1, none⟩ = some (.slice A1 n1 c1) ∧ W.cell? ⟨w.heap.size, 2, none⟩ = some (.slice A2 n2 c2))
        (first | exact XD.out.cells | exact hX3.cells)
        (first
          | (go_at_call 89; (with_reducible refine (PX.out _ BD.out).mono ?_); rintro e w3 ⟨D3, d3, rfl, s3, b3⟩; have hX3 := XD.out.later b3; have hB3 := BD.out.trans (b3.mono BD.out.size)))
      all_goals
        have B3 := Lib.hid hB3
        have Y3 := Lib.hid (YD.out.later b3)
        obtain ⟨y0, y1, y2⟩ := Y3.out.cells
        obtain ⟨z0, z1, z2⟩ := Y3.out.soft
        have YF := Lib.hid (Y3.out.set (.slice D3 m d3) (.slice D3 m d3) (.slice none 0 0))
        have HF2 := Lib.hid (show SeesD (dset w3 (w.heap.size + 1) (.slice D3 m d3) (.slice D3 m d3) (.slice none 0 0)) (.agg #[.slice D3 m d3, .slice D3 m d3, .slice none 0 0]) (cr d n) ∧ Below w.heap.size w (dset w3 (w.heap.size + 1) (.slice D3 m d3) (.slice D3 m d3) (.slice none 0 0)) from
          ⟨by rw [HF.out]; exact ⟨_, _, _, rfl, s3.dset Y3.out _ _ _, s3.dset Y3.out _ _ _, seesO_nil _⟩, dset_below B3.out (by omega) _ _ _⟩)
        clear s3 b3 hX3 hB3 x0 x1 x2
        go_wp2_with fail
        change bodyPost _ _ _ _ _ (dset w3 (w.heap.size + 1) (.slice D3 m d3) (.slice D3 m d3) (.slice none 0 0))
        generalize dset w3 (w.heap.size + 1) (.slice D3 m d3) (.slice D3 m d3) (.slice none 0 0) = w9 at *
        clear y0 y1 y2
        obtain ⟨y0, y1, y2⟩ := YF.out.cells
        exact bodyPost_ret (by simp [results, Tryz.results66, go_sem, y0, y1, y2]) rfl ⟨_, rfl, HF2.out.1, HF2.out.2⟩
    · have CV := fun W => by
        have h := CU W
        rw [show (k : Int) = (n2 : Int) by omega] at h
        exact h
      have a1' : decide (n < 0) = false := by simp; omega
      have hcn : n2 ≤ c2 := hc2
      clear CU a1 a3 hkn hki
      go_wp2_with fail
      go_region_held3 (fun W => W.cell? ⟨w.heap.size, 0, none⟩ = some (.slice A0 n0 c0) ∧ W.cell? ⟨w.heap.size, 1, none⟩ = some (.slice A1 n1 c1) ∧ W.cell? ⟨w.heap.size, 2, none⟩ = some (.slice A2 n2 c2))
        (first | exact XD.out.cells | exact hX3.cells)
        (first
          | (go_at_call 89; (with_reducible refine (PX.out _ BD.out).mono ?_); rintro e w3 ⟨D3, d3, rfl, s3, b3⟩; have hX3 := XD.out.later b3; have hB3 := BD.out.trans (b3.mono BD.out.size)))
      all_goals
        have B3 := Lib.hid hB3
        have Y3 := Lib.hid (YD.out.later b3)
        obtain ⟨y0, y1, y2⟩ := Y3.out.cells
        obtain ⟨z0, z1, z2⟩ := Y3.out.soft
        have YF := Lib.hid (Y3.out.set (.slice D3 m d3) (.slice D3 m d3) (.slice none 0 0))
        have HF2 := Lib.hid (show SeesD (dset w3 (w.heap.size + 1) (.slice D3 m d3) (.slice D3 m d3) (.slice none 0 0)) (.agg #[.slice D3 m d3, .slice D3 m d3, .slice none 0 0]) (cr d n) ∧ Below w.heap.size w (dset w3 (w.heap.size + 1) (.slice D3 m d3) (.slice D3 m d3) (.slice none 0 0)) from
          ⟨by rw [HF.out]; exact ⟨_, _, _, rfl, s3.dset Y3.out _ _ _, s3.dset Y3.out _ _ _, seesO_nil _⟩, dset_below B3.out (by omega) _ _ _⟩)
        clear s3 b3 hX3 hB3 x0 x1 x2
        go_wp2_with fail
        change bodyPost _ _ _ _ _ (dset w3 (w.heap.size + 1) (.slice D3 m d3) (.slice D3 m d3) (.slice none 0 0))
        generalize dset w3 (w.heap.size + 1) (.slice D3 m d3) (.slice D3 m d3) (.slice none 0 0) = w9 at *
        clear y0 y1 y2
        obtain ⟨y0, y1, y2⟩ := YF.out.cells
        exact bodyPost_ret (by simp [results, Tryz.results66, go_sem, y0, y1, y2]) rfl ⟨_, rfl, HF2.out.1, HF2.out.2⟩
    · have CV := fun W => by
        have h := CU W
        rw [← a3] at h
        exact h
      have a1' : decide (n < 0) = false := by simp; omega
      have a2' : decide ((n2 : Int) < n) = false := by simp; omega
      clear CU a3 hkn hki
      go_wp2_with fail
      go_region_held3 (fun W => W.cell? ⟨w.heap.size, 0, none⟩ = some (.slice A0 n0 c0) ∧ W.cell? ⟨w.heap.size, 1, none⟩ = some (.slice A1 n1 c1) ∧ W.cell? ⟨w.heap.size, 2, none⟩ = some (.slice A2 n2 c2))
        (first | exact XD.out.cells | exact hX3.cells)
        (first
          | (go_at_call 89; (with_reducible refine (PX.out _ BD.out).mono ?_); rintro e w3 ⟨D3, d3, rfl, s3, b3⟩; have hX3 := XD.out.later b3; have hB3 := BD.out.trans (b3.mono BD.out.size)))
      all_goals
        have B3 := Lib.hid hB3
        have Y3 := Lib.hid (YD.out.later b3)
        obtain ⟨y0, y1, y2⟩ := Y3.out.cells
        obtain ⟨z0, z1, z2⟩ := Y3.out.soft
        have YF := Lib.hid (Y3.out.set (.slice D3 m d3) (.slice D3 m d3) (.slice none 0 0))
        have HF2 := Lib.hid (show SeesD (dset w3 (w.heap.size + 1) (.slice D3 m d3) (.slice D3 m d3) (.slice none 0 0)) (.agg #[.slice D3 m d3, .slice D3 m d3, .slice none 0 0]) (cr d n) ∧ Below w.heap.size w (dset w3 (w.heap.size + 1) (.slice D3 m d3) (.slice D3 m d3) (.slice none 0 0)) from
          ⟨by rw [HF.out]; exact ⟨_, _, _, rfl, s3.dset Y3.out _ _ _, s3.dset Y3.out _ _ _, seesO_nil _⟩, dset_below B3.out (by omega) _ _ _⟩)
        clear s3 b3 hX3 hB3 x0 x1 x2
        go_wp2_with fail
        change bodyPost _ _ _ _ _ (dset w3 (w.heap.size + 1) (.slice D3 m d3) (.slice D3 m d3) (.slice none 0 0))
        generalize dset w3 (w.heap.size + 1) (.slice D3 m d3) (.slice D3 m d3) (.slice none 0 0) = w9 at *
        clear y0 y1 y2
        obtain ⟨y0, y1, y2⟩ := YF.out.cells
        exact bodyPost_ret (by simp [results, Tryz.results66, go_sem, y0, y1, y2]) rfl ⟨_, rfl, HF2.out.1, HF2.out.2⟩
end Go.Proofs.YtaklilhnikmmfaaGreat

/-
  The walk of the reference's Do.
-/
namespace Go.Proofs.YtaklilhnikmmfaaGreat
open Go.RowKit StrM DirM

theorem SeesN.of_heap {w : World} {q : Nat} {e : TypeId} {us : List Value} (h : w.heap[q]? = some (.cells us.toArray e (0, 0))) : SeesN w (.slice (some ⟨q, 0, none⟩) 1 1) 1 us := by
  refine ⟨_, 1, rfl, Nat.le_refl _, .inr ⟨q, 0, rfl, (Array.getElem?_eq_some_iff.1 h).1, fun k c hk => ?_⟩⟩
  rw [cell_of_row w q _ _ _ (0, 0) h]
  simpa using hk

/-- The operations behind the append of one more. -/
theorem pend_done {w6 : World} {B : Nat} {v6 : Value} {l : List O} {o : O} (ho : w6.ownsRow B 65 4 v6 (l.length + 1) (ocs l ++ oc o)) : SeesO w6 v6 (l ++ [o]) := by
  have : SeesN w6 v6 (l.length + 1) (ocs l ++ oc o) := SeesN.of_own ho
  unfold SeesO
  rw [List.length_append, ocs_add]
  exact this

set_option maxHeartbeats 8000000 in
set_option maxRecDepth 100000 in
theorem rddo_any (v : Value) (d : D) (o : O) (w : World) (hs : SeesD w v d) (hz : DSz d) (hp : d.pend.length ≤ 999999) (ho : OkO o) :
    Calls Tryz.prog 60 #[v, .agg #[.int .i64 o.kind, .string o.name, .string o.dst, .int .i64 o.node]] w (DEPost (doD d o) (doE d o) w) := by
  obtain ⟨A0, c0, A1, c1, A2, c2, rfl, h0, h1, h2⟩ := hs.slices
  have RI := Lib.hid (fun W (hb : Below w.heap.size w W) => rdright_any _ d W (hs.later hb) hz)
  have PE := Lib.hid (fun W (hb : Below w.heap.size w W) (hv : valid d = true) => rdone_any _ d.now o W (h0.later hb) (by have := (valid_now hv).few; omega) ho)
  have S1 := Lib.hid (fun W (hb : Below w.heap.size w W) => h1.later hb)
  have S2P := Lib.hid (fun W (hb : Below w.heap.size w W) => h2.later hb)
  unfold RDPost at PE
  unfold DEPost
  have VN := Lib.hid (fun h => doD_no (d := d) h o)
  have VE := Lib.hid (fun h => doD_err (d := d) (o := o) h)
  have VO := Lib.hid (fun h => doD_ok (d := d) (o := o) h)
  have WN := Lib.hid (fun h => doE_no (d := d) h o)
  have WO := Lib.hid (fun h => doE_ok (d := d) h o)
  have HPL := Lib.hid hp
  obtain ⟨n0, e0⟩ : ∃ n, n = d.now.length := ⟨_, rfl⟩
  obtain ⟨n1, e1⟩ : ∃ n, n = d.sure.length := ⟨_, rfl⟩
  obtain ⟨n2, e2⟩ : ∃ n, n = d.pend.length := ⟨_, rfl⟩
  rw [← e0] at RI PE ⊢
  rw [← e1] at RI S1 ⊢
  rw [← e2] at RI S2P HPL ⊢
  have HN1 := Lib.hid e1
  have HN2 := Lib.hid e2
  have B0 := Lib.hid (((below_made w (.cells #[.slice A0 n0 c0, .slice A1 n1 c1, .slice A2 n2 c2] 32)).alloc (below_made w _).size (.cells #[.int .i64 o.kind, .string o.name, .string o.dst, .int .i64 o.node] 65)).alloc ((below_made w _).alloc (below_made w _).size _).size (.cells #[.slice none 0 0, .slice none 0 0, .slice none 0 0] 32))
  have X0 := Lib.hid (((DBox.made w (.slice A0 n0 c0) (.slice A1 n1 c1) (.slice A2 n2 c2)).later (below_made _ (.cells #[.int .i64 o.kind, .string o.name, .string o.dst, .int .i64 o.node] 65))).later (below_made _ (.cells #[.slice none 0 0, .slice none 0 0, .slice none 0 0] 32)))
  have P0 := Lib.hid (show OBox _ (w.heap.size + 1) _ by simpa using (OBox.made (w.alloc (.cells #[.slice A0 n0 c0, .slice A1 n1 c1, .slice A2 n2 c2] 32)) o).later (below_made _ (.cells #[.slice none 0 0, .slice none 0 0, .slice none 0 0] 32)))
  have Y0 := Lib.hid (show DBox _ (w.heap.size + 1 + 1) _ _ _ by simpa using DBox.made ((w.alloc (.cells #[.slice A0 n0 c0, .slice A1 n1 c1, .slice A2 n2 c2] 32)).alloc (.cells #[.int .i64 o.kind, .string o.name, .string o.dst, .int .i64 o.node] 65)) (.slice none 0 0) (.slice none 0 0) (.slice none 0 0))
  clear hs h0 h1 h2 hp e0 e1 e2 hz ho
  obtain ⟨er, her⟩ : ∃ er, er = err d.now o := ⟨_, rfl⟩
  rw [← her] at PE VE VO WO
  have HER := Lib.hid her
  have HO := Lib.hid (show o = ⟨o.kind, o.name, o.dst, o.node⟩ from rfl)
  obtain ⟨nx, hnx⟩ : ∃ nx, nx = done d.now o := ⟨_, rfl⟩
  rw [← hnx] at PE VO
  have dl : d.pend ++ [o] = d.pend ++ [o] := rfl
  obtain ⟨de, hde⟩ : ∃ de, de = doD d o := ⟨_, rfl⟩
  obtain ⟨ee, hee⟩ : ∃ ee, ee = doE d o := ⟨_, rfl⟩
  rw [← hde] at VN VE VO ⊢
  rw [← hee] at WN WO ⊢
  have OC := Lib.hid (show oc o = [.int .i64 o.kind, .string o.name, .string o.dst, .int .i64 o.node] from rfl)
  obtain ⟨lp, hlp⟩ : ∃ lp, lp = d.pend ++ [o] := ⟨_, rfl⟩
  rw [← hlp] at VO
  have HLP := Lib.hid hlp
  obtain ⟨us, hus⟩ : ∃ us, us = oc o := ⟨_, rfl⟩
  have HUS := Lib.hid hus
  rw [← hus] at OC
  have US4 := Lib.hid (show us.length = 4 by rw [hus]; rfl)
  have US1 := Lib.hid (show ∀ c ∈ us, c.oneCell' = true by rw [hus]; exact oc_ones o)
  clear her hnx dl hde hee hlp hus
  obtain ⟨kd, nm, ds, nd⟩ := o
  simp only at B0 X0 P0 Y0 OC ⊢
  go_enter Tryz.func60, Tryz.ntmps60
  go_wp2_with fail
  refine (RI.out _ B0.out).mono ?_
  rintro e w1 ⟨rfl, hb1⟩
  have B1 := Lib.hid (B0.out.trans (hb1.mono B0.out.size))
  have X1 := Lib.hid (X0.out.later hb1)
  have P1 := Lib.hid (P0.out.later hb1)
  have Y1 := Lib.hid (Y0.out.later hb1)
  clear hb1 X0 Y0 B0 P0 RI
  cases hv : valid d with
  | false =>
    have HF := Lib.hid (VN.out hv)
    have HE := Lib.hid (WN.out hv)
    obtain ⟨y0, y1, y2⟩ := Y1.out.cells
    obtain ⟨z0, z1, z2⟩ := Y1.out.soft
    have YF := Lib.hid (Y1.out.set (.slice none 0 0) (.slice none 0 0) (.slice none 0 0))
    have BF := Lib.hid (dset_below B1.out (show w.heap.size ≤ w.heap.size + 1 + 1 by omega) (.slice none 0 0) (.slice none 0 0) (.slice none 0 0))
    clear hv PE VN VO VE WN WO
    go_wp2_with fail
    change bodyPost _ _ _ _ _ (dset w1 (w.heap.size + 1 + 1) (.slice none 0 0) (.slice none 0 0) (.slice none 0 0))
    generalize dset w1 (w.heap.size + 1 + 1) (.slice none 0 0) (.slice none 0 0) (.slice none 0 0) = w9 at *
    obtain ⟨y0, y1, y2⟩ := YF.out.cells
    exact bodyPost_ret (by simp [results, Tryz.results60, go_sem, y0, y1, y2]; rfl) rfl ⟨_, by rw [HE.out], by rw [HF.out]; exact SeesD.zero _, BF.out⟩
  | true =>
    have HE := Lib.hid (WO.out hv)
    have VF := Lib.hid (VE.out hv)
    have VP := Lib.hid (VO.out hv)
    have PX := Lib.hid (PE.out w1 B1.out hv)
    obtain ⟨res, hres⟩ : ∃ res, res = if er = 0 then nx else [] := ⟨_, rfl⟩
    rw [← hres] at PX
    have RO := Lib.hid (fun h : er = 0 => show res = nx by rw [hres, if_pos h])
    obtain ⟨x0, x1, x2⟩ := X1.out.cells
    obtain ⟨p0, p1, p2, p3⟩ := P1.out.cells
    simp only at p0 p1 p2 p3
    clear hv VN WN WO PE VE VO hres
    go_wp2_with fail
    refine PX.out.mono ?_
    rintro e w2 ⟨v2, rfl, s2, hb2⟩
    have B2 := Lib.hid (B1.out.trans (hb2.mono B1.out.size))
    have X2 := Lib.hid (X1.out.later hb2)
    have P2 := Lib.hid (P1.out.later hb2)
    have Y2 := Lib.hid (Y1.out.later hb2)
    clear hb2 X1 P1 Y1 B1 x0 x1 x2 p0 p1 p2 p3 PX
    by_cases h0 : er = 0
    · subst h0
      have S2 := Lib.hid (show SeesE w2 v2 nx by rw [← RO.out rfl]; exact s2)
      have HF := Lib.hid (VP.out rfl)
      obtain ⟨m0, hm0⟩ : ∃ m, m = nx.length := ⟨_, rfl⟩
      obtain ⟨D0, d0, rfl, -⟩ := SeesN.form S2.out
      rw [← hm0] at S2 ⊢
      clear VF VP RO s2 hm0
      have HB2 := Lib.hid (fun W (hb : Below w2.heap.size w2 W) => B2.out.trans (hb.mono B2.out.size))
      have KD : Below w2.heap.size w2 w2.drew := below_drew _ (Nat.le_refl _)
      have KO : Below w2.heap.size w2 (w2.alloc (.cells #[.int .i64 kd, .string nm, .string ds, .int .i64 nd] 65)).drew := (below_made w2 _).drew
      have K1 := Lib.hid (show Below w2.heap.size w2 (w2.alloc (.cells #[] 65)).drew from (below_made w2 _).drew)
      have K2 := Lib.hid (show Below w2.heap.size w2 ((w2.alloc (.cells #[] 65)).alloc (.cells #[.int .i64 kd, .string nm, .string ds, .int .i64 nd] 65)).drew from ((below_made w2 _).alloc (below_made w2 _).size _).drew)
      have K3 := Lib.hid (show Below w2.heap.size w2 ((w2.alloc (.cells #[.int .i64 kd, .string nm, .string ds, .int .i64 nd] 65)).alloc (.cells #[] 65)).drew from ((below_made w2 _).alloc (below_made w2 _).size _).drew)
      have E1 := Lib.hid (show ((w2.alloc (.cells #[] 65)).drew).ownsRow w2.heap.size 65 4 (.slice (some ⟨w2.heap.size, 0, none⟩) 0 0) 0 [] from own_belowN (own_madeN w2 _ 4) (below_drew _ (Nat.le_refl _)))
      have E2 := Lib.hid (show (((w2.alloc (.cells #[] 65)).alloc (.cells #[.int .i64 kd, .string nm, .string ds, .int .i64 nd] 65)).drew).ownsRow w2.heap.size 65 4 (.slice (some ⟨w2.heap.size, 0, none⟩) 0 0) 0 [] from own_belowN ((own_madeN w2 _ 4).alloc _) (below_drew _ (Nat.le_refl _)))
      have E3 := Lib.hid (show (((w2.alloc (.cells #[.int .i64 kd, .string nm, .string ds, .int .i64 nd] 65)).alloc (.cells #[] 65)).drew).ownsRow w2.heap.size 65 4 (.slice (some ⟨w2.heap.size + 1, 0, none⟩) 0 0) 0 [] from by
        have h := own_belowN (own_madeN (w2.alloc (.cells #[.int .i64 kd, .string nm, .string ds, .int .i64 nd] 65)) 65 4) (below_drew _ (Nat.le_refl _))
        rw [show (w2.alloc (.cells #[.int .i64 kd, .string nm, .string ds, .int .i64 nd] 65)).heap.size = w2.heap.size + 1 by simp] at h
        exact own_baseN h (by omega))
      have Q2 := Lib.hid (show (((w2.alloc (.cells #[] 65)).alloc (.cells #[.int .i64 kd, .string nm, .string ds, .int .i64 nd] 65)).drew).heap[w2.heap.size + 1]? = some (.cells #[.int .i64 kd, .string nm, .string ds, .int .i64 nd] 65) from by
        have h := heap_alloc_new (w2.alloc (.cells #[] 65)) (.cells #[.int .i64 kd, .string nm, .string ds, .int .i64 nd] 65)
        rw [show (w2.alloc (.cells #[] 65)).heap.size = w2.heap.size + 1 by simp] at h
        exact h)
      have Q3 := Lib.hid (show (((w2.alloc (.cells #[.int .i64 kd, .string nm, .string ds, .int .i64 nd] 65)).alloc (.cells #[] 65)).drew).heap[w2.heap.size]? = some (.cells #[.int .i64 kd, .string nm, .string ds, .int .i64 nd] 65) from by
        have h := heap_alloc_new w2 (.cells #[.int .i64 kd, .string nm, .string ds, .int .i64 nd] 65)
        have h2 := Below.heap_alloc (w2.alloc (.cells #[.int .i64 kd, .string nm, .string ds, .int .i64 nd] 65)) (.cells #[] 65) w2.heap.size (by simp)
        show ((w2.alloc (.cells #[.int .i64 kd, .string nm, .string ds, .int .i64 nd] 65)).alloc (.cells #[] 65)).heap[w2.heap.size]? = _
        rw [h2]
        exact h)
      have SQ := Lib.hid (fun (W : World) (q : Nat) (h : W.heap[q]? = some (.cells #[.int .i64 kd, .string nm, .string ds, .int .i64 nd] 65)) => show SeesN W (.slice (some ⟨q, 0, none⟩) 1 1) 1 us from SeesN.of_heap (e := 65) (by rw [h, OC.out]))
      have HC := Lib.hid (show ∀ W, Below w2.heap.size w2 W → (W.cell? ⟨w.heap.size, 1, none⟩ = some (.slice A1 n1 c1) ∧ W.cell? ⟨w.heap.size, 2, none⟩ = some (.slice A2 n2 c2)) ∧ W.cell? ⟨w.heap.size + 1, 0, none⟩ = some (.int .i64 kd) ∧ W.cell? ⟨w.heap.size + 1, 1, none⟩ = some (.string nm) ∧ W.cell? ⟨w.heap.size + 1, 2, none⟩ = some (.string ds) ∧ W.cell? ⟨w.heap.size + 1, 3, none⟩ = some (.int .i64 nd) from
        fun W hb => ⟨(X2.out.later hb).cells.2, (P2.out.later hb).cells⟩)
      have N1 := Lib.hid (show (d.pend.length + 1) * 48 ≤ 140737488355328 by have := HPL.out; rw [← HN2.out]; omega)
      have N2 := Lib.hid (show d.pend.length + 1 ≤ maxLen by have := HPL.out; rw [← HN2.out]; unfold maxLen; omega)
      have N3 := Lib.hid (show (0 + d.pend.length) * 48 ≤ 140737488355328 by have := N1.out; omega)
      have N4 := Lib.hid (show 0 + d.pend.length ≤ maxLen by have := N2.out; omega)
      have SP := Lib.hid (fun W (hb : Below w2.heap.size w2 W) => show SeesN W (.slice A2 n2 c2) d.pend.length (ocs d.pend) from S2P.out W (HB2.out W hb))
      have OCL := Lib.hid (ocs_len d.pend)
      have hq1 : w.heap.size ≠ w.heap.size + 1 + 1 := by omega
      have hq2 : w.heap.size + 1 ≠ w.heap.size + 1 + 1 := by omega
      obtain ⟨⟨x1, x2⟩, p0, p1, p2, p3⟩ := HC.out _ (Below.refl _ _)
      go_wp2_with fail
      go_region_held3 (fun W => W.cell? ⟨w.heap.size, 1, none⟩ = some (.slice A1 n1 c1) ∧ W.cell? ⟨w.heap.size, 2, none⟩ = some (.slice A2 n2 c2) ∧ W.cell? ⟨w.heap.size + 1, 0, none⟩ = some (.int .i64 kd) ∧ W.cell? ⟨w.heap.size + 1, 1, none⟩ = some (.string nm) ∧ W.cell? ⟨w.heap.size + 1, 2, none⟩ = some (.string ds) ∧ W.cell? ⟨w.heap.size + 1, 3, none⟩ = some (.int .i64 nd))
        (first | exact and_assoc.1 (HC.out _ KD) | exact and_assoc.1 (HC.out _ KO) | exact and_assoc.1 (HC.out _ K1.out) | exact and_assoc.1 (HC.out _ K2.out) | exact and_assoc.1 (HC.out _ K3.out) | exact and_assoc.1 (HC.out _ k6) | exact and_assoc.1 (HC.out _ k5) | exact and_assoc.1 (HC.out _ (k5.alloc k5.size _)) | exact ⟨(dset_cell hq1 _ _ _).trans (HC.out _ k6).1.1, (dset_cell hq1 _ _ _).trans (HC.out _ k6).1.2, (dset_cell hq2 _ _ _).trans (HC.out _ k6).2.1, (dset_cell hq2 _ _ _).trans (HC.out _ k6).2.2.1, (dset_cell hq2 _ _ _).trans (HC.out _ k6).2.2.2.1, (dset_cell hq2 _ _ _).trans (HC.out _ k6).2.2.2.2⟩)
        (first
          | (refine step_append_n nOp rfl (.tmp 26) (.tmp 28) rfl w2.heap.size _ 0 [] (by simp [Act.eval]) E1.out _ d.pend.length (ocs d.pend) (by simp [Act.eval]) (SP.out _ K1.out) OCL.out (ocs_ones _) N3.out N4.out K1.out.size ?_; intro v5 w5 o5 b5 st5; have k5 := K1.out.trans b5; have o5 := (show w5.ownsRow w2.heap.size 65 4 v5 d.pend.length (ocs d.pend) by simpa using o5))
          | (refine step_append_n nOp rfl (.tmp 26) (.tmp 28) rfl w2.heap.size _ 0 [] (by simp [Act.eval]) E2.out _ d.pend.length (ocs d.pend) (by simp [Act.eval]) (SP.out _ K2.out) OCL.out (ocs_ones _) N3.out N4.out K2.out.size ?_; intro v5 w5 o5 b5 st5; have k5 := K2.out.trans b5; have q5 := SQ.out _ _ (st5 _ _ Q2.out (by simp [Value.ownBlock])); have o5 := (show w5.ownsRow w2.heap.size 65 4 v5 d.pend.length (ocs d.pend) by simpa using o5))
          | (refine step_append_n nOp rfl (.tmp 26) (.tmp 28) rfl w2.heap.size _ 0 [] (by simp [Act.eval]) E3.out _ d.pend.length (ocs d.pend) (by simp [Act.eval]) (SP.out _ K3.out) OCL.out (ocs_ones _) N3.out N4.out K3.out.size ?_; intro v5 w5 o5 b5 st5; have k5 := K3.out.trans b5; have q5 := SQ.out _ _ (st5 _ _ Q3.out (by simp [Value.ownBlock])); have o5 := (show w5.ownsRow w2.heap.size 65 4 v5 d.pend.length (ocs d.pend) by simpa using o5))
          | (refine step_append_n1 nOp rfl (.tmp 29) (.tmp 31) rfl w2.heap.size v5 d.pend.length (ocs d.pend) (by simp [Act.eval]) o5 us _ (by simp [Act.eval]) q5 US4.out US1.out N1.out N2.out k5.size ?_; intro v6 w6 o6 b6 st6; have k6 := k5.trans b6; have s6 := pend_done (o := ⟨kd, nm, ds, nd⟩) (by rw [← HUS.out]; exact o6); obtain ⟨A6, c6, rfl, -⟩ := SeesN.form (SeesN.of_own o6); have hY6 := Y2.out.later k6; obtain ⟨y0, y1, y2⟩ := hY6.cells; obtain ⟨z0, z1, z2⟩ := hY6.soft)
          | (refine step_append_n1 nOp rfl (.tmp 29) (.tmp 31) rfl w2.heap.size v5 d.pend.length (ocs d.pend) (by simp [Act.eval]) (o5.alloc _) us _ (by simp [Act.eval]) (SQ.out _ _ (heap_alloc_new w5 _)) US4.out US1.out N1.out N2.out (k5.alloc k5.size _).size ?_; intro v6 w6 o6 b6 st6; have k6 := (k5.alloc k5.size _).trans b6; have s6 := pend_done (o := ⟨kd, nm, ds, nd⟩) (by rw [← HUS.out]; exact o6); obtain ⟨A6, c6, rfl, -⟩ := SeesN.form (SeesN.of_own o6); have hY6 := Y2.out.later k6; obtain ⟨y0, y1, y2⟩ := hY6.cells; obtain ⟨z0, z1, z2⟩ := hY6.soft))
      all_goals
        have HF2 := Lib.hid (show SeesD (dset w6 (w.heap.size + 1 + 1) (.slice D0 m0 d0) (.slice A1 n1 c1) (.slice A6 (d.pend.length + 1) c6)) (.agg #[.slice D0 m0 d0, .slice A1 n1 c1, .slice A6 (d.pend.length + 1) c6]) de ∧ Below w.heap.size w (dset w6 (w.heap.size + 1 + 1) (.slice D0 m0 d0) (.slice A1 n1 c1) (.slice A6 (d.pend.length + 1) c6)) from
          ⟨by rw [HF.out, HLP.out]; exact ⟨_, _, _, rfl, (S2.out.later k6).dset hY6 _ _ _, (S1.out _ (HB2.out _ k6)).dset hY6 _ _ _, s6.dset hY6 _ _ _⟩, dset_below (B2.out.trans (k6.mono B2.out.size)) (by omega) _ _ _⟩)
        have YF := Lib.hid (hY6.set (.slice D0 m0 d0) (.slice A1 n1 c1) (.slice A6 (d.pend.length + 1) c6))
        clear s6 k6 hY6 y0 y1 y2 z0 z1 z2 o6 b6 st6 o5 b5 st5 k5
        go_wp2_with fail
        change bodyPost _ _ _ _ _ (dset w6 (w.heap.size + 1 + 1) (.slice D0 m0 d0) (.slice A1 n1 c1) (.slice A6 (d.pend.length + 1) c6))
        generalize dset w6 (w.heap.size + 1 + 1) (.slice D0 m0 d0) (.slice A1 n1 c1) (.slice A6 (d.pend.length + 1) c6) = w9 at *
        obtain ⟨y0, y1, y2⟩ := YF.out.cells
        exact bodyPost_ret (by simp [results, Tryz.results60, go_sem, y0, y1, y2]; rfl) rfl ⟨_, by rw [HE.out], HF2.out.1, HF2.out.2⟩
    · have HF := Lib.hid (VF.out h0)
      have d1 : (er == 0) = false := by simpa using h0
      obtain ⟨y0, y1, y2⟩ := Y2.out.cells
      obtain ⟨z0, z1, z2⟩ := Y2.out.soft
      have YF := Lib.hid (Y2.out.set (.slice none 0 0) (.slice none 0 0) (.slice none 0 0))
      have BF := Lib.hid (dset_below B2.out (show w.heap.size ≤ w.heap.size + 1 + 1 by omega) (.slice none 0 0) (.slice none 0 0) (.slice none 0 0))
      clear VF VP RO s2 h0
      go_wp2_with fail
      change bodyPost _ _ _ _ _ (dset w2 (w.heap.size + 1 + 1) (.slice none 0 0) (.slice none 0 0) (.slice none 0 0))
      generalize dset w2 (w.heap.size + 1 + 1) (.slice none 0 0) (.slice none 0 0) (.slice none 0 0) = w9 at *
      clear y0 y1 y2
      obtain ⟨y0, y1, y2⟩ := YF.out.cells
      exact bodyPost_ret (by simp [results, Tryz.results60, go_sem, y0, y1, y2]; rfl) rfl ⟨_, by rw [HE.out], by rw [HF.out]; exact SeesD.zero _, BF.out⟩
end Go.Proofs.YtaklilhnikmmfaaGreat

/-
  The walks of the reference's Same and Few.
-/
namespace Go.Proofs.YtaklilhnikmmfaaGreat
open Go.RowKit StrM DirM

end Go.Proofs.YtaklilhnikmmfaaGreat

/-
  The walk of the reference's Made: a directory behind things done.
-/
namespace Go.Proofs.YtaklilhnikmmfaaGreat
open Go.RowKit StrM DirM

theorem name_le {s : ByteArray} (h : nameOk s = true) : s.size ≤ 24 := by
  unfold nameOk at h
  simp at h
  omega
theorem dsz_valid {d : D} (h : valid d = true) (hp : d.pend.length ≤ 1000000) (ho : ∀ o ∈ d.pend, OkO o) : DSz d :=
  ⟨by have := (valid_iff.1 h).1.few; omega, hp, fun x hx => by have := name_le ((valid_iff.1 h).1.names x hx); unfold maxLen; omega, ho⟩
theorem ok_default : OkO default := ⟨Nat.zero_le _, Nat.zero_le _⟩
theorem ops_mid {sure : List Bool} {d : D} {k : Nat} (h : ∀ o ∈ d.pend, OkO o) : ∀ o ∈ (mid sure d k).pend, OkO o := by
  unfold mid
  split
  · rw [pend_syn]; intro o ho; cases ho
  · exact h
theorem ops_made {ops : List O} {sure : List Bool} (h : ∀ o ∈ ops, OkO o) : ∀ k, ∀ o ∈ (madeTo ops sure k).pend, OkO o
  | 0 => by intro o ho; cases ho
  | k + 1 => by
    have ih := ops_mid (sure := sure) (k := k) (ops_made (sure := sure) h k)
    unfold madeTo DirM.step
    split
    · next he =>
      rw [(do_ok he).2.2]
      intro o ho
      rcases List.mem_append.1 ho with ho | ho
      · exact ih o ho
      · rw [List.mem_singleton] at ho
        subst ho
        rw [List.getD_eq_getElem?_getD]
        by_cases hk : k < ops.length
        · rw [List.getElem?_eq_getElem hk]; exact h _ (List.getElem_mem hk)
        · rw [List.getElem?_eq_none (by omega)]; exact ok_default
    · exact ih
theorem dsz_mid {ops : List O} {sure : List Bool} (h : ∀ o ∈ ops, OkO o) {k : Nat} (hk : k ≤ 1000) : DSz (mid sure (madeTo ops sure k) k) :=
  dsz_valid (valid_mid (valid_made ops sure k)) (by have := pend_mid (sure := sure) (d := madeTo ops sure k) (k := k); have := pend_made ops sure k; omega) (ops_mid (ops_made h k))
theorem dsz_made {ops : List O} {sure : List Bool} (h : ∀ o ∈ ops, OkO o) {k : Nat} (hk : k ≤ 1000) : DSz (madeTo ops sure k) :=
  dsz_valid (valid_made ops sure k) (by have := pend_made ops sure k; omega) (ops_made h k)
theorem made_next {ops : List O} {sure : List Bool} {k : Nat} (hk : k < ops.length) : madeTo ops sure (k + 1) = DirM.step sure (madeTo ops sure k) k ops[k] := by
  show DirM.step sure (madeTo ops sure k) k (ops.getD k default) = _
  rw [List.getD_eq_getElem?_getD, List.getElem?_eq_getElem hk]; rfl
theorem mid_yes {sure : List Bool} {d : D} {k : Nat} (hk : k < sure.length) (h : sure[k] = true) : mid sure d k = syn d := by
  unfold mid; rw [List.getD_eq_getElem?_getD, List.getElem?_eq_getElem hk]; simp [h]
theorem mid_no {sure : List Bool} {d : D} {k : Nat} (hk : k < sure.length) (h : sure[k] = false) : mid sure d k = d := by
  unfold mid; rw [List.getD_eq_getElem?_getD, List.getElem?_eq_getElem hk]; simp [h]
theorem mid_none {sure : List Bool} {d : D} {k : Nat} (hk : ¬ k < sure.length) : mid sure d k = d := by
  unfold mid; rw [List.getD_eq_getElem?_getD, List.getElem?_eq_none (by omega)]; rfl

/-- What the loop keeps: the directory's block, and the result's, which lies below it. -/
def DInv (w : World) (d : D) (wr : World) : Prop :=
  ∃ A0 n0 c0 A1 n1 c1 A2 n2 c2, DBox wr (w.heap.size + 1) (.slice A0 n0 c0) (.slice A1 n1 c1) (.slice A2 n2 c2) ∧ SeesD wr (.agg #[.slice A0 n0 c0, .slice A1 n1 c1, .slice A2 n2 c2]) d ∧
    DBox wr w.heap.size (.slice none 0 0) (.slice none 0 0) (.slice none 0 0) ∧ Below w.heap.size w wr
theorem DInv.set {w wr w1 : World} {f f' : D} (h : DInv w f wr) (hb : Below wr.heap.size wr w1) {A0 A1 A2 : Option Addr} {n0 n1 n2 c0 c1 c2 : Nat}
    (hs : SeesD w1 (.agg #[.slice A0 n0 c0, .slice A1 n1 c1, .slice A2 n2 c2]) f') : DInv w f' (dset w1 (w.heap.size + 1) (.slice A0 n0 c0) (.slice A1 n1 c1) (.slice A2 n2 c2)) := by
  obtain ⟨_, _, _, _, _, _, _, _, _, hB, _, hR, hbel⟩ := h
  have hB := hB.later hb
  have hR := hR.later hb
  refine ⟨_, _, _, _, _, _, _, _, _, hB.set _ _ _, hs.dset hB _ _ _, ?_, dset_below (hbel.trans (hb.mono hbel.size)) (by omega) _ _ _⟩
  unfold DBox
  rw [dset_other (by omega)]
  exact hR
theorem DInv.later {w wr w1 : World} {f : D} (h : DInv w f wr) (hb : Below wr.heap.size wr w1) : DInv w f w1 := by
  obtain ⟨_, _, _, _, _, _, _, _, _, hB, hS, hR, hbel⟩ := h
  exact ⟨_, _, _, _, _, _, _, _, _, hB.later hb, hS.later hb, hR.later hb, hbel.trans (hb.mono hbel.size)⟩
theorem DInv.start (w : World) : DInv w zd ((w.alloc (.cells #[.slice none 0 0, .slice none 0 0, .slice none 0 0] 32)).alloc (.cells #[.slice none 0 0, .slice none 0 0, .slice none 0 0] 32)) := by
  have X0 := (DBox.made w (.slice none 0 0) (.slice none 0 0) (.slice none 0 0)).later (below_made _ (.cells #[.slice none 0 0, .slice none 0 0, .slice none 0 0] 32))
  have Y0 : DBox ((w.alloc (.cells #[.slice none 0 0, .slice none 0 0, .slice none 0 0] 32)).alloc (.cells #[.slice none 0 0, .slice none 0 0, .slice none 0 0] 32)) (w.heap.size + 1) (.slice none 0 0) (.slice none 0 0) (.slice none 0 0) := by
    simpa using DBox.made (w.alloc (.cells #[.slice none 0 0, .slice none 0 0, .slice none 0 0] 32)) (.slice none 0 0) (.slice none 0 0) (.slice none 0 0)
  exact ⟨_, _, _, _, _, _, _, _, _, Y0, SeesD.zero _, X0, (below_made w _).alloc (below_made w _).size _⟩

/-- A slice of bools, read as a list. -/
def SeesB (w : World) (v : Value) (l : List Bool) : Prop := SeesN w v l.length (l.map .bool)
theorem SeesB.later {w w' : World} {v : Value} {l : List Bool} (h : SeesB w v l) (hb : Below w.heap.size w w') : SeesB w' v l := SeesN.later h hb
theorem SeesB.cell {w : World} {a : Option Addr} {n cap : Nat} {l : List Bool} (h : SeesB w (.slice a n cap) l) {k : Nat} (hk : k < l.length) :
    ∃ g off, a = some ⟨g, off, none⟩ ∧ g < w.heap.size ∧ w.cell? ⟨g, off + k, none⟩ = some (.bool l[k]) := by
  obtain ⟨a', cap', e, _, h⟩ := h
  injection e with e1 e2 e3
  subst e1
  rcases h with h0 | ⟨g, off, rfl, hg, hc⟩
  · have := congrArg List.length h0
    simp at this; subst this; simp at hk
  · exact ⟨g, off, rfl, hg, hc k _ (by simp [hk])⟩

end Go.Proofs.YtaklilhnikmmfaaGreat
