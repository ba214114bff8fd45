/-
  The walks of the reference's All and Right.
-/
import Derived.Test.YtbpdlfcghlopmaaDirRefDone
namespace Go.Proofs.Ytbpdlfcghlopmaa
open Go.RowKit StrM DirM

theorem len_done {l : List E} {o : O} (h : err l o = 0) : (done l o).length ≤ max l.length 100 := by
  rcases err_kinds h with ⟨hk, _, _, h3⟩ | ⟨hk, h1, _⟩ | ⟨hk, _⟩
  · rw [done_link hk, len_wi]; omega
  · rw [done_move hk, len_wi]
    have a := len_wo_has h1
    have b := len_wo (wo l o.name) o.dst
    omega
  · rw [done_unlink hk]
    have := len_wo l o.name
    omega
theorem all_len : ∀ (os : List O) (l : List E), (all l os).1.length ≤ max l.length 100
  | [], l => by simp [all]; omega
  | o :: r, l => by
    unfold all
    split
    · next h =>
      have a := all_len r (done l o)
      have b := len_done h
      omega
    · simp

set_option maxHeartbeats 2000000 in
set_option maxRecDepth 100000 in
theorem rall_any (v u : Value) (l : List E) (os : List O) (w : World) (hs : SeesE w v l) (hu : SeesO w u os) (hl : l.length ≤ 1000) (hL : os.length ≤ 1000000) (hos : ∀ o ∈ os, OkO o) :
    Calls Try.prog 30 #[v, u] w fun e w' => ∃ v, e = .returned (.tuple #[v, .bool (decide ((all l os).2 = 0))]) ∧ SeesE w' v (all l os).1 ∧ Below w.heap.size w w' := by
  obtain ⟨A1, c1, rfl, hc1⟩ := SeesN.form hu
  obtain ⟨len, hn⟩ : ∃ len, len = os.length := ⟨_, rfl⟩
  have HU := Lib.hid (fun W (hb : Below w.heap.size w W) => hu.later hb)
  have H0 := Lib.hid hs
  have HN := Lib.hid hn
  have HOS := Lib.hid hos
  have HAL := Lib.hid (fun k => Nat.le_trans (all_len (os.take k) l) (show max l.length 100 ≤ 1000 by omega))
  rw [← hn] at HU hL ⊢
  obtain ⟨B, d, rfl, -⟩ := SeesN.form hs
  generalize l.length = n at *
  clear hs hu hn hc1 hos hl
  obtain ⟨re, hre⟩ : ∃ re, re = all l os := ⟨_, rfl⟩
  rw [← hre]
  have RE := Lib.hid hre
  clear hre
  go_enter Try.func30, Try.ntmps30
  go_wp2_with fail
  go_loopw [0, 6] (fun x i wr => ∃ (k : Nat) (cur : List E), k ≤ len ∧ i = .int .i64 (k : Int) ∧ all l (os.take k) = (cur, 0) ∧ SeesE wr x cur ∧ Below w.heap.size w wr) (fun _ i _ => len - (intOf i).toNat)
  case atStart => exact ⟨0, l, Nat.zero_le _, rfl, rfl, H0.out, Below.refl _ _⟩
  case round =>
    clear H0
    obtain ⟨k, cur, hk, rfl, hall, hx, hb⟩ := hrel
    have HA := Lib.hid hall
    have HX := Lib.hid hx
    have HB := Lib.hid hb
    have CL := Lib.hid (show cur.length ≤ 100000 by have h := HAL.out k; rw [hall] at h; simp only at h; omega)
    obtain ⟨B', d', hx', -⟩ := SeesN.form hx
    subst hx'
    clear hall hx hb
    by_cases hlt : k < len
    · have hkl : k < os.length := by rw [← HN.out]; exact hlt
      have hlt' : (k : Int) < (len : Int) := by omega
      obtain ⟨g, off, rfl, hg, c0, c1', c2, c3⟩ := (HU.out _ HB.out).cells hkl
      have NX := Lib.hid (all_next hkl HA.out)
      have ST := Lib.hid (all_stop hkl HA.out)
      have DO := Lib.hid (rdone_any _ cur os[k] wr HX.out CL.out (HOS.out _ (List.getElem_mem hkl)))
      unfold RDPost at DO
      generalize os[k] = o at *
      generalize cur.length = m at *
      obtain ⟨er, her⟩ : ∃ er, er = err cur o := ⟨_, rfl⟩
      rw [← her] at NX ST DO
      obtain ⟨res, hres⟩ : ∃ res, res = if er = 0 then done cur o else [] := ⟨_, rfl⟩
      rw [← hres] at DO
      have RO := Lib.hid (fun h : er = 0 => show res = done cur o by rw [hres, if_pos h])
      obtain ⟨kd, nm, ds, nd⟩ := o
      simp only at c0 c1' c2 c3 DO
      clear her hres
      go_wp2_with fail
      refine DO.out.mono ?_
      rintro e w1 ⟨v1, rfl, s1, hb1⟩
      have S1 := Lib.hid s1
      have B1 := Lib.hid (HB.out.trans (hb1.mono HB.out.size))
      clear s1 hb1 DO
      by_cases h0 : er = 0
      · have HX2 := Lib.hid (NX.out h0)
        have S2 := Lib.hid (show SeesE w1 v1 (done cur ⟨kd, nm, ds, nd⟩) by rw [← RO.out h0]; exact S1.out)
        subst h0
        clear NX ST RO
        go_wp2_with fail
        go_roundw
        case rel => exact ⟨k + 1, _, by omega, by go_num, HX2.out, S2.out, B1.out⟩
        case measure => simp [intOf]; omega
      · have HX2 := Lib.hid (show re = ([], er) by rw [RE.out, ST.out h0])
        have h0' : (er == 0) = false := by simpa using h0
        have HD := Lib.hid (show false = decide (re.2 = 0) by rw [HX2.out]; simpa using h0)
        clear NX ST RO h0
        go_wp2_with fail
        go_ret2
        exact ⟨_, by rw [← HD.out]; rfl, by rw [HX2.out]; exact seesE_nil _, B1.out⟩
    · have HX2 := Lib.hid (show re = (cur, 0) by
        have h := HA.out
        rw [List.take_of_length_le (by rw [← HN.out]; omega)] at h
        rw [RE.out, h])
      have HD := Lib.hid (show true = decide (re.2 = 0) by rw [HX2.out]; rfl)
      go_wp2_with fail
      go_ret2
      exact ⟨_, by rw [← HD.out]; rfl, by rw [HX2.out]; exact HX.out, HB.out⟩

/-- Sizes that the reference bears. -/
structure Sz (d : D) : Prop where
  sure : d.sure.length ≤ 1000
  pend : d.pend.length ≤ 1000000
  names : ∀ x ∈ d.sure, x.name.size ≤ maxLen
  ops : ∀ o ∈ d.pend, OkO o

set_option maxHeartbeats 8000000 in
set_option maxRecDepth 100000 in
theorem rdright_any (v : Value) (d : D) (w : World) (hs : SeesD w v d) (hz : Sz d) :
    Calls Try.prog 14 #[v] w fun e w' => e = .returned (.bool (valid d)) ∧ Below w.heap.size w w' := by
  obtain ⟨A0, c0, A1, c1, A2, c2, rfl, h0, h1, h2⟩ := hs.slices
  have S0 := Lib.hid (fun W (hb : Below w.heap.size w W) => h0.later hb)
  have S1 := Lib.hid (fun W (hb : Below w.heap.size w W) => h1.later hb)
  have AL := Lib.hid (fun W (hb : Below w.heap.size w W) => rall_any _ _ d.sure d.pend W (h1.later hb) (h2.later hb) hz.sure hz.pend hz.ops)
  have RN := Lib.hid (fun (k : Nat) (hk : k < d.sure.length) W => rname_any d.sure[k].name W (hz.names _ (List.getElem_mem hk)))
  have AN := Lib.hid (show (all d.sure d.pend).1.length ≤ 1000000 by have := all_len d.pend d.sure; have := hz.sure; omega)
  obtain ⟨n0, e0⟩ : ∃ n, n = d.now.length := ⟨_, rfl⟩
  obtain ⟨n, e1⟩ : ∃ n, n = d.sure.length := ⟨_, rfl⟩
  rw [← e0] at S0 ⊢
  rw [← e1] at S1 AL ⊢
  generalize d.pend.length = n2 at *
  have HN := Lib.hid e1
  have HNZ := Lib.hid (show n ≤ 1000 by rw [e1]; exact hz.sure)
  have B0 := Lib.hid (below_made w (.cells #[.slice A0 n0 c0, .slice A1 n c1, .slice A2 n2 c2] 25))
  have X0 := Lib.hid (DBox.made w (.slice A0 n0 c0) (.slice A1 n c1) (.slice A2 n2 c2))
  clear hs h0 h1 h2 e0 e1 hz
  obtain ⟨r, hr⟩ : ∃ r, r = valid d := ⟨_, rfl⟩
  rw [← hr]
  have VU := Lib.hid (fun h => valid_unord (d := d) h)
  have VE := Lib.hid (fun h => valid_err (d := d) h)
  have VO := Lib.hid (fun h1 h2 => valid_eq (d := d) h1 h2)
  rw [← hr] at VU VE VO
  clear hr
  generalize all d.sure d.pend = al at *
  generalize d.now = nw at *
  generalize d.sure = sr at *
  go_enter Try.func14, Try.ntmps14
  go_wp2_with fail
  go_loopw [3] (fun i wr => ∃ k : Nat, k ≤ n ∧ i = .int .i64 (k : Int) ∧ Below w.heap.size w wr ∧ DBox wr w.heap.size (.slice A0 n0 c0) (.slice A1 n c1) (.slice A2 n2 c2) ∧ ordK sr k = true) (fun i _ => n - (intOf i).toNat)
  case atStart => exact ⟨0, Nat.zero_le _, rfl, B0.out, X0.out, ordK_zero _⟩
  case round =>
    clear B0 X0
    obtain ⟨k, hk, rfl, hb, hx, ho⟩ := hrel
    have HO := Lib.hid ho
    have HB := Lib.hid hb
    have XM := Lib.hid hx
    obtain ⟨x0, x1, x2⟩ := XM.out.cells
    clear ho hb hx
    by_cases hlt : k < n
    · have k1 : k < sr.length := by rw [← HN.out]; exact hlt
      have hlt' : (k : Int) < (n : Int) := by omega
      have hkb : k ≤ 1000 := by have := HNZ.out; omega
      have hnb : n ≤ 1000 := HNZ.out
      have UP := Lib.hid (show gd sr k = true → ordK sr (k + 1) = true from fun h => by rw [ordK_next HO.out]; exact h)
      have DN := Lib.hid (show gd sr k = false → false = r from fun h => by rw [VU.out (ordL_bad k1 h)])
      have SK := Lib.hid (S1.out _ HB.out)
      have NA := Lib.hid (RN.out k k1)
      have DD := Lib.hid (fun q => HB.out.trans ((below_drewN wr q).mono HB.out.size))
      have DX := Lib.hid (fun q => XM.out.later (below_drewN wr q))
      rcases Nat.eq_zero_or_pos k with hk0 | hpos
      · obtain ⟨g, off, rfl, hg, hc1, hc2⟩ := SK.out.cells k1
        have GD := Lib.hid (gd_none k1 hk0)
        have pk' : decide ((0 : Int) < (k : Int)) = false := by simp; omega
        have pk : decide (0 < k) = false := by simp; omega
        generalize sr[k] = x at *
        clear hk0
        obtain ⟨xn, xm⟩ := x
        simp only at hc1 hc2 GD NA
        cases hx : nameOk xn with
        | true =>
          rw [hx] at NA
          have HX := Lib.hid (UP.out (by rw [GD.out, hx]))
          clear UP DN GD hx
          go_wp2_with fail
          go_quiet ((go_at_call 12; with_reducible exact quiet_same (NA.out _)))
          go_wp2_with fail
          go_roundw
          case rel => exact ⟨k + 1, by omega, by go_num, DD.out _, DX.out _, HX.out⟩
          case measure => simp [intOf]; omega
        | false =>
          rw [hx] at NA
          have HX := Lib.hid (DN.out (by rw [GD.out, hx]))
          clear UP DN GD hx
          go_wp2_with fail
          go_quiet ((go_at_call 12; with_reducible exact quiet_same (NA.out _)))
          go_wp2_with fail
          go_ret
          exact ⟨ret_bool HX.out, DD.out _⟩
      · obtain ⟨j, hkj⟩ : ∃ j, k = j + 1 := ⟨k - 1, by omega⟩
        obtain ⟨g, off, rfl, hg, hc1, hc2⟩ := SK.out.cells k1
        obtain ⟨g', off', he, hg', hd1, hd2⟩ := SK.out.cells (k := j) (by omega)
        injection he with he
        injection he with he1 he2 _
        subst he1 he2
        have GD := Lib.hid (gd_next k1 hkj)
        have e1 : (k : Int) - 1 = (j : Int) := by omega
        have pk : 0 < k := hpos
        have pk' : decide (0 < k) = true := by simp; omega
        have pk'' : (0 : Int) < (k : Int) := by omega
        have jn : j < n := by omega
        generalize sr[k] = x at *
        generalize sr[j]'(by omega) = y at *
        obtain ⟨xn, xm⟩ := x
        obtain ⟨yn, ym⟩ := y
        simp only at hc1 hc2 hd1 hd2 GD NA
        clear hkj hpos
        cases hx : nameOk xn with
        | true =>
          rw [hx] at NA
          cases hl : lt yn xn with
          | true =>
            have HX := Lib.hid (UP.out (by rw [GD.out, hx, hl]; rfl))
            have d1 : Op.bytesLess yn.toList xn.toList = true := hl
            clear UP DN GD hx hl
            go_wp2_with fail
            go_quiet ((go_at_call 12; with_reducible exact quiet_same (NA.out _)))
            go_wp2_with fail
            go_roundw
            case rel => exact ⟨k + 1, by omega, by go_num, DD.out _, DX.out _, HX.out⟩
            case measure => simp [intOf]; omega
          | false =>
            have HX := Lib.hid (DN.out (by rw [GD.out, hx, hl]; rfl))
            have d1 : Op.bytesLess yn.toList xn.toList = false := hl
            clear UP DN GD hx hl
            go_wp2_with fail
            go_quiet ((go_at_call 12; with_reducible exact quiet_same (NA.out _)))
            go_wp2_with fail
            go_ret
            exact ⟨ret_bool HX.out, DD.out _⟩
        | false =>
          rw [hx] at NA
          have HX := Lib.hid (DN.out (by rw [GD.out, hx]; rfl))
          clear UP DN GD hx
          go_wp2_with fail
          go_quiet ((go_at_call 12; with_reducible exact quiet_same (NA.out _)))
          go_wp2_with fail
          go_ret
          exact ⟨ret_bool HX.out, DD.out _⟩
    · by_cases h100 : 100 < n
      · have h100' : (100 : Int) < (n : Int) := by omega
        have HX := Lib.hid (show false = r by rw [VU.out (ordL_long (by rw [← HN.out]; exact h100))])
        clear h100 VU VE VO
        go_wp2_with fail
        go_ret
        exact ⟨ret_bool HX.out, HB.out⟩
      · have h100' : decide ((100 : Int) < (n : Int)) = false := by simp; omega
        have h100'' : decide (100 < n) = false := by simp; omega
        have HG := Lib.hid (ordL_good (l := sr) (k := k) (by rw [← HN.out]; omega) (by rw [← HN.out]; omega) HO.out)
        have VO2 := Lib.hid (VO.out HG.out)
        have AX := Lib.hid (AL.out _ HB.out)
        clear h100 VU VO
        by_cases ha : al.2 = 0
        · have HX := Lib.hid (VO2.out ha)
          rw [decide_eq_true ha] at AX
          clear VE VO2 ha
          go_wp2_with fail
          refine AX.out.mono ?_
          rintro e w1 ⟨v1, rfl, s1, hb1⟩
          have B1 := Lib.hid (HB.out.trans (hb1.mono HB.out.size))
          have X1 := Lib.hid (XM.out.later hb1)
          have EN := Lib.hid (rentries_any v1 _ al.1 nw w1 s1 (S0.out _ B1.out) AN.out)
          rw [← HX.out] at EN
          clear s1 hb1 x0 x1 x2
          obtain ⟨x0, x1, x2⟩ := X1.out.cells
          go_wp2_with fail
          refine EN.out.mono ?_
          rintro e w2 ⟨rfl, hb2⟩
          have B2 := Lib.hid (B1.out.trans (hb2.mono B1.out.size))
          clear hb2
          go_wp2_with fail
          go_ret
          exact ⟨rfl, B2.out⟩
        · have HX := Lib.hid (show false = r from (VE.out ha).symm)
          rw [decide_eq_false ha] at AX
          clear VE VO2 ha
          go_wp2_with fail
          refine AX.out.mono ?_
          rintro e w1 ⟨v1, rfl, s1, hb1⟩
          have B1 := Lib.hid (HB.out.trans (hb1.mono HB.out.size))
          clear s1 hb1
          go_wp2_with fail
          go_ret
          exact ⟨ret_bool HX.out, B1.out⟩
end Go.Proofs.Ytbpdlfcghlopmaa
