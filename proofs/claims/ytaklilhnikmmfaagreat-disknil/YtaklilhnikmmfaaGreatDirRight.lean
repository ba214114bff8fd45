/-
  The walks of ordered, Right and Find.
-/
import Derived.Test.YtaklilhnikmmfaaGreatDirOrd
namespace Go.Proofs.YtaklilhnikmmfaaGreat
open Go.RowKit StrM DirM

theorem ordL_long {l : List E} (h : 100 < l.length) : ordL l = false := by unfold ordL; rw [decide_eq_false (by omega)]; rfl
theorem ordL_bad {l : List E} {k : Nat} (hk : k < l.length) (h : gd l k = false) : ordL l = false := by unfold ordL; rw [ordK_bad hk h]; exact Bool.and_false _
theorem ordL_good {l : List E} {k : Nat} (hk : k = l.length) (h100 : l.length ≤ 100) (h : ordK l k = true) : ordL l = true := by
  subst hk; unfold ordL; rw [h, decide_eq_true h100]; rfl

theorem gd_next {l : List E} {j k : Nat} (hk : k < l.length) (e : k = j + 1) : gd l k = (nameOk l[k].name && lt (l[j]'(by omega)).name l[k].name) := by subst e; exact gd_succ hk
theorem gd_none {l : List E} {k : Nat} (hk : k < l.length) (e : k = 0) : gd l k = nameOk l[k].name := by subst e; exact gd_zero hk

set_option maxHeartbeats 4000000 in
set_option maxRecDepth 100000 in
theorem ordered_any (v : Value) (l : List E) (w : World) (hs : SeesE w v l) :
    Calls Tryz.prog 90 #[v] w fun e w' => e = .returned (.bool (ordL l)) ∧ Below w.heap.size w w' := by
  obtain ⟨A, c, rfl, -⟩ := SeesN.form hs
  obtain ⟨n, hn⟩ : ∃ n, n = l.length := ⟨_, rfl⟩
  rw [← hn] at hs ⊢
  have HS := Lib.hid (fun W (hb : Below w.heap.size w W) => SeesE.later (l := l) hs hb)
  have HN := Lib.hid hn
  clear hs hn
  obtain ⟨r, hr⟩ : ∃ r, r = ordL l := ⟨_, rfl⟩
  rw [← hr]
  have HR := Lib.hid hr
  clear hr
  by_cases h100 : 100 < n
  · have h100' : (100 : Int) < (n : Int) := by omega
    have HX := Lib.hid (show false = r by rw [HR.out, ordL_long (by rw [← HN.out]; exact h100)])
    clear h100
    go_enter Tryz.func90, Tryz.ntmps90
    go_wp2_with fail
    go_ret
    exact ⟨ret_bool HX.out, Below.refl _ _⟩
  · have h100' : decide ((100 : Int) < (n : Int)) = false := by simp; omega
    have h1h : n ≤ 100 := by omega
    have h100'' : decide (100 < n) = false := by simp; omega
    clear h100
    go_enter Tryz.func90, Tryz.ntmps90
    go_wp2_with fail
    go_loopw [10] (fun i wr => ∃ k : Nat, k ≤ n ∧ i = .int .i64 (k : Int) ∧ Below w.heap.size w wr ∧ ordK l k = true) (fun i _ => n - (intOf i).toNat)
    case atStart => exact ⟨0, Nat.zero_le _, rfl, Below.refl _ _, ordK_zero l⟩
    case round =>
      obtain ⟨k, hk, rfl, hb, ho⟩ := hrel
      have HB := Lib.hid hb
      have HO := Lib.hid ho
      clear hb ho
      by_cases hlt : k < n
      · have k1 : k < l.length := by rw [← HN.out]; exact hlt
        have hlt' : (k : Int) < (n : Int) := by omega
        have UP := Lib.hid (show gd l k = true → ordK l (k + 1) = true from fun h => by rw [ordK_next HO.out]; exact h)
        have DN := Lib.hid (show gd l k = false → false = r from fun h => by rw [HR.out, ordL_bad k1 h])
        have SK := Lib.hid (HS.out _ HB.out)
        rcases Nat.eq_zero_or_pos k with hk0 | hpos
        · obtain ⟨g, off, rfl, hg, hc1, hc2⟩ := SK.out.cells k1
          have GD := Lib.hid (gd_none k1 hk0)
          generalize l[k] = x at *
          have pk' : decide ((0 : Int) < (k : Int)) = false := by simp; omega
          have pk : decide (0 < k) = false := by simp; omega
          clear hk0
          obtain ⟨xn, xm⟩ := x
          simp only at hc1 hc2 GD
          have NA := Lib.hid (fun w => dname_any xn w)
          have BM := Lib.hid (HB.out.alloc HB.out.size (.cells #[.string xn, .int .i64 xm] 67))
          cases hx : nameOk xn with
          | true =>
            rw [hx] at NA
            have HX := Lib.hid (UP.out (by rw [GD.out, hx]))
            clear UP DN GD hx
            go_wp2_with fail
            go_quiet ((go_at_call 106; with_reducible exact quiet_same (NA.out _)))
            go_wp2_with fail
            go_roundw
            case rel => exact ⟨k + 1, by omega, by go_num, BM.out.trans ((below_drewN _ _).mono BM.out.size), HX.out⟩
            case measure => simp [intOf]; omega
          | false =>
            rw [hx] at NA
            have HX := Lib.hid (DN.out (by rw [GD.out, hx]))
            clear UP DN GD hx
            go_wp2_with fail
            go_quiet ((go_at_call 106; with_reducible exact quiet_same (NA.out _)))
            go_wp2_with fail
            go_ret
            exact ⟨ret_bool HX.out, BM.out.trans ((below_drewN _ _).mono BM.out.size)⟩
        · obtain ⟨j, hkj⟩ : ∃ j, k = j + 1 := ⟨k - 1, by omega⟩
          obtain ⟨g, off, rfl, hg, hc1, hc2⟩ := SK.out.cells k1
          obtain ⟨g', off', he, hg', hd1, hd2⟩ := SK.out.cells (k := j) (by omega)
          injection he with he
          injection he with he1 he2 _
          subst he1 he2
          have GD := Lib.hid (gd_next k1 hkj)
          have e1 : (k : Int) - 1 = (j : Int) := by omega
          have pk : 0 < k := hpos
          have pk' : decide (0 < k) = true := by simp; omega
          have pk'' : (0 : Int) < (k : Int) := by omega
          have jn : j < n := by omega
          generalize l[k] = x at *
          generalize l[j]'(by omega) = y at *
          obtain ⟨xn, xm⟩ := x
          obtain ⟨yn, ym⟩ := y
          simp only at hc1 hc2 hd1 hd2 GD
          have NA := Lib.hid (fun w => dname_any xn w)
          have BM := Lib.hid (HB.out.alloc HB.out.size (.cells #[.string xn, .int .i64 xm] 67))
          have KJ := Lib.hid hkj
          clear hkj hpos
          cases hx : nameOk xn with
          | true =>
            rw [hx] at NA
            cases hl : lt yn xn with
            | true =>
              have HX := Lib.hid (UP.out (by rw [GD.out, hx, hl]; rfl))
              have d1 : Op.bytesLess yn.toList xn.toList = true := hl
              clear UP DN GD hx hl
              go_wp2_with fail
              go_quiet ((go_at_call 106; with_reducible exact quiet_same (NA.out _)))
              go_wp2_with fail
              go_roundw
              case rel => exact ⟨k + 1, by omega, by go_num, BM.out.trans ((below_drewN _ _).mono BM.out.size), HX.out⟩
              case measure => simp [intOf]; omega
            | false =>
              have HX := Lib.hid (DN.out (by rw [GD.out, hx, hl]; rfl))
              have d1 : Op.bytesLess yn.toList xn.toList = false := hl
              clear UP DN GD hx hl
              go_wp2_with fail
              go_quiet ((go_at_call 106; with_reducible exact quiet_same (NA.out _)))
              go_wp2_with fail
              go_ret
              exact ⟨ret_bool HX.out, BM.out.trans ((below_drewN _ _).mono BM.out.size)⟩
          | false =>
            rw [hx] at NA
            have HX := Lib.hid (DN.out (by rw [GD.out, hx]; rfl))
            clear UP DN GD hx
            go_wp2_with fail
            go_quiet ((go_at_call 106; with_reducible exact quiet_same (NA.out _)))
            go_wp2_with fail
            go_ret
            exact ⟨ret_bool HX.out, BM.out.trans ((below_drewN _ _).mono BM.out.size)⟩
      · have HX := Lib.hid (show true = r by rw [HR.out, ordL_good (k := k) (by rw [← HN.out]; omega) (by rw [← HN.out]; exact h1h) HO.out])
        go_wp2_with fail
        go_ret
        exact ⟨ret_bool HX.out, HB.out⟩
end Go.Proofs.YtaklilhnikmmfaaGreat
