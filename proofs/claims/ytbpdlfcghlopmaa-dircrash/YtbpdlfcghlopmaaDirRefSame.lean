/-
  The walks of the reference's Same and Few.
-/
import Derived.Test.YtbpdlfcghlopmaaDirRefAct
namespace Go.Proofs.Ytbpdlfcghlopmaa
open Go.RowKit StrM DirM

set_option maxHeartbeats 4000000 in
set_option maxRecDepth 100000 in
theorem rdsame_any (v1 v2 : Value) (d : D) (w : World) (hs1 : SeesD w v1 d) (hs2 : SeesD w v2 d) (m0 : d.now.length ≤ 1000000) (m1 : d.sure.length ≤ 1000000) (m2 : d.pend.length ≤ 1000000) :
    Calls Try.prog 15 #[v1, v2] w fun e w' => e = .returned (.bool true) ∧ Below w.heap.size w w' := by
  obtain ⟨A0, c0, A1, c1, A2, c2, rfl, a0, a1, a2⟩ := hs1.slices
  obtain ⟨B0, d0, B1, d1, B2, d2, rfl, b0, b1, b2⟩ := hs2.slices
  have EN := Lib.hid (fun W (hb : Below w.heap.size w W) => by have h := rentries_any _ _ d.now d.now W (a0.later hb) (b0.later hb) m0; rw [decide_eq_true rfl] at h; exact h)
  have ES := Lib.hid (fun W (hb : Below w.heap.size w W) => by have h := rentries_any _ _ d.sure d.sure W (a1.later hb) (b1.later hb) m1; rw [decide_eq_true rfl] at h; exact h)
  have SA := Lib.hid (fun W (hb : Below w.heap.size w W) => a2.later hb)
  have SB := Lib.hid (fun W (hb : Below w.heap.size w W) => b2.later hb)
  generalize d.now.length = n0 at *
  generalize d.sure.length = n1 at *
  obtain ⟨n2, hn2⟩ : ∃ n, n = d.pend.length := ⟨_, rfl⟩
  rw [← hn2] at SA SB m2 ⊢
  have HN := Lib.hid hn2
  have X0 := Lib.hid ((DBox.made w (.slice A0 n0 c0) (.slice A1 n1 c1) (.slice A2 n2 c2)).later (below_made _ (.cells #[.slice B0 n0 d0, .slice B1 n1 d1, .slice B2 n2 d2] 25)))
  have Y0 := Lib.hid (show DBox _ (w.heap.size + 1) _ _ _ by simpa using DBox.made (w.alloc (.cells #[.slice A0 n0 c0, .slice A1 n1 c1, .slice A2 n2 c2] 25)) (.slice B0 n0 d0) (.slice B1 n1 d1) (.slice B2 n2 d2))
  have BW := Lib.hid ((below_made w (.cells #[.slice A0 n0 c0, .slice A1 n1 c1, .slice A2 n2 c2] 25)).alloc (below_made w _).size (.cells #[.slice B0 n0 d0, .slice B1 n1 d1, .slice B2 n2 d2] 25))
  clear hs1 hs2 a0 a1 a2 b0 b1 b2 hn2 m0 m1
  go_enter Try.func15, Try.ntmps15
  go_wp2_with fail
  go_loopw [5] (fun i wr => ∃ k : Nat, k ≤ n2 ∧ i = .int .i64 (k : Int) ∧ Below w.heap.size w wr ∧ DBox wr w.heap.size (.slice A0 n0 c0) (.slice A1 n1 c1) (.slice A2 n2 c2) ∧ DBox wr (w.heap.size + 1) (.slice B0 n0 d0) (.slice B1 n1 d1) (.slice B2 n2 d2)) (fun i _ => n2 - (intOf i).toNat)
  case atStart => exact ⟨0, Nat.zero_le _, rfl, BW.out, X0.out, Y0.out⟩
  case round =>
    clear BW X0 Y0
    obtain ⟨k, hk, rfl, hb, hx, hy⟩ := hrel
    have HB := Lib.hid hb
    have XM := Lib.hid hx
    have YM := Lib.hid hy
    obtain ⟨x0, x1, x2⟩ := XM.out.cells
    obtain ⟨y0, y1, y2⟩ := YM.out.cells
    clear hb hx hy
    by_cases hlt : k < n2
    · have k1 : k < d.pend.length := by rw [← HN.out]; exact hlt
      have hlt' : (k : Int) < (n2 : Int) := by omega
      obtain ⟨g, off, rfl, hg, p0, p1, p2, p3⟩ := (SA.out _ HB.out).cells k1
      obtain ⟨g', off', rfl, hg', q0, q1, q2, q3⟩ := (SB.out _ HB.out).cells k1
      have DD := Lib.hid (fun q => HB.out.trans ((below_drewN wr q).mono HB.out.size))
      have DX := Lib.hid (fun q => XM.out.later (below_drewN wr q))
      have DY := Lib.hid (fun q => YM.out.later (below_drewN wr q))
      generalize d.pend[k] = o at *
      obtain ⟨kd, nm, ds, nd⟩ := o
      simp only at p0 p1 p2 p3 q0 q1 q2 q3
      go_wp2_with fail
      go_quiet (fail)
      go_wp2_with fail
      go_roundw
      case rel => exact ⟨k + 1, by omega, by go_num, DD.out _, DX.out _, DY.out _⟩
      case measure => simp [intOf]; omega
    · go_wp2_with fail
      refine (EN.out _ HB.out).mono ?_
      rintro e w1 ⟨rfl, hb1⟩
      have B1' := Lib.hid (HB.out.trans (hb1.mono HB.out.size))
      have X1 := Lib.hid (XM.out.later hb1)
      have Y1 := Lib.hid (YM.out.later hb1)
      clear x0 x1 x2 y0 y1 y2 hb1
      obtain ⟨x0, x1, x2⟩ := X1.out.cells
      obtain ⟨y0, y1, y2⟩ := Y1.out.cells
      go_wp2_with fail
      refine (ES.out _ B1'.out).mono ?_
      rintro e w2 ⟨rfl, hb2⟩
      have B2' := Lib.hid (B1'.out.trans (hb2.mono B1'.out.size))
      clear hb2
      go_wp2_with fail
      go_ret
      exact ⟨rfl, B2'.out⟩

set_option maxHeartbeats 4000000 in
set_option maxRecDepth 100000 in
theorem dfew_any (v : Value) (d : D) (w : World) (hs : SeesD w v d) :
    Calls Try.prog 5 #[v] w fun e w' => (∃ b, e = .returned (.bool b) ∧ (b = true → d.now.length ≤ 110 ∧ d.sure.length ≤ 110 ∧ d.pend.length ≤ 40)) ∧ Below w.heap.size w w' := by
  obtain ⟨A0, c0, A1, c1, A2, c2, rfl, a0, a1, a2⟩ := hs.slices
  have SA := Lib.hid (fun W (hb : Below w.heap.size w W) => a1.later hb)
  generalize d.now.length = n0 at *
  obtain ⟨n1, hn1⟩ : ∃ n, n = d.sure.length := ⟨_, rfl⟩
  rw [← hn1] at SA ⊢
  have HN := Lib.hid hn1
  generalize d.pend.length = n2 at *
  have X0 := Lib.hid (DBox.made w (.slice A0 n0 c0) (.slice A1 n1 c1) (.slice A2 n2 c2))
  have BW := Lib.hid (below_made w (.cells #[.slice A0 n0 c0, .slice A1 n1 c1, .slice A2 n2 c2] 25))
  clear hs a0 a1 a2 hn1
  by_cases h0 : 110 < n0
  · have h0' : (110 : Int) < (n0 : Int) := by omega
    go_enter Try.func5, Try.ntmps5
    go_wp2_with fail
    go_ret
    exact ⟨⟨_, rfl, fun h => by cases h⟩, BW.out⟩
  · have h0' : decide ((110 : Int) < (n0 : Int)) = false := by simp; omega
    have h0'' : decide (110 < n0) = false := by simp; omega
    by_cases h1 : 110 < n1
    · have h1' : (110 : Int) < (n1 : Int) := by omega
      clear h0
      go_enter Try.func5, Try.ntmps5
      go_wp2_with fail
      go_ret
      exact ⟨⟨_, rfl, fun h => by cases h⟩, BW.out⟩
    · have h1' : decide ((110 : Int) < (n1 : Int)) = false := by simp; omega
      have h1'' : decide (110 < n1) = false := by simp; omega
      by_cases h2 : 40 < n2
      · have h2' : (40 : Int) < (n2 : Int) := by omega
        clear h0 h1
        go_enter Try.func5, Try.ntmps5
        go_wp2_with fail
        go_ret
        exact ⟨⟨_, rfl, fun h => by cases h⟩, BW.out⟩
      · have h2' : decide ((40 : Int) < (n2 : Int)) = false := by simp; omega
        have h2'' : decide (40 < n2) = false := by simp; omega
        have HA := Lib.hid (show n0 ≤ 110 ∧ n1 ≤ 110 ∧ n2 ≤ 40 by omega)
        have hn : n1 ≤ 110 := by omega
        clear h0 h1 h2
        go_enter Try.func5, Try.ntmps5
        go_wp2_with fail
        go_loopw [3] (fun i wr => ∃ k : Nat, k ≤ n1 ∧ i = .int .i64 (k : Int) ∧ Below w.heap.size w wr ∧ DBox wr w.heap.size (.slice A0 n0 c0) (.slice A1 n1 c1) (.slice A2 n2 c2)) (fun i _ => n1 - (intOf i).toNat)
        case atStart => exact ⟨0, Nat.zero_le _, rfl, BW.out, X0.out⟩
        case round =>
          clear BW X0
          obtain ⟨k, hk, rfl, hb, hx⟩ := hrel
          have HB := Lib.hid hb
          have XM := Lib.hid hx
          obtain ⟨x0, x1, x2⟩ := XM.out.cells
          clear hb hx
          by_cases hlt : k < n1
          · have k1 : k < d.sure.length := by rw [← HN.out]; exact hlt
            have hlt' : (k : Int) < (n1 : Int) := by omega
            obtain ⟨g, off, rfl, hg, hc1, hc2⟩ := (SA.out _ HB.out).cells k1
            generalize d.sure[k] = x at *
            obtain ⟨xn, xm⟩ := x
            simp only at hc1 hc2
            by_cases hl : 100 < xn.size
            · have hl' : (100 : Int) < (xn.size : Int) := by omega
              clear hl
              go_wp2_with fail
              go_ret
              exact ⟨⟨_, rfl, fun h => by cases h⟩, HB.out⟩
            · have hl' : decide ((100 : Int) < (xn.size : Int)) = false := by simp; omega
              have hl'' : decide (100 < xn.size) = false := by simp; omega
              clear hl
              go_wp2_with fail
              go_roundw
              case rel => exact ⟨k + 1, by omega, by go_num, HB.out, XM.out⟩
              case measure => simp [intOf]; omega
          · go_wp2_with fail
            go_ret
            exact ⟨⟨_, rfl, fun _ => HA.out⟩, HB.out⟩
end Go.Proofs.Ytbpdlfcghlopmaa
