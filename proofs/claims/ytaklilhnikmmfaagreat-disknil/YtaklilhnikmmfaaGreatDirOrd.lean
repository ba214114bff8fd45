/-
  The walks of slices.Equal over entries, of ordered, Right and Find, and of the reference's Entries.
-/
import Derived.Test.YtaklilhnikmmfaaGreatDirDir
import Derived.BigQuiet
namespace Go.Proofs.YtaklilhnikmmfaaGreat
open Go.RowKit StrM DirM

theorem take_all {α : Type} {l1 l2 : List α} {k : Nat} (hk : k = l1.length) (hl : l1.length = l2.length) (h : l1.take k = l2.take k) : l1 = l2 := by
  rw [List.take_of_length_le (by omega), List.take_of_length_le (by omega)] at h
  exact h
theorem take_next {α : Type} {l1 l2 : List α} {k : Nat} (h1 : k < l1.length) (h2 : k < l2.length) (h : l1.take k = l2.take k) (e : l1[k] = l2[k]) : l1.take (k + 1) = l2.take (k + 1) := by
  rw [List.take_succ_eq_append_getElem h1, List.take_succ_eq_append_getElem h2, h, e]
theorem below_drewNN (w : World) (m k : Nat) : Below w.heap.size w ((w.drewN m).drewN k) := (below_drewN w m).trans ((below_drewN (w.drewN m) k).mono (below_drewN w m).size)
theorem ne_at {α : Type} {l1 l2 : List α} {k : Nat} (h1 : k < l1.length) (h2 : k < l2.length) (e : l1[k] ≠ l2[k]) : l1 ≠ l2 := by
  rintro rfl; exact e rfl

set_option maxHeartbeats 2000000 in
set_option maxRecDepth 100000 in
theorem sequal_any (v1 v2 : Value) (l1 l2 : List E) (w : World) (h1 : SeesE w v1 l1) (h2 : SeesE w v2 l2) (hn : l1.length ≤ 1000000) :
    Calls Tryz.prog 91 #[v1, v2] w fun e w' => e = .returned (.bool (decide (l1 = l2))) ∧ Below w.heap.size w w' := by
  obtain ⟨A1, c1, rfl, -⟩ := SeesN.form h1
  obtain ⟨A2, c2, rfl, -⟩ := SeesN.form h2
  obtain ⟨n, hnn⟩ : ∃ n, n = l1.length := ⟨_, rfl⟩
  obtain ⟨m, hmm⟩ : ∃ n, n = l2.length := ⟨_, rfl⟩
  rw [← hnn] at h1 hn ⊢
  rw [← hmm] at h2 ⊢
  have G1 := Lib.hid h1
  have G2 := Lib.hid h2
  have HN := Lib.hid hnn
  have HM := Lib.hid hmm
  clear h1 h2 hnn hmm
  obtain ⟨r, hr⟩ : ∃ r, r = decide (l1 = l2) := ⟨_, rfl⟩
  rw [← hr]
  have HR := Lib.hid hr
  clear hr
  by_cases hnm : n = m
  · subst hnm
    go_enter Tryz.func91, Tryz.ntmps91
    go_wp2_with fail
    go_loopw [13] (fun i wr => ∃ k m : Nat, k ≤ n ∧ i = .int .i64 (k : Int) ∧ wr = w.drewN m ∧ l1.take k = l2.take k) (fun i _ => n - (intOf i).toNat)
    case atStart => exact ⟨0, 0, Nat.zero_le _, rfl, rfl, rfl⟩
    case round =>
      obtain ⟨k, m, hk, rfl, rfl, ht⟩ := hrel
      have HT := Lib.hid ht
      clear ht
      by_cases hlt : k < n
      · have k1 : k < l1.length := by rw [← HN.out]; exact hlt
        have k2 : k < l2.length := by rw [← HM.out]; exact hlt
        obtain ⟨g, off, rfl, hg, hc1, hc2⟩ := G1.out.cells k1
        obtain ⟨g', off', rfl, hg', hd1, hd2⟩ := G2.out.cells k2
        have UP := Lib.hid (take_next k1 k2 HT.out)
        have NE := Lib.hid (ne_at k1 k2)
        generalize l1[k] = x at *
        generalize l2[k] = y at *
        obtain ⟨xn, xm⟩ := x
        obtain ⟨yn, ym⟩ := y
        simp only at hc1 hc2 hd1 hd2
        have hlt' : (k : Int) < (n : Int) := by omega
        by_cases e1 : xn = yn
        · subst e1
          by_cases e2 : xm = ym
          · subst e2
            have HX := Lib.hid (UP.out rfl)
            clear UP NE
            go_wp2_with fail
            go_quiet (fail)
            go_wp2_with fail
            go_roundw
            case rel => exact ⟨k + 1, _, by omega, by go_num, rfl, HX.out⟩
            case measure => simp [intOf]; omega
          · have HX := Lib.hid (show false = r by rw [HR.out, decide_eq_false (NE.out (by simp [e2]))])
            have d2 : (xm == ym) = false := by simpa using e2
            clear UP NE
            go_wp2_with fail
            go_quiet (fail)
            go_wp2_with fail
            go_ret
            exact ⟨ret_bool HX.out, below_drewNN _ _ _⟩
        · have HX := Lib.hid (show false = r by rw [HR.out, decide_eq_false (NE.out (by simp [e1]))])
          have d1 := name_ne e1
          clear UP NE
          go_wp2_with fail
          go_quiet (fail)
          go_wp2_with fail
          go_ret
          exact ⟨ret_bool HX.out, below_drewNN _ _ _⟩
      · have HX := Lib.hid (show true = r by rw [HR.out, decide_eq_true (take_all (k := k) (by rw [← HN.out]; omega) (by rw [← HN.out, ← HM.out]) HT.out)])
        go_wp2_with fail
        go_ret
        exact ⟨ret_bool HX.out, below_drewN _ _⟩
  · have HX := Lib.hid (show false = r by rw [HR.out, decide_eq_false (by rintro rfl; exact hnm (by rw [HN.out, HM.out]))])
    have d1 : ((n : Int) == (m : Int)) = false := by simp; omega
    go_enter Tryz.func91, Tryz.ntmps91
    go_wp2_with fail
    go_ret
    exact ⟨ret_bool HX.out, Below.refl _ _⟩

set_option maxHeartbeats 2000000 in
set_option maxRecDepth 100000 in
theorem rentries_any (v1 v2 : Value) (l1 l2 : List E) (w : World) (h1 : SeesE w v1 l1) (h2 : SeesE w v2 l2) (hn : l1.length ≤ 1000000) :
    Calls Tryz.prog 102 #[v1, v2] w fun e w' => e = .returned (.bool (decide (l1 = l2))) ∧ Below w.heap.size w w' := by
  obtain ⟨A1, c1, rfl, -⟩ := SeesN.form h1
  obtain ⟨A2, c2, rfl, -⟩ := SeesN.form h2
  obtain ⟨n, hnn⟩ : ∃ n, n = l1.length := ⟨_, rfl⟩
  obtain ⟨m, hmm⟩ : ∃ n, n = l2.length := ⟨_, rfl⟩
  rw [← hnn] at h1 hn ⊢
  rw [← hmm] at h2 ⊢
  have G1 := Lib.hid h1
  have G2 := Lib.hid h2
  have HN := Lib.hid hnn
  have HM := Lib.hid hmm
  clear h1 h2 hnn hmm
  obtain ⟨r, hr⟩ : ∃ r, r = decide (l1 = l2) := ⟨_, rfl⟩
  rw [← hr]
  have HR := Lib.hid hr
  clear hr
  by_cases hnm : n = m
  · subst hnm
    go_enter Tryz.func102, Tryz.ntmps102
    go_wp2_with fail
    go_loopw [5] (fun i wr => ∃ k m : Nat, k ≤ n ∧ i = .int .i64 (k : Int) ∧ wr = w.drewN m ∧ l1.take k = l2.take k) (fun i _ => n - (intOf i).toNat)
    case atStart => exact ⟨0, 0, Nat.zero_le _, rfl, rfl, rfl⟩
    case round =>
      obtain ⟨k, m, hk, rfl, rfl, ht⟩ := hrel
      have HT := Lib.hid ht
      clear ht
      by_cases hlt : k < n
      · have k1 : k < l1.length := by rw [← HN.out]; exact hlt
        have k2 : k < l2.length := by rw [← HM.out]; exact hlt
        obtain ⟨g, off, rfl, hg, hc1, hc2⟩ := G1.out.cells k1
        obtain ⟨g', off', rfl, hg', hd1, hd2⟩ := G2.out.cells k2
        have UP := Lib.hid (take_next k1 k2 HT.out)
        have NE := Lib.hid (ne_at k1 k2)
        generalize l1[k] = x at *
        generalize l2[k] = y at *
        obtain ⟨xn, xm⟩ := x
        obtain ⟨yn, ym⟩ := y
        simp only at hc1 hc2 hd1 hd2
        have hlt' : (k : Int) < (n : Int) := by omega
        by_cases e1 : xn = yn
        · subst e1
          by_cases e2 : xm = ym
          · subst e2
            have HX := Lib.hid (UP.out rfl)
            clear UP NE
            go_wp2_with fail
            go_quiet (fail)
            go_wp2_with fail
            go_roundw
            case rel => exact ⟨k + 1, _, by omega, by go_num, rfl, HX.out⟩
            case measure => simp [intOf]; omega
          · have HX := Lib.hid (show false = r by rw [HR.out, decide_eq_false (NE.out (by simp [e2]))])
            have d2 : (xm == ym) = false := by simpa using e2
            clear UP NE
            go_wp2_with fail
            go_quiet (fail)
            go_wp2_with fail
            go_ret
            exact ⟨ret_bool HX.out, below_drewNN _ _ _⟩
        · have HX := Lib.hid (show false = r by rw [HR.out, decide_eq_false (NE.out (by simp [e1]))])
          have d1 := name_ne e1
          clear UP NE
          go_wp2_with fail
          go_quiet (fail)
          go_wp2_with fail
          go_ret
          exact ⟨ret_bool HX.out, below_drewNN _ _ _⟩
      · have HX := Lib.hid (show true = r by rw [HR.out, decide_eq_true (take_all (k := k) (by rw [← HN.out]; omega) (by rw [← HN.out, ← HM.out]) HT.out)])
        go_wp2_with fail
        go_ret
        exact ⟨ret_bool HX.out, below_drewN _ _⟩
  · have HX := Lib.hid (show false = r by rw [HR.out, decide_eq_false (by rintro rfl; exact hnm (by rw [HN.out, HM.out]))])
    have d1 : ((n : Int) == (m : Int)) = false := by simp; omega
    go_enter Tryz.func102, Tryz.ntmps102
    go_wp2_with fail
    go_ret
    exact ⟨ret_bool HX.out, Below.refl _ _⟩
end Go.Proofs.YtaklilhnikmmfaaGreat
