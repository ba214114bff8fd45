/-
  Two rows of values compared: slices.Equal and the reference's Same.
-/
import Derived.Test.YtahocamjihhjhaaRowsLeaf
import Derived.BigQuiet
namespace Go.Proofs.Ytahocamjihhjhaa
open Go.RowKit StrM VaryM CodeM RowsM

theorem below_drewNN (w : World) (a b : Nat) : Below w.heap.size w ((w.drewN a).drewN b) := (below_drewN w a).trans (show Below (w.drewN a).heap.size (w.drewN a) ((w.drewN a).drewN b) from below_drewN _ _)
theorem text_ne {a b : ByteArray} (h : ¬ a = b) : (a.toList == b.toList) = false := by
  rw [beq_eq_false_iff_ne, ByteArray.toList_eq, ByteArray.toList_eq]
  intro e
  apply h
  cases a; cases b
  simp only [ByteArray.mk.injEq]
  exact Array.toList_inj.1 e
theorem row_differs {l1 l2 : List V} {k : Nat} (h1 : k < l1.length) (h2 : k < l2.length) : ¬ l1[k] = l2[k] → decide (l1 = l2) = false := by
  intro h
  apply decide_eq_false
  rintro rfl
  exact h rfl
theorem row_same {l1 l2 : List V} {k : Nat} (h1 : k < l1.length) (h2 : k < l2.length) (hT : l1.take k = l2.take k) : l1[k] = l2[k] → l1.take (k + 1) = l2.take (k + 1) := by
  intro h
  rw [List.take_succ_eq_append_getElem h1, List.take_succ_eq_append_getElem h2, hT, h]

set_option maxHeartbeats 2000000 in
set_option maxRecDepth 100000 in
theorem vequal_any (v1 v2 : Value) (l1 l2 : List V) (w : World) (h1 : SeesS w v1 l1) (h2 : SeesS w v2 l2) (hn : l1.length ≤ 1000000) :
    Calls Try.prog 41 #[v1, v2] w fun e w' => e = .returned (.bool (decide (l1 = l2))) ∧ Below w.heap.size w w' := by
  obtain ⟨a1, cap1, rfl, -⟩ := id h1
  obtain ⟨a2, cap2, rfl, -⟩ := id h2
  obtain ⟨n, hnn⟩ : ∃ n, n = l1.length := ⟨_, rfl⟩
  obtain ⟨m, hmm⟩ : ∃ m, m = l2.length := ⟨_, rfl⟩
  obtain ⟨r, hr⟩ : ∃ r, r = decide (l1 = l2) := ⟨_, rfl⟩
  rw [← hr]
  rw [← hnn] at hn h1 ⊢
  rw [← hmm] at h2 ⊢
  have G1 := Lib.hid h1
  have G2 := Lib.hid h2
  have HN := Lib.hid hnn
  have HM := Lib.hid hmm
  have HR := Lib.hid hr
  clear hnn hmm hr h1 h2
  by_cases hnm : n = m
  · subst hnm
    have HE := Lib.hid (show l1.length = l2.length by rw [← HN.out, ← HM.out])
    go_enter Try.func41, Try.ntmps41
    go_wp2_with fail
    go_loopw [13] (fun i wr => ∃ k q : Nat, k ≤ n ∧ i = .int .i64 k ∧ l1.take k = l2.take k ∧ wr = w.drewN q) (fun i _ => n - (intOf i).toNat)
    case atStart => exact ⟨0, 0, Nat.zero_le _, rfl, by simp, rfl⟩
    case round =>
      obtain ⟨k, q, hk, rfl, hT, rfl⟩ := hrel
      have HT := Lib.hid hT
      clear hT
      by_cases hlt : k < n
      · have hkl : k < l1.length := by rw [← HN.out]; exact hlt
        have hkm : k < l2.length := by rw [← HM.out]; exact hlt
        obtain ⟨g, off, rfl, hg, hc1, hc2, hc3⟩ := G1.out.cells hkl
        obtain ⟨g', off', rfl, hg', hd1, hd2, hd3⟩ := G2.out.cells hkm
        have HF := Lib.hid (row_differs hkl hkm)
        have HG := Lib.hid (row_same hkl hkm HT.out)
        generalize l1[k] = u at *
        generalize l2[k] = v at *
        obtain ⟨uk, un, ut⟩ := u
        obtain ⟨vk, vn, vt⟩ := v
        simp only at hc1 hc2 hc3 hd1 hd2 hd3
        have hlt' : (k : Int) < (n : Int) := by omega
        by_cases e1 : uk = vk
        · subst e1
          by_cases e2 : un = vn
          · subst e2
            by_cases e3 : ut = vt
            · subst e3
              have HX := Lib.hid (HG.out rfl)
              go_wp2_with fail
              go_quiet (fail)
              go_wp2_with fail
              go_roundw
              case rel => exact ⟨k + 1, _, by omega, by go_num, HX.out, rfl⟩
              case measure => simp [intOf]; omega
            · have HX := Lib.hid (show false = r by rw [HR.out, HF.out (fun h => e3 (congrArg V.t h))])
              have n3 : (ut.toList == vt.toList) = false := text_ne e3
              clear e3
              go_wp2_with fail
              go_quiet (fail)
              go_wp2_with fail
              go_ret
              exact ⟨ret_bool HX.out, below_drewNN _ _ _⟩
          · have HX := Lib.hid (show false = r by rw [HR.out, HF.out (fun h => e2 (congrArg V.n h))])
            have n2 : (un == vn) = false := by simpa using e2
            go_wp2_with fail
            go_quiet (fail)
            go_wp2_with fail
            go_ret
            exact ⟨ret_bool HX.out, below_drewNN _ _ _⟩
        · have HX := Lib.hid (show false = r by rw [HR.out, HF.out (fun h => e1 (congrArg V.k h))])
          have n1 : (uk == vk) = false := by simpa using e1
          go_wp2_with fail
          go_quiet (fail)
          go_wp2_with fail
          go_ret
          exact ⟨ret_bool HX.out, below_drewNN _ _ _⟩
      · have HX := Lib.hid (show true = r by
          have hT := HT.out
          rw [List.take_of_length_le (by have := HN.out; omega), List.take_of_length_le (by have := HM.out; omega)] at hT
          rw [HR.out, hT]; simp)
        go_wp2_with fail
        go_ret
        exact ⟨ret_bool HX.out, below_drewN _ _⟩
  · have HX := Lib.hid (show false = r by
      rw [HR.out]; symm
      exact decide_eq_false (fun h => hnm (by rw [HN.out, HM.out, h])))
    have d1 : ((n : Int) == (m : Int)) = false := by simp; omega
    have d2 : (n == m) = false := by simpa using hnm
    go_enter Try.func41, Try.ntmps41
    go_wp2_with fail
    go_ret
    exact ⟨ret_bool HX.out, Below.refl _ _⟩

set_option maxHeartbeats 2000000 in
set_option maxRecDepth 100000 in
theorem vsame_any (v1 v2 : Value) (l1 l2 : List V) (w : World) (h1 : SeesS w v1 l1) (h2 : SeesS w v2 l2) (hn : l1.length ≤ 1000000) :
    Calls Try.prog 15 #[v1, v2] w fun e w' => e = .returned (.bool (decide (l1 = l2))) ∧ Below w.heap.size w w' := by
  obtain ⟨a1, cap1, rfl, -⟩ := id h1
  obtain ⟨a2, cap2, rfl, -⟩ := id h2
  obtain ⟨n, hnn⟩ : ∃ n, n = l1.length := ⟨_, rfl⟩
  obtain ⟨m, hmm⟩ : ∃ m, m = l2.length := ⟨_, rfl⟩
  obtain ⟨r, hr⟩ : ∃ r, r = decide (l1 = l2) := ⟨_, rfl⟩
  rw [← hr]
  rw [← hnn] at hn h1 ⊢
  rw [← hmm] at h2 ⊢
  have G1 := Lib.hid h1
  have G2 := Lib.hid h2
  have HN := Lib.hid hnn
  have HM := Lib.hid hmm
  have HR := Lib.hid hr
  clear hnn hmm hr h1 h2
  by_cases hnm : n = m
  · subst hnm
    have HE := Lib.hid (show l1.length = l2.length by rw [← HN.out, ← HM.out])
    go_enter Try.func15, Try.ntmps15
    go_wp2_with fail
    go_loopw [5] (fun i wr => ∃ k q : Nat, k ≤ n ∧ i = .int .i64 k ∧ l1.take k = l2.take k ∧ wr = w.drewN q) (fun i _ => n - (intOf i).toNat)
    case atStart => exact ⟨0, 0, Nat.zero_le _, rfl, by simp, rfl⟩
    case round =>
      obtain ⟨k, q, hk, rfl, hT, rfl⟩ := hrel
      have HT := Lib.hid hT
      clear hT
      by_cases hlt : k < n
      · have hkl : k < l1.length := by rw [← HN.out]; exact hlt
        have hkm : k < l2.length := by rw [← HM.out]; exact hlt
        obtain ⟨g, off, rfl, hg, hc1, hc2, hc3⟩ := G1.out.cells hkl
        obtain ⟨g', off', rfl, hg', hd1, hd2, hd3⟩ := G2.out.cells hkm
        have HF := Lib.hid (row_differs hkl hkm)
        have HG := Lib.hid (row_same hkl hkm HT.out)
        generalize l1[k] = u at *
        generalize l2[k] = v at *
        obtain ⟨uk, un, ut⟩ := u
        obtain ⟨vk, vn, vt⟩ := v
        simp only at hc1 hc2 hc3 hd1 hd2 hd3
        have hlt' : (k : Int) < (n : Int) := by omega
        by_cases e1 : uk = vk
        · subst e1
          by_cases e2 : un = vn
          · subst e2
            by_cases e3 : ut = vt
            · subst e3
              have HX := Lib.hid (HG.out rfl)
              go_wp2_with fail
              go_quiet (fail)
              go_wp2_with fail
              go_roundw
              case rel => exact ⟨k + 1, _, by omega, by go_num, HX.out, rfl⟩
              case measure => simp [intOf]; omega
            · have HX := Lib.hid (show false = r by rw [HR.out, HF.out (fun h => e3 (congrArg V.t h))])
              have n3 : (ut.toList == vt.toList) = false := text_ne e3
              clear e3
              go_wp2_with fail
              go_quiet (fail)
              go_wp2_with fail
              go_ret
              exact ⟨ret_bool HX.out, below_drewNN _ _ _⟩
          · have HX := Lib.hid (show false = r by rw [HR.out, HF.out (fun h => e2 (congrArg V.n h))])
            have n2 : (un == vn) = false := by simpa using e2
            go_wp2_with fail
            go_quiet (fail)
            go_wp2_with fail
            go_ret
            exact ⟨ret_bool HX.out, below_drewNN _ _ _⟩
        · have HX := Lib.hid (show false = r by rw [HR.out, HF.out (fun h => e1 (congrArg V.k h))])
          have n1 : (uk == vk) = false := by simpa using e1
          go_wp2_with fail
          go_quiet (fail)
          go_wp2_with fail
          go_ret
          exact ⟨ret_bool HX.out, below_drewNN _ _ _⟩
      · have HX := Lib.hid (show true = r by
          have hT := HT.out
          rw [List.take_of_length_le (by have := HN.out; omega), List.take_of_length_le (by have := HM.out; omega)] at hT
          rw [HR.out, hT]; simp)
        go_wp2_with fail
        go_ret
        exact ⟨ret_bool HX.out, below_drewN _ _⟩
  · have HX := Lib.hid (show false = r by
      rw [HR.out]; symm
      exact decide_eq_false (fun h => hnm (by rw [HN.out, HM.out, h])))
    have d1 : ((n : Int) == (m : Int)) = false := by simp; omega
    have d2 : (n == m) = false := by simpa using hnm
    go_enter Try.func15, Try.ntmps15
    go_wp2_with fail
    go_ret
    exact ⟨ret_bool HX.out, Below.refl _ _⟩
end Go.Proofs.Ytahocamjihhjhaa
