/-
  The walks of code.Right, of the reference's Right and of Same.
-/
import Derived.Test.YtnjnlbcbdhdipaaCodeLeaf
namespace Go.Proofs.Ytnjnlbcbdhdipaa
open Go.RowKit StrM VaryM CodeM

/-- What the loops of Right have seen: the first k values are right. -/
def Okay (l : List V) (k : Nat) : Prop := (l.take k).all ok = true
theorem Okay.start (l : List V) : Okay l 0 := by simp [Okay]
theorem Okay.next {l : List V} {k : Nat} (h : Okay l k) (hk : k < l.length) (hv : ok l[k] = true) : Okay l (k + 1) := by
  rw [Okay, List.take_succ_eq_append_getElem hk, List.all_append, show (l.take k).all ok = true from h]
  simp [hv]
theorem right_not {l : List V} {k : Nat} (hk : k < l.length) (hv : ok l[k] = false) : false = right l := by
  symm
  rw [right, Bool.and_eq_false_iff]
  right
  rw [List.all_eq_false]
  exact ⟨l[k], List.getElem_mem hk, by simp [hv]⟩
theorem right_long {l : List V} (h : 1000 < l.length) : false = right l := by
  symm
  rw [right, Bool.and_eq_false_iff]
  left; simp; omega
theorem Okay.right {l : List V} {k : Nat} (h : Okay l k) (hk : ¬ k < l.length) (hl : l.length ≤ 1000) : true = CodeM.right l := by
  rw [Okay, List.take_of_length_le (by omega)] at h
  simp [CodeM.right, h, hl]

set_option maxHeartbeats 800000 in
set_option maxRecDepth 100000 in
theorem rights_any (v : Value) (l : List V) (w : World) (hs : SeesS w v l) :
    Calls Try.prog 10 #[v] w fun e w' => e = .returned (.bool (right l)) ∧ Below w.heap.size w w' := by
  obtain ⟨len, hn⟩ : ∃ len, len = l.length := ⟨_, rfl⟩
  obtain ⟨a, cap, rfl, -⟩ := id hs
  have HS := Lib.hid hs
  rw [← hn] at HS ⊢
  have HN := Lib.hid hn
  clear hs hn
  by_cases hL : 1000 < len
  · have hL' : (1000 : Int) < (len : Int) := by omega
    have HF := Lib.hid (right_long (l := l) (by rw [← HN.out]; exact hL))
    clear hL
    go_enter Try.func10, Try.ntmps10
    go_wp2_with fail
    go_ret
    exact ⟨ret_bool HF.out, Below.refl _ _⟩
  · have hL' : decide ((1000 : Int) < (len : Int)) = false := by simp; omega
    have HL := Lib.hid (show l.length ≤ 1000 by rw [← HN.out]; omega)
    have hL2 : len ≤ 1000 := by omega
    clear hL
    go_enter Try.func10, Try.ntmps10
    go_wp2_with fail
    go_loopw [10] (fun i wr => ∃ (k : Nat), k ≤ len ∧ i = .int .i64 (k : Int) ∧ Okay l k ∧ Below w.heap.size w wr) (fun i _ => len - (intOf i).toNat)
    case atStart => exact ⟨0, Nat.zero_le _, rfl, Okay.start l, Below.refl _ _⟩
    case round =>
      obtain ⟨k, hk, rfl, hO, hB⟩ := hrel
      have HO := Lib.hid hO
      have HB := Lib.hid hB
      clear hO hB
      by_cases hlt : k < len
      · have hkl : k < l.length := by rw [← HN.out]; exact hlt
        obtain ⟨g, off, rfl, hg, hc1, hc2, hc3⟩ := (HS.out.later HB.out).cells hkl
        obtain ⟨u, hu⟩ : ∃ u, u = l[k] := ⟨_, rfl⟩
        rw [← hu] at hc1 hc2 hc3
        have HU := Lib.hid hu
        clear hu
        have RA := Lib.hid (fun w => right_any u w)
        unfold vagg at RA
        cases hok : ok u with
        | false =>
          have HF := Lib.hid (right_not hkl (by rw [← HU.out]; exact hok))
          rw [hok] at RA
          clear hok
          go_wp2_with fail
          refine (RA.out _).mono ?_
          rintro e w2 ⟨rfl, hb⟩
          have HB2 := Lib.hid ((HB.out.alloc HB.out.size (.cells #[.int .i64 u.k, .int .i64 u.n, .string u.t] 37)).trans (hb.mono (HB.out.alloc HB.out.size _).size))
          clear hb
          go_wp2_with fail
          go_ret
          exact ⟨ret_bool HF.out, HB2.out⟩
        | true =>
          have HF := Lib.hid (HO.out.next hkl (by rw [← HU.out]; exact hok))
          rw [hok] at RA
          clear hok
          go_wp2_with fail
          refine (RA.out _).mono ?_
          rintro e w2 ⟨rfl, hb⟩
          have HB2 := Lib.hid ((HB.out.alloc HB.out.size (.cells #[.int .i64 u.k, .int .i64 u.n, .string u.t] 37)).trans (hb.mono (HB.out.alloc HB.out.size _).size))
          clear hb
          go_wp2_with fail
          go_roundw
          case rel => exact ⟨k + 1, by omega, by go_num, HF.out, HB2.out⟩
          case measure => simp [intOf]; omega
      · have HF := Lib.hid (HO.out.right (by rw [← HN.out]; exact hlt) HL.out)
        go_wp2_with fail
        go_ret
        exact ⟨ret_bool HF.out, HB.out⟩

/-- The ways in which the reference tells a value. -/
theorem told_ok (u : V) : (ok u = true ∧ ((u.k = 1 ∧ u.t.size = 0) ∨ (u.k = 2 ∧ u.n = 0 ∧ u.t.size ≤ 4096))) ∨
    (ok u = false ∧ ((u.k = 1 ∧ 0 < u.t.size) ∨ (u.k = 2 ∧ u.n ≠ 0) ∨ (u.k = 2 ∧ u.n = 0 ∧ 4096 < u.t.size) ∨ (u.k ≠ 1 ∧ u.k ≠ 2))) := by
  unfold ok
  by_cases h1 : u.k = 1
  · by_cases h0 : u.t.size = 0
    · left; exact ⟨by rw [h1, h0]; rfl, .inl ⟨h1, h0⟩⟩
    · right
      have hb : (u.t.size == 0) = false := by rw [beq_eq_false_iff_ne]; exact h0
      exact ⟨by rw [h1, hb]; rfl, .inl ⟨h1, by omega⟩⟩
  · by_cases h2 : u.k = 2
    · simp [h2]
      by_cases h0 : u.n = 0
      · simp [h0]; omega
      · simp [h0]
    · simp [h1, h2]

set_option maxHeartbeats 2000000 in
set_option maxRecDepth 100000 in
theorem rrights_any (v : Value) (l : List V) (w : World) (hs : SeesS w v l) (hL : l.length ≤ 1000000) :
    Calls Try.prog 9 #[v] w fun e w' => e = .returned (.bool (right l)) ∧ Below w.heap.size w w' := by
  obtain ⟨len, hn⟩ : ∃ len, len = l.length := ⟨_, rfl⟩
  obtain ⟨a, cap, rfl, -⟩ := id hs
  have HS := Lib.hid hs
  rw [← hn] at HS hL ⊢
  have HN := Lib.hid hn
  clear hs hn
  go_enter Try.func9, Try.ntmps9
  go_wp2_with fail
  go_loopw [3] (fun i wr => ∃ (k : Nat), k ≤ len ∧ i = .int .i64 (k : Int) ∧ Okay l k ∧ Below w.heap.size w wr) (fun i _ => len - (intOf i).toNat)
  case atStart => exact ⟨0, Nat.zero_le _, rfl, Okay.start l, Below.refl _ _⟩
  case round =>
    obtain ⟨k, hk, rfl, hO, hB⟩ := hrel
    have HO := Lib.hid hO
    have HB := Lib.hid hB
    clear hO hB
    by_cases hlt : k < len
    · have hkl : k < l.length := by rw [← HN.out]; exact hlt
      obtain ⟨g, off, rfl, hg, hc1, hc2, hc3⟩ := (HS.out.later HB.out).cells hkl
      obtain ⟨u, hu⟩ : ∃ u, u = l[k] := ⟨_, rfl⟩
      rw [← hu] at hc1 hc2 hc3
      have HU := Lib.hid hu
      clear hu
      have HB2 := Lib.hid (HB.out.alloc HB.out.size (.cells #[.int .i64 u.k, .int .i64 u.n, .string u.t] 37))
      have ht := told_ok u
      obtain ⟨uk, un, ut⟩ := u
      simp only at hc1 hc2 hc3 ht HB2
      rcases ht with ⟨hok, hw⟩ | ⟨hok, hw⟩
      · have HF := Lib.hid (HO.out.next hkl (by rw [← HU.out]; exact hok))
        clear hok
        rcases hw with ⟨rfl, h2⟩ | ⟨rfl, rfl, h3⟩
        · have h2' : (ut.size : Int) = 0 := by omega
          clear h2
          go_wp2_with fail
          go_roundw
          case rel => exact ⟨k + 1, by omega, by go_num, HF.out, HB2.out⟩
          case measure => simp [intOf]; omega
        · have h3' : decide ((4096 : Int) < (ut.size : Int)) = false := by simp; omega
          clear h3
          go_wp2_with fail
          go_roundw
          case rel => exact ⟨k + 1, by omega, by go_num, HF.out, HB2.out⟩
          case measure => simp [intOf]; omega
      · have HF := Lib.hid (right_not hkl (by rw [← HU.out]; exact hok))
        clear hok
        rcases hw with ⟨rfl, h2⟩ | ⟨rfl, h2⟩ | ⟨rfl, rfl, h3⟩ | ⟨h1, h2⟩
        · have h2' : (0 : Int) < (ut.size : Int) := by omega
          go_wp2_with fail
          go_ret
          exact ⟨ret_bool HF.out, HB2.out⟩
        · have h2' : (un == 0) = false := by simpa using h2
          have h2 : ¬ un = 0 := h2
          go_wp2_with fail
          go_ret
          exact ⟨ret_bool HF.out, HB2.out⟩
        · have h3' : (4096 : Int) < (ut.size : Int) := by omega
          clear h3
          go_wp2_with fail
          go_ret
          exact ⟨ret_bool HF.out, HB2.out⟩
        · have h1' : (uk == 1) = false := by simpa using h1
          have h2' : (uk == 2) = false := by simpa using h2
          have h1 : ¬ uk = 1 := h1
          have h2 : ¬ uk = 2 := h2
          go_wp2_with fail
          go_ret
          exact ⟨ret_bool HF.out, HB2.out⟩
    · by_cases h10 : len ≤ 1000
      · have h10' : (len : Int) ≤ 1000 := by omega
        have HF := Lib.hid (HO.out.right (by rw [← HN.out]; exact hlt) (by rw [← HN.out]; exact h10))
        go_wp2_with fail
        go_ret
        exact ⟨ret_bool HF.out, HB.out⟩
      · have h10' : decide ((len : Int) ≤ 1000) = false := by simp; omega
        have HF := Lib.hid (right_long (l := l) (by rw [← HN.out]; omega))
        go_wp2_with fail
        go_ret
        exact ⟨ret_bool HF.out, HB.out⟩

set_option maxHeartbeats 1000000 in
theorem vals_same (v1 v2 : Value) (l : List V) (w : World) (h1 : SeesS w v1 l) (h2 : SeesS w v2 l) (hn : l.length ≤ 1000000) :
    Calls Try.prog 15 #[v1, v2] w fun e w' => e = .returned (.bool true) ∧ Below w.heap.size w w' := by
  obtain ⟨a1, cap1, rfl, -⟩ := id h1
  obtain ⟨a2, cap2, rfl, -⟩ := id h2
  obtain ⟨n, hnn⟩ : ∃ n, n = l.length := ⟨_, rfl⟩
  rw [← hnn] at hn h1 h2 ⊢
  have G1 := Lib.hid h1
  have G2 := Lib.hid h2
  have HN := Lib.hid hnn
  clear hnn h1 h2
  go_enter Try.func15, Try.ntmps15
  go_wp2_with fail
  go_loopw [5] (fun i wr => ∃ k m : Nat, k ≤ n ∧ i = .int .i64 k ∧ wr = w.drewN m) (fun i _ => n - (intOf i).toNat)
  case atStart => exact ⟨0, 0, Nat.zero_le _, rfl, rfl⟩
  case round =>
    obtain ⟨k, m, hk, rfl, rfl⟩ := hrel
    by_cases hlt : k < n
    · have hkl : k < l.length := by rw [← HN.out]; exact hlt
      obtain ⟨g, off, rfl, hg, hc1, hc2, hc3⟩ := G1.out.cells hkl
      obtain ⟨g', off', rfl, hg', hd1, hd2, hd3⟩ := G2.out.cells hkl
      generalize l[k] = u at *
      obtain ⟨uk, un, ut⟩ := u
      simp only at hc1 hc2 hc3 hd1 hd2 hd3
      have hlt' : (k : Int) < (n : Int) := by omega
      go_wp2_with fail
      go_quiet (fail)
      go_wp2_with fail
      go_roundw
      case rel => exact ⟨k + 1, _, by omega, by go_num, rfl⟩
      case measure => simp [intOf]; omega
    · go_wp2_with fail
      go_ret
      exact ⟨rfl, below_drewN _ _⟩
end Go.Proofs.Ytnjnlbcbdhdipaa
