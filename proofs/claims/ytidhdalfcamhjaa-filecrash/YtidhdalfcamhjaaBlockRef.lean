/-
  The walks of the reference's Few and Same.
-/
import Derived.Test.YtidhdalfcamhjaaBlockLeaf
namespace Go.Proofs.Ytidhdalfcamhjaa
open Go.RowKit StrM BlockM

set_option maxHeartbeats 2000000 in
set_option maxRecDepth 100000 in
theorem bfew_any (v : Value) (l : List P) (w : World) (hs : SeesP w v l) :
    Calls Try.prog 19 #[v] w fun e w' => (∃ b, e = .returned (.bool b) ∧ (b = true → l.length ≤ 60)) ∧ w = w' := by
  obtain ⟨len, hn⟩ : ∃ len, len = l.length := ⟨_, rfl⟩
  obtain ⟨a, cap, rfl, -⟩ := id hs
  have HS := Lib.hid hs
  rw [← hn] at HS ⊢
  have HN := Lib.hid hn
  clear hs hn
  by_cases hL : 60 < len
  · have hL' : (60 : Int) < (len : Int) := by omega
    clear hL
    go_enter Try.func19, Try.ntmps19
    go_wp2_with fail
    go_ret
    exact ⟨⟨_, rfl, fun h => by cases h⟩, rfl⟩
  · have hL' : decide ((60 : Int) < (len : Int)) = false := by simp; omega
    have hL2 : len ≤ 60 := by omega
    clear hL
    go_enter Try.func19, Try.ntmps19
    go_wp2_with fail
    go_loopw [3] (fun i wr => ∃ k : Nat, k ≤ len ∧ i = .int .i64 (k : Int) ∧ w = wr) (fun i _ => len - (intOf i).toNat)
    case atStart => exact ⟨0, Nat.zero_le _, rfl, rfl⟩
    case round =>
      obtain ⟨k, hk, rfl, rfl⟩ := hrel
      by_cases hlt : k < len
      · have hkl : k < l.length := by rw [← HN.out]; exact hlt
        obtain ⟨g, off, A, bc, rfl, hg, hc1, hc2, -⟩ := HS.out.cells hkl
        generalize l[k] = u at *
        obtain ⟨p, b⟩ := u
        simp only at hc1 hc2
        generalize b.length = bl at *
        by_cases h1 : 40 < bl
        · have h1' : (40 : Int) < (bl : Int) := by omega
          clear h1
          go_wp2_with fail
          go_ret
          exact ⟨⟨_, rfl, fun h => by cases h⟩, rfl⟩
        · have h1' : decide ((40 : Int) < (bl : Int)) = false := by simp; omega
          clear h1
          by_cases h2 : 2000 < p
          · by_cases h3 : p < 65536
            · go_wp2_with fail
              go_ret
              exact ⟨⟨_, rfl, fun h => by cases h⟩, rfl⟩
            · have h3' : decide (p < 65536) = false := by simpa using h3
              clear h3
              go_wp2_with fail
              go_roundw
              case rel => exact ⟨k + 1, by omega, by go_num, trivial⟩
              case measure => simp [intOf]; omega
          · have h2' : decide (2000 < p) = false := by simpa using h2
            clear h2
            go_wp2_with fail
            go_roundw
            case rel => exact ⟨k + 1, by omega, by go_num, trivial⟩
            case measure => simp [intOf]; omega
      · go_wp2_with fail
        go_ret
        exact ⟨⟨_, rfl, fun _ => by omega⟩, rfl⟩

theorem text_drewN {w : World} {v : Value} {l : List UInt8} (h : SeesV w v (bys l)) : ∀ m, (convert 22 9 v).run Try.prog (w.drewN m) = .ok (.string ⟨l.toArray⟩) (w.drewN m) :=
  fun _ => run_text_sees (h.later (below_drewN _ _))

set_option maxHeartbeats 2000000 in
set_option maxRecDepth 100000 in
theorem pieces_same (v1 v2 : Value) (l : List P) (w : World) (h1 : SeesP w v1 l) (h2 : SeesP w v2 l) (hn : l.length ≤ 1000000) :
    Calls Try.prog 31 #[v1, v2] w fun e w' => e = .returned (.bool true) ∧ Below w.heap.size w w' := by
  obtain ⟨a1, cap1, rfl, -⟩ := id h1
  obtain ⟨a2, cap2, rfl, -⟩ := id h2
  obtain ⟨n, hnn⟩ : ∃ n, n = l.length := ⟨_, rfl⟩
  rw [← hnn] at hn h1 h2 ⊢
  have G1 := Lib.hid h1
  have G2 := Lib.hid h2
  have HN := Lib.hid hnn
  clear hnn h1 h2
  go_enter Try.func31, Try.ntmps31
  go_wp2_with fail
  go_loopw [5] (fun i wr => ∃ k m : Nat, k ≤ n ∧ i = .int .i64 k ∧ wr = w.drewN m) (fun i _ => n - (intOf i).toNat)
  case atStart => exact ⟨0, 0, Nat.zero_le _, rfl, rfl⟩
  case round =>
    obtain ⟨k, m, hk, rfl, rfl⟩ := hrel
    by_cases hlt : k < n
    · have hkl : k < l.length := by rw [← HN.out]; exact hlt
      obtain ⟨g, off, A, bc, rfl, hg, hc1, hc2, hc3⟩ := G1.out.cells hkl
      obtain ⟨g', off', A', bc', rfl, hg', hd1, hd2, hd3⟩ := G2.out.cells hkl
      have t1 := text_drewN hc3
      have t2 := text_drewN hd3
      generalize l[k] = u at *
      obtain ⟨p, b⟩ := u
      simp only at hc1 hc2 hd1 hd2 t1 t2
      clear hc3 hd3
      generalize b.length = bl at *
      generalize (⟨b.toArray⟩ : ByteArray) = S at *
      have hlt' : (k : Int) < (n : Int) := by omega
      go_wp2_with fail
      go_quiet (fail)
      go_wp2_with fail
      go_roundw
      case rel => exact ⟨k + 1, _, by omega, by go_num, rfl⟩
      case measure => simp [intOf]; omega
    · go_wp2_with fail
      go_ret
      exact ⟨rfl, below_drewN _ _⟩
end Go.Proofs.Ytidhdalfcamhjaa
