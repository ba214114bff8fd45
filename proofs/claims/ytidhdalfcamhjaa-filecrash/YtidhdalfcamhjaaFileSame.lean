/-
  The walks of the reference's Same, Few and Light over files.
-/
import Derived.Test.YtidhdalfcamhjaaFileSync
import Derived.Test.YtidhdalfcamhjaaBlockRef
namespace Go.Proofs.Ytidhdalfcamhjaa
open Go.RowKit StrM BlockM FileM

set_option maxHeartbeats 2000000 in
set_option maxRecDepth 100000 in
theorem fsame_any (v1 v2 : Value) (f : Fl) (w : World) (h1 : SeesF w v1 f) (h2 : SeesF w v2 f) (hn : f.pend.length ≤ 1000000) :
    Calls Try.prog 14 #[v1, v2] w fun e w' => e = .returned (.bool true) ∧ Below w.heap.size w w' := by
  obtain ⟨A0, c0, A1, c1, A2, c2, rfl, a0, a1, a2⟩ := h1.slices
  obtain ⟨B0, d0, B1, d1, B2, d2, rfl, b0, b1, b2⟩ := h2.slices
  have BW := Lib.hid ((below_made w (.cells #[.slice A0 f.now.length c0, .slice A1 f.sure.length c1, .slice A2 f.pend.length c2] 25)).alloc (below_made w _).size (.cells #[.slice B0 f.now.length d0, .slice B1 f.sure.length d1, .slice B2 f.pend.length d2] 25))
  have t0 := run_text_sees (a0.later BW.out)
  have t1 := run_text_sees (a1.later BW.out)
  have s0 := run_text_sees (b0.later BW.out)
  have s1 := run_text_sees (b1.later BW.out)
  have PS := Lib.hid (fun W (hB : Below w.heap.size w W) => pieces_same _ _ f.pend W (a2.later hB) (b2.later hB) hn)
  clear h1 h2 a0 a1 a2 b0 b1 b2 hn
  generalize (⟨f.now.toArray⟩ : ByteArray) = S at *
  generalize (⟨f.sure.toArray⟩ : ByteArray) = T at *
  generalize f.now.length = n0 at *
  generalize f.sure.length = n1 at *
  generalize f.pend.length = n2 at *
  go_enter Try.func14, Try.ntmps14
  go_wp2_with fail
  refine (PS.out _ BW.out).mono ?_
  rintro e w1 ⟨rfl, hb1⟩
  have B1 := Lib.hid (BW.out.trans (hb1.mono BW.out.size))
  clear hb1
  go_wp2_with fail
  go_ret
  exact ⟨rfl, B1.out⟩

set_option maxHeartbeats 2000000 in
set_option maxRecDepth 100000 in
theorem ffew_any (v : Value) (f : Fl) (w : World) (h : SeesF w v f) :
    Calls Try.prog 5 #[v] w fun e w' => (∃ b, e = .returned (.bool b) ∧ (b = true → f.now.length ≤ 3000 ∧ f.sure.length ≤ 3000 ∧ f.pend.length ≤ 60)) ∧ Below w.heap.size w w' := by
  obtain ⟨A0, c0, A1, c1, A2, c2, rfl, a0, a1, a2⟩ := h.slices
  have BW := Lib.hid (below_made w (.cells #[.slice A0 f.now.length c0, .slice A1 f.sure.length c1, .slice A2 f.pend.length c2] 25))
  have FE := Lib.hid (bfew_any _ f.pend _ (a2.later BW.out))
  clear h a0 a1 a2
  generalize f.now.length = n0 at *
  generalize f.sure.length = n1 at *
  generalize f.pend.length = n2 at *
  by_cases h0 : n0 ≤ 3000
  · have h0' : (n0 : Int) ≤ 3000 := by omega
    by_cases h1 : n1 ≤ 3000
    · have h1' : (n1 : Int) ≤ 3000 := by omega
      go_enter Try.func5, Try.ntmps5
      go_wp2_with fail
      refine FE.out.mono ?_
      rintro e w1 ⟨⟨b, rfl, hb⟩, rfl⟩
      have HB := Lib.hid hb
      clear hb
      go_wp2_with fail
      go_ret
      exact ⟨⟨b, rfl, fun e => ⟨h0, h1, HB.out e⟩⟩, BW.out⟩
    · have h1' : decide ((n1 : Int) ≤ 3000) = false := by simp; omega
      clear h1
      go_enter Try.func5, Try.ntmps5
      go_wp2_with fail
      go_ret
      exact ⟨⟨_, rfl, fun h => by cases h⟩, BW.out⟩
  · have h0' : decide ((n0 : Int) ≤ 3000) = false := by simp; omega
    clear h0
    go_enter Try.func5, Try.ntmps5
    go_wp2_with fail
    go_ret
    exact ⟨⟨_, rfl, fun h => by cases h⟩, BW.out⟩

/-- What is done with a file. -/
structure Do where
  s : Bool
  p : Int
  b : List UInt8
/-- A slice of acts, read as a list. -/
def SeesA (w : World) (v : Value) (l : List Do) : Prop :=
  ∃ a cap, v = .slice a l.length cap ∧ (l = [] ∨ ∃ g off, a = some ⟨g, off, none⟩ ∧ g < w.heap.size ∧ ∀ k (hk : k < l.length), w.cell? ⟨g, off + k * 3, none⟩ = some (.bool l[k].s) ∧ w.cell? ⟨g, off + k * 3 + 1, none⟩ = some (.int .i64 l[k].p) ∧ ∃ B, w.cell? ⟨g, off + k * 3 + 2, none⟩ = some B ∧ SeesV w B (bys l[k].b))
theorem SeesA.cells {w : World} {a : Option Addr} {n cap : Nat} {l : List Do} (h : SeesA w (.slice a n cap) l) {k : Nat} (hk : k < l.length) :
    ∃ g off A bc, a = some ⟨g, off, none⟩ ∧ g < w.heap.size ∧ w.cell? ⟨g, off + k * 3, none⟩ = some (.bool l[k].s) ∧ w.cell? ⟨g, off + k * 3 + 1, none⟩ = some (.int .i64 l[k].p) ∧ w.cell? ⟨g, off + k * 3 + 2, none⟩ = some (.slice A l[k].b.length bc) ∧ SeesV w (.slice A l[k].b.length bc) (bys l[k].b) := by
  obtain ⟨a', cap', e, h⟩ := h
  injection e with e1 e2 e3
  subst e1
  rcases h with rfl | ⟨g, off, rfl, hg, hc⟩
  · simp at hk
  · obtain ⟨h1, h1', B, h2, hB⟩ := hc k hk
    obtain ⟨A, bc, rfl, -⟩ := id hB
    rw [bys_len] at h2 hB
    exact ⟨g, off, A, bc, rfl, hg, h1, h1', h2, hB⟩
theorem SeesA.later {w w' : World} {v : Value} {l : List Do} (h : SeesA w v l) (hb : Below w.heap.size w w') : SeesA w' v l := by
  obtain ⟨a, cap, rfl, h0 | ⟨g, off, rfl, hg, hc⟩⟩ := h
  · exact ⟨a, cap, rfl, .inl h0⟩
  · refine ⟨_, cap, rfl, .inr ⟨g, off, rfl, Nat.lt_of_lt_of_le hg hb.size, fun k hk => ?_⟩⟩
    obtain ⟨h1, h1', B, h2, h3⟩ := hc k hk
    exact ⟨(hb.cell (p := ⟨g, _, none⟩) hg).trans h1, (hb.cell (p := ⟨g, _, none⟩) hg).trans h1', B, (hb.cell (p := ⟨g, _, none⟩) hg).trans h2, h3.later hb⟩

set_option maxHeartbeats 2000000 in
set_option maxRecDepth 100000 in
theorem light_any (v : Value) (l : List Do) (w : World) (hs : SeesA w v l) :
    Calls Try.prog 6 #[v] w fun e w' => (∃ b, e = .returned (.bool b) ∧ (b = true → l.length ≤ 20 ∧ ∀ x ∈ l, x.b.length ≤ 100)) ∧ w = w' := by
  obtain ⟨len, hn⟩ : ∃ len, len = l.length := ⟨_, rfl⟩
  obtain ⟨a, cap, rfl, -⟩ := id hs
  have HS := Lib.hid hs
  rw [← hn] at HS ⊢
  have HN := Lib.hid hn
  clear hs hn
  by_cases hL : 20 < len
  · have hL' : (20 : Int) < (len : Int) := by omega
    clear hL
    go_enter Try.func6, Try.ntmps6
    go_wp2_with fail
    go_ret
    exact ⟨⟨_, rfl, fun h => by cases h⟩, rfl⟩
  · have hL' : decide ((20 : Int) < (len : Int)) = false := by simp; omega
    have hL2 : len ≤ 20 := by omega
    clear hL
    go_enter Try.func6, Try.ntmps6
    go_wp2_with fail
    go_loopw [3] (fun i wr => ∃ k : Nat, k ≤ len ∧ i = .int .i64 (k : Int) ∧ w = wr ∧ ∀ j (hj : j < l.length), j < k → l[j].b.length ≤ 100) (fun i _ => len - (intOf i).toNat)
    case atStart => exact ⟨0, Nat.zero_le _, rfl, rfl, fun j _ h => by omega⟩
    case round =>
      obtain ⟨k, hk, rfl, rfl, hall⟩ := hrel
      have HA := Lib.hid hall
      clear hall
      by_cases hlt : k < len
      · have hkl : k < l.length := by rw [← HN.out]; exact hlt
        obtain ⟨g, off, A, bc, rfl, hg, hc1, hc2, hc3, -⟩ := HS.out.cells hkl
        have HK := Lib.hid (fun (h : l[k].b.length ≤ 100) j (hj : j < l.length) (hjk : j < k + 1) => show l[j].b.length ≤ 100 by
          by_cases e : j = k
          · subst e; exact h
          · exact HA.out j hj (by omega))
        generalize l[k] = u at *
        obtain ⟨s, p, b⟩ := u
        simp only at hc1 hc2 hc3 HK
        generalize b.length = bl at *
        by_cases h1 : 100 < bl
        · have h1' : (100 : Int) < (bl : Int) := by omega
          clear h1
          go_wp2_with fail
          go_ret
          exact ⟨⟨_, rfl, fun h => by cases h⟩, rfl⟩
        · have h1' : decide ((100 : Int) < (bl : Int)) = false := by simp; omega
          have HK2 := Lib.hid (HK.out (by omega))
          clear h1 HK
          by_cases h2 : 2000 < p
          · by_cases h3 : p ≤ 65536
            · go_wp2_with fail
              go_ret
              exact ⟨⟨_, rfl, fun h => by cases h⟩, rfl⟩
            · have h3' : decide (p ≤ 65536) = false := by simpa using h3
              clear h3
              go_wp2_with fail
              go_roundw
              case rel => exact ⟨k + 1, by omega, by go_num, trivial, HK2.out⟩
              case measure => simp [intOf]; omega
          · have h2' : decide (2000 < p) = false := by simpa using h2
            clear h2
            go_wp2_with fail
            go_roundw
            case rel => exact ⟨k + 1, by omega, by go_num, trivial, HK2.out⟩
            case measure => simp [intOf]; omega
      · go_wp2_with fail
        go_ret
        exact ⟨⟨_, rfl, fun _ => ⟨hL2, fun x hx => by
          obtain ⟨j, hj, rfl⟩ := List.mem_iff_getElem.1 hx
          exact HA.out j hj (by have := HN.out; omega)⟩⟩, rfl⟩
end Go.Proofs.Ytidhdalfcamhjaa
