/-
  The leaves of code: right, Num, Text; rows of values in memory.
-/
import Derived.Test.YtahocamjihhjhaaVaryTake
import Derived.Test.YtahocamjihhjhaaCodeMath
namespace Go.Proofs.Ytahocamjihhjhaa
open Go.RowKit StrM VaryM CodeM

/-- A value as Go holds it. -/
def vagg (v : V) : Value := .agg #[.int .i64 v.k, .int .i64 v.n, .string v.t]
def cs3 (v : V) : List Value := [.int .i64 v.k, .int .i64 v.n, .string v.t]
def vals (l : List V) : List Value := l.flatMap cs3

/-- A slice of values, read as a list. -/
def SeesS (w : World) (v : Value) (l : List V) : Prop :=
  ∃ a cap, v = .slice a l.length cap ∧ (l = [] ∨ ∃ g off, a = some ⟨g, off, none⟩ ∧ g < w.heap.size ∧ ∀ k (hk : k < l.length), w.cell? ⟨g, off + k * 3, none⟩ = some (.int .i64 l[k].k) ∧ w.cell? ⟨g, off + k * 3 + 1, none⟩ = some (.int .i64 l[k].n) ∧ w.cell? ⟨g, off + k * 3 + 2, none⟩ = some (.string l[k].t))

theorem SeesS.cells {w : World} {a : Option Addr} {n cap : Nat} {l : List V} (h : SeesS w (.slice a n cap) l) {k : Nat} (hk : k < l.length) :
    ∃ g off, a = some ⟨g, off, none⟩ ∧ g < w.heap.size ∧ w.cell? ⟨g, off + k * 3, none⟩ = some (.int .i64 l[k].k) ∧ w.cell? ⟨g, off + k * 3 + 1, none⟩ = some (.int .i64 l[k].n) ∧ w.cell? ⟨g, off + k * 3 + 2, none⟩ = some (.string l[k].t) := by
  obtain ⟨a', cap', e, h⟩ := h
  injection e with e1 e2 e3
  subst e1
  rcases h with rfl | ⟨g, off, rfl, hg, hc⟩
  · simp at hk
  · exact ⟨g, off, rfl, hg, hc k hk⟩

theorem SeesS.later {w w' : World} {v : Value} {l : List V} (h : SeesS w v l) (hb : Below w.heap.size w w') : SeesS w' v l := by
  obtain ⟨a, cap, rfl, h0 | ⟨g, off, rfl, hg, hc⟩⟩ := h
  · exact ⟨a, cap, rfl, .inl h0⟩
  · refine ⟨_, cap, rfl, .inr ⟨g, off, rfl, Nat.lt_of_lt_of_le hg hb.size, fun k hk => ?_⟩⟩
    obtain ⟨h1, h2, h3⟩ := hc k hk
    exact ⟨(hb.cell (p := ⟨g, _, none⟩) hg).trans h1, (hb.cell (p := ⟨g, _, none⟩) hg).trans h2, (hb.cell (p := ⟨g, _, none⟩) hg).trans h3⟩

theorem num_any (n : Int) (w : World) : Calls Try.prog 24 #[.int .i64 n] w fun e w' => e = .returned (vagg ⟨1, n, ⟨#[]⟩⟩) ∧ w.alloc (.cells #[.int .i64 1, .int .i64 n, .string ⟨#[]⟩] 45) = w' := by
  go_enter Try.func24, Try.ntmps24
  go_wp2_with fail
  exact bodyPost_ret (by simp [results, Try.results24, go_sem]; rfl) rfl ⟨rfl, rfl⟩
theorem text_any (s : ByteArray) (w : World) : Calls Try.prog 23 #[.string s] w fun e w' => e = .returned (vagg ⟨2, 0, s⟩) ∧ w.alloc (.cells #[.int .i64 2, .int .i64 0, .string s] 45) = w' := by
  go_enter Try.func23, Try.ntmps23
  go_wp2_with fail
  exact bodyPost_ret (by simp [results, Try.results23, go_sem]; rfl) rfl ⟨rfl, rfl⟩

theorem empty_size (s : ByteArray) : s.toList.isEmpty = (s.size == 0) := by
  rw [ByteArray.toList_eq, ← StrM.length_bytes]
  cases s.data.toList <;> simp

set_option maxHeartbeats 800000 in
set_option maxRecDepth 100000 in
theorem long_any (v : Value) (l : List V) (w : World) (hs : SeesS w v l) :
    Calls Try.prog 18 #[v] w fun e w' => (∃ b, e = .returned (.bool b) ∧ (b = false → l.length ≤ 1010)) ∧ w = w' := by
  obtain ⟨len, hn⟩ : ∃ len, len = l.length := ⟨_, rfl⟩
  obtain ⟨a, cap, rfl, -⟩ := id hs
  have HS := Lib.hid hs
  rw [← hn] at HS ⊢
  have HN := Lib.hid hn
  clear hs hn
  go_enter Try.func18, Try.ntmps18
  go_wp2_with fail
  go_loopw [3, 4] (fun x i wr => ∃ (k : Nat) (n : Int), k ≤ len ∧ k ≤ 1011 ∧ i = .int .i64 (k : Int) ∧ x = .int .i64 n ∧ w = wr) (fun _ i _ => len - (intOf i).toNat)
  case atStart => exact ⟨0, 0, Nat.zero_le _, by omega, rfl, rfl, rfl⟩
  case round =>
    obtain ⟨k, n, hk, hk2, rfl, rfl, rfl⟩ := hrel
    by_cases hlt : k < len
    · have hkl : k < l.length := by rw [← HN.out]; exact hlt
      obtain ⟨g, off, rfl, hg, hc1, hc2, hc3⟩ := HS.out.cells hkl
      generalize l[k] = u at *
      obtain ⟨uk, un, ut⟩ := u
      simp only at hc1 hc2 hc3
      by_cases h10 : k ≤ 1010
      · have h10' : (k : Int) ≤ 1010 := by omega
        by_cases hL : 4200 < ut.size
        · have hL' : (4200 : Int) < (ut.size : Int) := by omega
          clear hL
          go_wp2_with fail
          go_ret
          exact ⟨⟨_, rfl, fun h => by cases h⟩, rfl⟩
        · have hL' : decide ((4200 : Int) < (ut.size : Int)) = false := by simp; omega
          clear hL
          go_wp2_with fail
          go_roundw
          case rel => exact ⟨k + 1, _, by omega, by omega, by go_num, rfl, trivial⟩
          case measure => simp [intOf]; omega
      · have h10' : decide ((k : Int) ≤ 1010) = false := by simp; omega
        have hL : (1010 : Int) < (len : Int) := by omega
        clear h10
        go_wp2_with fail
        go_ret
        exact ⟨⟨_, rfl, fun h => by cases h⟩, rfl⟩
    · by_cases hL : 1010 < len
      · have hL' : (1010 : Int) < (len : Int) := by omega
        go_wp2_with fail
        go_ret
        exact ⟨⟨_, rfl, fun h => by cases h⟩, rfl⟩
      · have hL' : decide ((1010 : Int) < (len : Int)) = false := by simp; omega
        go_wp2_with fail
        go_ret
        exact ⟨⟨_, rfl, fun _ => by omega⟩, rfl⟩
end Go.Proofs.Ytahocamjihhjhaa
