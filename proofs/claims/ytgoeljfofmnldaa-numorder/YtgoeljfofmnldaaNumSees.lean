/-
  A slice of int64 that came in, as a list; what it holds stays in every later world.
-/
import Derived.Test.YtgoeljfofmnldaaNumSum
import Derived.Test.YtgoeljfofmnldaaNumAwake
namespace Go.Proofs.Ytgoeljfofmnldaa
open Go.RowKit NumM

theorem Sees.later {w w' : World} {a : Option Addr} {len : Nat} {l : List Int} (hs : Sees w a len l) (hb : Below w.heap.size w w') : Sees w' a len l := by
  obtain ⟨h1, h2, h3 | ⟨b, off, rfl, hc⟩⟩ := hs
  · exact ⟨h1, h2, .inl h3⟩
  · exact ⟨h1, h2, .inr ⟨b, off, rfl, fun k hk => cell_later hb (hc k hk)⟩⟩

theorem Sees.of_row {w : World} {a : Option Addr} {len cap : Nat} {zs : List Int}
    (h : (a = none ∧ len = 0 ∧ cap = 0 ∧ zs = []) ∨ ∃ x, a = some x ∧ len ≤ cap ∧ cap ≤ maxLen ∧ zs.length = cap ∧ (∀ i, i < zs.length → w.cell? (x.add i) = some (.int .i64 (zs.getD i 0))) ∧ ∀ n ∈ zs, (Lit.int .i64 n).wf = true) :
    Sees w a len (zs.take len) := by
  rcases h with ⟨rfl, rfl, rfl, rfl⟩ | ⟨x, rfl, hl, hm, hz, hcell, _⟩
  · exact ⟨rfl, by omega, .inl rfl⟩
  · unfold maxLen at hm
    refine ⟨by simp; omega, by omega, ?_⟩
    by_cases h0 : len = 0
    · exact .inl h0
    · obtain ⟨b, off, spot⟩ := x
      have hc := hcell 0 (by omega)
      have hspot : spot = none := by simpa [Addr.add] using World.cell?_spot hc
      subst hspot
      refine .inr ⟨b, off, rfl, fun k hk => ?_⟩
      have := hcell k (by omega)
      have e : (zs.take len).getD k 0 = zs.getD k 0 := by simp [List.getD, hk]
      rw [e]
      by_cases hk0 : k = 0
      · subst hk0; simpa [Addr.add] using this
      · simpa [Addr.add, hk0] using this

theorem sum_two (a b : Int) : sumV [a, b] = plusV a b ∧ sumB [a, b] = plusB a b := by
  unfold sumV sumB plusV
  by_cases ha : isB a = true
  · have h1 : plusB 0 a = true := by simp [plusB, isB_zero, ha]
    rw [sumAcc_yes _ h1, Int.zero_add]
    by_cases hb : plusB a b = true
    · rw [sumAcc_yes _ hb, sumAcc_nil, if_pos hb, hb]; exact ⟨rfl, rfl⟩
    · have hb' : plusB a b = false := by simpa using hb
      rw [sumAcc_no _ hb', if_neg hb, hb']; exact ⟨rfl, rfl⟩
  · have ha' : isB a = false := by simpa using ha
    have h1 : plusB 0 a = false := by simp [plusB, ha']
    have h2 : plusB a b = false := by simp [plusB, ha']
    rw [sumAcc_no _ h1, h2]; simp

/-- The reference's sum of a list of two, as the walk makes it in new memory. -/
theorem rsum_two (a b : Int) (w : World) (T : TypeId) :
    Calls Try.prog 8 #[.slice (some ⟨w.heap.size, 0, none⟩) 2 2] (w.alloc (.cells #[.int .i64 a, .int .i64 b] T)) fun e w' => e = .returned (.tuple #[.int .i64 (plusV a b), .bool (plusB a b)]) ∧ (w.alloc (.cells #[.int .i64 a, .int .i64 b] T)) = w' := by
  obtain ⟨e1, e2⟩ := sum_two a b
  rw [← e1, ← e2]
  refine rsum_any _ 2 2 [a, b] _ ⟨rfl, by omega, .inr ⟨_, _, rfl, fun k hk => ?_⟩⟩
  match k, hk with
  | 0, _ => simp
  | 1, _ => simp
end Go.Proofs.Ytgoeljfofmnldaa
