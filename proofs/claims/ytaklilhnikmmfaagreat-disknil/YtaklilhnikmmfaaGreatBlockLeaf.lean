/-
  The leaves of block: room, fits, Right, bytes.Clone, and the reference's Right; slices of pieces in memory.
-/
import Derived.Test.YtaklilhnikmmfaaGreatRowAll
import Derived.Test.YtaklilhnikmmfaaGreatBlockMath
namespace Go.Proofs.YtaklilhnikmmfaaGreat
open Go.RowKit StrM BlockM

/-- A slice of pieces, read as a list. -/
def SeesP (w : World) (v : Value) (l : List P) : Prop :=
  ∃ a cap, v = .slice a l.length cap ∧ (l = [] ∨ ∃ g off, a = some ⟨g, off, none⟩ ∧ g < w.heap.size ∧ ∀ k (hk : k < l.length), w.cell? ⟨g, off + k * 2, none⟩ = some (.int .i64 l[k].p) ∧ ∃ B, w.cell? ⟨g, off + k * 2 + 1, none⟩ = some B ∧ SeesV w B (bys l[k].b))

theorem SeesP.cells {w : World} {a : Option Addr} {n cap : Nat} {l : List P} (h : SeesP w (.slice a n cap) l) {k : Nat} (hk : k < l.length) :
    ∃ g off A bc, a = some ⟨g, off, none⟩ ∧ g < w.heap.size ∧ w.cell? ⟨g, off + k * 2, none⟩ = some (.int .i64 l[k].p) ∧ w.cell? ⟨g, off + k * 2 + 1, none⟩ = some (.slice A l[k].b.length bc) ∧ SeesV w (.slice A l[k].b.length bc) (bys l[k].b) := by
  obtain ⟨a', cap', e, h⟩ := h
  injection e with e1 e2 e3
  subst e1
  rcases h with rfl | ⟨g, off, rfl, hg, hc⟩
  · simp at hk
  · obtain ⟨h1, B, h2, hB⟩ := hc k hk
    obtain ⟨A, bc, rfl, -⟩ := id hB
    rw [bys_len] at h2 hB
    exact ⟨g, off, A, bc, rfl, hg, h1, h2, hB⟩

theorem SeesP.later {w w' : World} {v : Value} {l : List P} (h : SeesP w v l) (hb : Below w.heap.size w w') : SeesP w' v l := by
  obtain ⟨a, cap, rfl, h0 | ⟨g, off, rfl, hg, hc⟩⟩ := h
  · exact ⟨a, cap, rfl, .inl h0⟩
  · refine ⟨_, cap, rfl, .inr ⟨g, off, rfl, Nat.lt_of_lt_of_le hg hb.size, fun k hk => ?_⟩⟩
    obtain ⟨h1, B, h2, h3⟩ := hc k hk
    exact ⟨(hb.cell (p := ⟨g, _, none⟩) hg).trans h1, B, (hb.cell (p := ⟨g, _, none⟩) hg).trans h2, h3.later hb⟩

theorem broom_any (n : Nat) (w : World) (hn : n ≤ 9223372036854775807) : Calls Tryz.prog 83 #[.int .i64 (n : Int)] w fun e w' => e = .returned (.int .i64 (room n : Int)) ∧ w = w' := by
  have h : (16 : Int) - (n : Int) % 16 = (room n : Int) := by unfold room; omega
  go_enter Tryz.func83, Tryz.ntmps83
  go_wp2_with fail
  go_ret
  exact ⟨rfl, rfl⟩

theorem bfits_any (n m : Nat) (w : World) (hm : m ≤ 1000000000000000) : Calls Tryz.prog 82 #[.int .i64 (n : Int), .int .i64 (m : Int)] w fun e w' => e = .returned (.bool (decide (n + m ≤ 65536))) ∧ w = w' := by
  have h : decide ((n : Int) ≤ 65536 - (m : Int)) = decide (n + m ≤ 65536) := by
    by_cases g : n + m ≤ 65536
    · rw [decide_eq_true g, decide_eq_true (by omega)]
    · rw [decide_eq_false g, decide_eq_false (by omega)]
  go_enter Tryz.func82, Tryz.ntmps82
  go_wp2_with fail
  go_ret
  exact ⟨rfl, rfl⟩

/-- The ways in which a piece is told. -/
def okN (p : Int) (n : Nat) : Bool := decide (0 ≤ p ∧ 0 < n ∧ n ≤ room p.toNat ∧ p + n ≤ 65536)
theorem ok_eq (x : P) : ok x = okN x.p x.b.length := rfl
theorem okN_neg {p : Int} {n : Nat} (h : ¬ 0 ≤ p) : false = okN p n := by symm; rw [okN, decide_eq_false_iff_not]; omega
theorem okN_none {p : Int} : false = okN p 0 := by symm; rw [okN, decide_eq_false_iff_not]; omega
theorem okN_wide {m n : Nat} (h : ¬ n ≤ room m) : false = okN m n := by symm; rw [okN, decide_eq_false_iff_not, Int.toNat_natCast]; omega
theorem okN_fits {m n : Nat} (h0 : 0 < n) (h : n ≤ room m) : decide (m + n ≤ 65536) = okN m n := by
  by_cases g : m + n ≤ 65536
  · rw [decide_eq_true g, okN, Int.toNat_natCast, decide_eq_true (by omega)]
  · rw [decide_eq_false g, okN, Int.toNat_natCast, decide_eq_false (by omega)]

set_option maxHeartbeats 1000000 in
theorem bright_any (p : Int) (A : Option Addr) (n c : Nat) (w : World) (hp : p ≤ 9223372036854775807) : Calls Tryz.prog 100 #[.agg #[.int .i64 p, .slice A n c]] w fun e w' => e = .returned (.bool (okN p n)) ∧ Below w.heap.size w w' := by
  by_cases h1 : 0 ≤ p
  · obtain ⟨m, rfl⟩ : ∃ m : Nat, p = m := ⟨p.toNat, by omega⟩
    by_cases h2 : n = 0
    · subst h2
      have HF := Lib.hid (okN_none (p := m))
      go_enter Tryz.func100, Tryz.ntmps100
      go_wp2_with fail
      go_ret
      exact ⟨ret_bool HF.out, below_made w _⟩
    · have h2' : (0 : Int) < (n : Int) := by omega
      have hm : m ≤ 9223372036854775807 := by omega
      have RO := Lib.hid (fun w => broom_any m w hm)
      by_cases h3 : n ≤ room m
      · have hr := room_le m
        have FI := Lib.hid (fun w => bfits_any m n w (by omega))
        have HF := Lib.hid (okN_fits (m := m) (n := n) (by omega) h3)
        have h3' : (n : Int) ≤ (room m : Int) := by omega
        generalize room m = r at *
        generalize decide (m + n ≤ 65536) = t at *
        clear h2 h3 h1 hp
        go_enter Tryz.func100, Tryz.ntmps100
        go_wp2_with fail
        refine (RO.out _).mono ?_
        rintro e w' ⟨rfl, rfl⟩
        go_wp2_with fail
        refine (FI.out _).mono ?_
        rintro e w' ⟨rfl, rfl⟩
        go_wp2_with fail
        go_ret
        exact ⟨ret_bool HF.out, below_made w _⟩
      · have HF := Lib.hid (okN_wide (m := m) (n := n) h3)
        have h3' : decide (n ≤ room m) = false := by simp; omega
        generalize room m = r at *
        clear h2 h3 h1 hp
        go_enter Tryz.func100, Tryz.ntmps100
        go_wp2_with fail
        refine (RO.out _).mono ?_
        rintro e w' ⟨rfl, rfl⟩
        go_wp2_with fail
        go_ret
        exact ⟨ret_bool HF.out, below_made w _⟩
  · have HF := Lib.hid (okN_neg (n := n) h1)
    have h1' : decide (0 ≤ p) = false := by simpa using h1
    clear h1
    go_enter Tryz.func100, Tryz.ntmps100
    go_wp2_with fail
    go_ret
    exact ⟨ret_bool HF.out, below_made w _⟩

set_option maxHeartbeats 1000000 in
set_option maxRecDepth 100000 in
theorem rbright_any (p : Int) (A : Option Addr) (n c : Nat) (w : World) (hp : p ≤ 9223372036854775807) : Calls Tryz.prog 105 #[.agg #[.int .i64 p, .slice A n c]] w fun e w' => e = .returned (.bool (okN p n)) ∧ Below w.heap.size w w' := by
  by_cases h1 : 0 ≤ p
  · obtain ⟨m, rfl⟩ : ∃ m : Nat, p = m := ⟨p.toNat, by omega⟩
    by_cases h4 : m < 65536
    · have h4' : (m : Int) < 65536 := by omega
      by_cases h2 : n = 0
      · subst h2
        have HF := Lib.hid (okN_none (p := m))
        go_enter Tryz.func105, Tryz.ntmps105
        go_wp2_with fail
        go_ret
        exact ⟨ret_bool HF.out, below_made w _⟩
      · have h2' : (0 : Int) < (n : Int) := by omega
        have hr : (16 : Int) - (m : Int) % 16 = (room m : Int) := by unfold room; omega
        have HF := Lib.hid (show decide (n ≤ room m) = okN m n by
          unfold okN room
          by_cases g : n + m % 16 ≤ 16
          · rw [decide_eq_true (by omega), decide_eq_true (by rw [Int.toNat_natCast]; omega)]
          · rw [decide_eq_false (by omega), decide_eq_false (by rw [Int.toNat_natCast]; omega)])
        have h4b : decide ((m : Int) < 65536) = true := by simp; omega
        generalize room m = r at *
        generalize (m : Int) = p at *
        clear h4 h2 hp h4'
        go_enter Tryz.func105, Tryz.ntmps105
        go_wp2_with fail
        go_ret
        exact ⟨ret_bool HF.out, below_made w _⟩
    · have HF := Lib.hid (show false = okN m n by symm; rw [okN, decide_eq_false_iff_not]; omega)
      have h4' : decide ((m : Int) < 65536) = false := by simp; omega
      clear h4
      go_enter Tryz.func105, Tryz.ntmps105
      go_wp2_with fail
      go_ret
      exact ⟨ret_bool HF.out, below_made w _⟩
  · have HF := Lib.hid (okN_neg (n := n) h1)
    have h1' : decide (0 ≤ p) = false := by simpa using h1
    clear h1
    go_enter Tryz.func105, Tryz.ntmps105
    go_wp2_with fail
    go_ret
    exact ⟨ret_bool HF.out, below_made w _⟩
end Go.Proofs.YtaklilhnikmmfaaGreat
