/-
  The walk of NumOrder up to its test.
-/
import Derived.Test.YtgoeljfofmnldaaNumBack
namespace Go.Proofs.Ytgoeljfofmnldaa
open Go.RowKit NumM

/-- What has been gathered: head, then the elements of m from its end down to place k. -/
def BackRel (w : World) (head m : List Int) (k : Nat) (v : Value) (wr : World) : Prop :=
  wr.ownsRow w.heap.size 2 1 v (head.length + (m.length - k)) (ints (head ++ (m.drop k).reverse)) ∧ Below w.heap.size w wr

theorem BackRel.start (w : World) (m : List Int) : BackRel w [] m m.length (.slice (some ⟨w.heap.size, 0, none⟩) 0 0) (w.alloc (.cells #[] 2)) := by
  refine ⟨?_, (Below.refl _ _).alloc (Nat.le_refl _) _⟩
  have := World.ownsRow_made (base := w.heap.size) (e := 2) (size := 1) w #[] 0 (Nat.le_refl _) (by decide) rfl
  simpa [ints] using this

theorem BackRel.turn {w : World} {m l : List Int} {v : Value} {wr : World} (h : BackRel w [] m 0 v wr) : BackRel w m.reverse l l.length v wr := by
  obtain ⟨h1, h2⟩ := h
  refine ⟨?_, h2⟩
  simpa using h1

theorem BackRel.step {w : World} {head m : List Int} {j : Nat} {v v' : Value} {wr w1 : World} (h : BackRel w head m (j + 1) v wr) (hj : j < m.length) (o : Obj)
    (h1 : w1.ownsRow w.heap.size 2 1 v' (head.length + (m.length - (j + 1)) + 1) (ints (head ++ (m.drop (j + 1)).reverse ++ [m.getD j 0])))
    (h2 : Below w.heap.size (wr.alloc o) w1) : BackRel w head m j v' w1 := by
  refine ⟨?_, (h.2.alloc (by have := h.2.size; omega) o).trans h2⟩
  rw [← back_step head m j hj]
  rw [show head.length + (m.length - j) = head.length + (m.length - (j + 1)) + 1 from by omega]
  exact h1

theorem arg_one (w : World) (z : Int) : Arg (w.alloc (.cells #[.int .i64 z] 2)) (some ⟨w.heap.size, 0, none⟩) 1 1 [z] := by
  refine ⟨rfl, .inr ⟨_, rfl, fun j u hj => ?_⟩⟩
  match j, hj with
  | 0, hj => simp [ints] at hj; subst hj; simp [Addr.add]

set_option maxHeartbeats 1000000 in
set_option maxRecDepth 100000 in
theorem order_main (a0 : Option Addr) (len0 cap0 : Nat) (l : List Int) (a1 : Option Addr) (len1 cap1 : Nat) (m : List Int) (n : Int) (w : World)
    (s0 : Sees w a0 len0 l) (s1 : Sees w a1 len1 m) (g0 : Arg w a0 len0 cap0 l) (g1 : Arg w a1 len1 cap1 m) (h0 : len0 ≤ 100) (h1 : len1 ≤ 100) :
    Calls Try.prog 4 #[.slice a0 len0 cap0, .slice a1 len1 cap1, .int .i64 n] w fun e w' => e = .returned (.bool true) ∧ Below w.heap.size w w' := by
  have k0 : decide ((100 : Int) < (len0 : Int)) = false := by simp; omega
  have k1 : decide ((100 : Int) < (len1 : Int)) = false := by simp; omega
  have L0 := Lib.hid s0.1
  have L1 := Lib.hid s1.1
  have S0 := Lib.hid s0
  have S1 := Lib.hid s1
  have G0 := Lib.hid g0
  have G1 := Lib.hid g1
  clear s0 s1 g0 g1
  go_enter Try.func4, Try.ntmps4
  go_wp2_with fail
  go_loopw [7, 8] (fun v i wr => ∃ k : Nat, k ≤ len1 ∧ i = .int .i64 ((k : Int) - 1) ∧ BackRel w [] m k v wr) (fun _ i _ => (intOf i + 1).toNat)
  case atStart => exact ⟨len1, Nat.le_refl _, rfl, by rw [← L1.out]; exact BackRel.start w m⟩
  case round =>
    obtain ⟨k, hk, hi, hR⟩ := hrel
    rcases k with _ | j
    · have hi' : _ = Value.int .i64 (-1) := hi
      obtain rfl := hi'
      clear hi hk
      have HR := Lib.hid hR
      clear hR
      go_wp2_with fail
      go_loopw [7, 9] (fun v i wr2 => ∃ k : Nat, k ≤ len0 ∧ i = .int .i64 ((k : Int) - 1) ∧ BackRel w m.reverse l k v wr2) (fun _ i _ => (intOf i + 1).toNat)
      case atStart => exact ⟨len0, Nat.le_refl _, rfl, by rw [← L0.out]; exact HR.out.turn⟩
      case round =>
        obtain ⟨k, hk, hi, hR⟩ := hrel
        clear HR
        rcases k with _ | j
        · have hi' : _ = Value.int .i64 (-1) := hi
          obtain rfl := hi'
          clear hi hk
          have HR := Lib.hid hR
          clear hR
          have hnb : m.reverse.length + (l.length - 0) ≤ 9223372036854775807 := by have := L0.out; have := L1.out; simp; omega
          obtain ⟨ab, cb, hv, hsb⟩ := sees_own HR.out.1 hnb
          subst hv
          have hsb' : Sees wr ab (m.reverse.length + (l.length - 0)) (l ++ m).reverse := by simpa using hsb
          have SB := Lib.hid hsb'
          clear hsb hsb' hnb
          generalize m.reverse.length + (l.length - 0) = nb at *
          have hb0 : Below wr.heap.size wr (wr.alloc (.cells #[] 2)) := (Below.refl _ _).alloc (Nat.le_refl _) _
          have hw0 : Below w.heap.size w (wr.alloc (.cells #[] 2)) := HR.out.2.trans (hb0.mono (by have := HR.out.2.size; omega))
          have HO := Lib.hid (World.ownsRow_made (base := wr.heap.size) (e := 2) (size := 1) wr #[] 0 (Nat.le_refl _) (by decide) rfl)
          have HB0 := Lib.hid hb0
          have HW0 := Lib.hid hw0
          clear hb0 hw0
          go_wp2_with (at_builtin; refine append_arg rfl (.tmp 60) (.tmp 61) rfl wr.heap.size _ 0 [] rfl HO.out a0 len0 cap0 l rfl (G0.out.later HW0.out) ?e2 ?e3 ?_)
          case e2 => omega
          case e3 => simp
          intro v1 w1 ho1 hb1
          have HW1 := Lib.hid (HW0.out.trans (hb1.mono (by have := HR.out.2.size; omega)))
          have HB1 := Lib.hid (HB0.out.trans hb1)
          have HO1 := Lib.hid ho1
          clear ho1 hb1 HB0 HW0 HO
          go_wp2_with (at_builtin; refine append_arg rfl (.tmp 62) (.tmp 63) rfl wr.heap.size _ _ _ rfl HO1.out a1 len1 cap1 m rfl (G1.out.later HW1.out) ?f2 ?f3 ?_)
          case f2 => omega
          case f3 => exact HB1.out.size
          intro v2 w2 ho2 hb2
          have HW2 := Lib.hid (HW1.out.trans (hb2.mono (by have := HR.out.2.size; omega)))
          have HB2 := Lib.hid (HB1.out.trans hb2)
          obtain ⟨av, cv, rfl, hs2⟩ := sees_own ho2 (by omega)
          have HS2 := Lib.hid hs2
          clear ho2 hb2 hs2 HB1 HW1 HO1
          go_wp2_with fail
          refine (sum_any _ _ _ (l ++ m) _ HS2.out).mono ?_
          rintro e w' ⟨rfl, rfl⟩
          go_wp2_with fail
          refine (sum_any _ _ _ (l ++ m).reverse _ (SB.out.later HB2.out)).mono ?_
          rw [sumV_reverse, sumB_reverse]
          rintro e w' ⟨rfl, rfl⟩
          go_wp2_with fail
          refine (sum_any _ _ _ l _ (S0.out.later HW2.out)).mono ?_
          rintro e w' ⟨rfl, rfl⟩
          go_wp2_with fail
          refine (sum_any _ _ _ m _ (S1.out.later HW2.out)).mono ?_
          rintro e w' ⟨rfl, rfl⟩
          go_wp2_with fail
          refine (plus_any _ _ _).mono ?_
          rintro e w' ⟨rfl, rfl⟩
          have q1 := sumB_append l m
          have q2 := sumV_append l m
          generalize sumV (l ++ m) = av' at *
          generalize plusV (sumV l) (sumV m) = zv at *
          generalize plusB (sumV l) (sumV m) = zb at *
          generalize sumB (l ++ m) = ok at *
          generalize sumB l = pb at *
          generalize sumB m = qb at *
          generalize sumV l = xv at *
          generalize sumV m = yv at *
          clear S0 S1 G0 G1 SB HS2 HB2 HR L0 L1 k0 k1 h0 h1
          subst q1
          have hcases : pb = false ∨ (pb = true ∧ qb = false) ∨ (pb = true ∧ qb = true ∧ zb = false) ∨ (pb = true ∧ qb = true ∧ zb = true ∧ av' = zv) := by
            cases pb <;> cases qb <;> cases zb <;> simp_all
          clear q2
          rcases hcases with rfl | ⟨rfl, rfl⟩ | ⟨rfl, rfl, rfl⟩ | ⟨rfl, rfl, rfl, rfl⟩
          all_goals
            go_wp2_with fail
            by_cases hn1 : n < 5
            · refine (clamp_any _ _ _ _).mono ?_
              rw [show clampV n 5 90 = 5 from by simp [clampV, hn1]]
              rintro e w' ⟨rfl, rfl⟩
              have hn2 : ((5 : Int) == n) = false := by simp; omega
              go_wp2_with fail
              refine (awake_any _).mono ?_
              rintro e w' ⟨rfl, hb⟩
              go_wp2_with fail
              go_ret
              exact ⟨rfl, HW2.out.trans (hb.mono HW2.out.size)⟩
            · by_cases hn3 : 90 < n
              · refine (clamp_any _ _ _ _).mono ?_
                rw [show clampV n 5 90 = 90 from by simp [clampV, hn1, hn3]]
                rintro e w' ⟨rfl, rfl⟩
                have hn2 : ((90 : Int) == n) = false := by simp; omega
                have hn4 : decide (n < 5) = false := by simp; omega
                go_wp2_with fail
                refine (awake_any _).mono ?_
                rintro e w' ⟨rfl, hb⟩
                go_wp2_with fail
                go_ret
                exact ⟨rfl, HW2.out.trans (hb.mono HW2.out.size)⟩
              · refine (clamp_any _ _ _ _).mono ?_
                rw [show clampV n 5 90 = n from by simp [clampV, hn1, hn3]]
                rintro e w' ⟨rfl, rfl⟩
                have hn4 : 5 ≤ n := by omega
                have hn5 : n ≤ 90 := by omega
                go_wp2_with fail
                refine (awake_any _).mono ?_
                rintro e w' ⟨rfl, hb⟩
                go_wp2_with fail
                go_ret
                exact ⟨rfl, HW2.out.trans (hb.mono HW2.out.size)⟩
        · rw [show (((j + 1 : Nat) : Int) - 1) = (j : Int) from by omega] at hi
          obtain rfl := hi
          obtain ⟨_, _, hz | ⟨b, off, rfl, hc⟩⟩ := S0.out.later hR.2
          · omega
          have hcell := hc j (by omega)
          clear hc
          have hjm : j < l.length := by rw [L0.out]; omega
          have HR := Lib.hid hR
          clear hR
          have hjl : j < len0 := by omega
          generalize hz : l.getD j 0 = z at *
          have HZ := Lib.hid hz
          clear hz
          go_wp2_with (at_builtin; refine append_arg rfl _ _ rfl w.heap.size _ _ _ rfl (HR.out.1.alloc _) (some ⟨_, 0, none⟩) 1 1 [z] rfl (arg_one _ z) ?d2 ?d3 ?_)
          case d2 => have := L1.out; have := L0.out; simp; omega
          case d3 => have := HR.out.2.size; simp; omega
          intro v' w1 ho hb
          rw [← HZ.out] at ho
          have HR' := Lib.hid (HR.out.step hjm _ (by simpa [L1.out, L0.out] using ho) hb)
          clear ho hb
          go_wp2_with fail
          go_roundw
          case rel => exact ⟨j, by omega, rfl, HR'.out⟩
          case measure => simp [intOf]
    · rw [show (((j + 1 : Nat) : Int) - 1) = (j : Int) from by omega] at hi
      obtain rfl := hi
      obtain ⟨_, _, hz | ⟨b, off, rfl, hc⟩⟩ := S1.out.later hR.2
      · omega
      have hcell := hc j (by omega)
      clear hc
      have hjm : j < m.length := by rw [L1.out]; omega
      have HR := Lib.hid hR
      clear hR
      have hjl : j < len1 := by omega
      generalize hz : m.getD j 0 = z at *
      have HZ := Lib.hid hz
      clear hz
      go_wp2_with (at_builtin; refine append_arg rfl _ _ rfl w.heap.size _ _ _ rfl (HR.out.1.alloc _) (some ⟨_, 0, none⟩) 1 1 [z] rfl (arg_one _ z) ?c2 ?c3 ?_)
      case c2 => have := L1.out; simp; omega
      case c3 => have := HR.out.2.size; simp; omega
      intro v' w1 ho hb
      rw [← HZ.out] at ho
      have HR' := Lib.hid (HR.out.step hjm _ (by simpa [L1.out] using ho) hb)
      clear ho hb
      go_wp2_with fail
      go_roundw
      case rel => exact ⟨j, by omega, rfl, HR'.out⟩
      case measure => simp [intOf]
end Go.Proofs.Ytgoeljfofmnldaa
