/-
  The walk of the reference's words.
-/
import Derived.Test.YtcccgcahmnmchaaDoorShaRefB
namespace Go.Proofs.YtcccgcahmnmchaaDoor
open Go.RowKit StrM ShaM

theorem oneU64 : OneCell Tryd.prog 44 35 (.int .u64 0) 8 := ⟨Tryd.underlying44, by kernel_rfl, rfl⟩

/-- append of one element, which the walk lays in a block of its own, as one step of a region that draws its order. -/
theorem step_append_one {P : Program} {t e : TypeId} {z : Value} {bytes : Nat} (H : OneCell P t e z bytes) {w : World} {ops : Array Oper} {o : Oper} {a : Act} {K : Act → World → Prop} {Q : Exit → Act → World → Prop} {E : Prop} (hgd : o.guard = none) (s x : Operand)
    (ho : o.op = .call { callee := .builtin .append, args := #[s, x], argTypes := #[t, t] })
    (base : Nat) (v : Value) (n : Nat) (xs : List Value) (hs : a.eval s = v) (hown : w.ownsRow base e 1 v n xs)
    (u : Value) (hu : u.oneCell' = true) (hx : a.eval x = .slice (some ⟨w.heap.size, 0, none⟩) 1 1)
    (hbound : (n + 1) * bytes ≤ 140737488355328) (hn : n + 1 ≤ maxLen) (hbase : base ≤ w.heap.size)
    (h : ∀ v' w', w'.ownsRow base e 1 v' (n + 1) (xs ++ [u]) → Below base w w' → K (a.put o.dst v') w') :
    if Region.wanted o (yielded ops a.tmps) = true then Oper.wp P o a (w.alloc (.cells #[u] e)) K Q else E := by
  obtain ⟨i0, hi, hz0, hz1, hz2⟩ := info_parts H.info
  have hw : Region.wanted o (yielded ops a.tmps) = true := by simp [Region.wanted, hgd]
  rw [if_pos hw]
  refine wp_append_own (w.alloc (.cells #[u] e)) s x t ho base e i0 z 1 bytes H.under hi hz0 hz1 hz2 H.cells (by decide) v n xs hs (hown.alloc _) ⟨w.heap.size, 0, none⟩ 1 1 [u] hx rfl (fun j c hj => ?_) (fun c hc => ?_) hn hbound (by simp; omega) ?_
  · match j, hj with
    | 0, hj => simp at hj; subst hj; simp [Addr.add]
  · have : c = u := by simpa using hc
    subst this; exact hu
  · intro v' w' h1 h2 _
    exact h v' w' h1 (((Below.refl _ _).alloc hbase _).grown h2 (by simp; omega) fun k hk => (hown.lt k hk).1)

/-- How far words has come. -/
def WRel (w : World) (b : List UInt8) (i : Nat) (v : Value) (wr : World) : Prop := wr.ownsRow w.heap.size 35 1 v i (u64s (sched b i)) ∧ Below w.heap.size w wr
theorem WRel.drewN {w wr : World} {b : List UInt8} {i : Nat} {v : Value} (h : WRel w b i v wr) (n : Nat) : WRel w b i v (wr.drewN n) :=
  ⟨h.1, ⟨h.2.os, h.2.tape, h.2.output, h.2.size, h.2.block⟩⟩
theorem WRel.drew {w wr : World} {b : List UInt8} {i : Nat} {v : Value} (h : WRel w b i v wr) : WRel w b i v wr.drew := ⟨h.1, h.2.drew⟩
theorem WRel.step {w wr w2 : World} {b : List UInt8} {i : Nat} {v v' : Value} (h : WRel w b i v wr) {x : Int} (hx : x = ((nextW b (sched b i) i : Nat) : Int)) (h1 : w2.ownsRow w.heap.size 35 1 v' (i + 1) (u64s (sched b i) ++ [.int .u64 x])) (h2 : Below w.heap.size wr w2) : WRel w b (i + 1) v' w2 := by
  subst hx
  refine ⟨?_, h.2.trans h2⟩
  have e : u64s (sched b (i + 1)) = u64s (sched b i) ++ [.int .u64 ((nextW b (sched b i) i : Nat) : Int)] := by simp [u64s, sched]
  rw [e]; exact h1
theorem WRel.form {w wr : World} {b : List UInt8} {i : Nat} {v : Value} (h : WRel w b i v wr) (hi : 0 < i) : ∃ g cap, v = .slice (some ⟨g, 0, none⟩) i cap ∧ ∀ W, WRel w b i v W → ∀ j, j < i → W.cell? ⟨g, j, none⟩ = some (.int .u64 (((sched b i).getD j 0 : Nat) : Int)) := by
  rcases own_form h.1 with ⟨_, h0, _⟩ | ⟨g, cap, rfl, _, _, _, _⟩
  · omega
  · refine ⟨g, cap, rfl, fun W hW j hj => ?_⟩
    rcases own_form hW.1 with ⟨h0, _, _⟩ | ⟨g', cap', e, _, _, _, hc⟩
    · cases h0
    · injection e with e1 e2 e3
      injection e1 with e1
      injection e1 with e1 _ _
      subst e1
      have hl : j < (u64s (sched b i)).length := by rw [u64s_len, sched_len]; exact hj
      rw [hc j hl]
      have := u64s_at (l := sched b i) (i := j) (by rw [sched_len]; exact hj)
      rw [List.getElem?_eq_getElem hl] at this
      exact this
theorem turnW {x : Nat} {m : Int} {w W : World} {b : List UInt8} {i : Nat} {v : Value} (hx : x < 4294967296) (h0 : 0 < m) (hn : m < 32) (hW : WRel w b i v W) :
    Calls Tryd.prog 21 #[.int .u64 (x : Int), .int .i64 m] W fun e w' => e = .returned (.int .u64 ((rotr x m.toNat : Nat) : Int)) ∧ WRel w b i v w' :=
  (turnI hx h0 hn).mono fun _ _ h => ⟨h.1, by obtain ⟨k, hk⟩ := h.2; rw [hk]; exact hW.drewN k⟩
theorem s0_bits64 {x : Nat} (h : x < 4294967296) : bits .xor .u64 (bits .xor .u64 ((rotr x 7 : Nat) : Int) ((rotr x 18 : Nat) : Int)) ((x : Int) / 8) = ((s0 x : Nat) : Int) := by
  rw [xor64 (rotr_lt h (by decide)) (rotr_lt h (by decide)), show (x : Int) / 8 = ((x / 8 : Nat) : Int) by omega, xor64 (xor_lt (rotr_lt h (by decide)) (rotr_lt h (by decide))) (by omega)]; rfl
theorem s1_bits64 {x : Nat} (h : x < 4294967296) : bits .xor .u64 (bits .xor .u64 ((rotr x 17 : Nat) : Int) ((rotr x 19 : Nat) : Int)) ((x : Int) / 1024) = ((s1 x : Nat) : Int) := by
  rw [xor64 (rotr_lt h (by decide)) (rotr_lt h (by decide)), show (x : Int) / 1024 = ((x / 1024 : Nat) : Int) by omega, xor64 (xor_lt (rotr_lt h (by decide)) (rotr_lt h (by decide))) (by omega)]; rfl

theorem wraps4 {c0 c1 c2 c3 : Nat} (h0 : c0 < 256) (h1 : c1 < 256) (h2 : c2 < 256) (h3 : c3 < 256) :
    IntKind.u64.wrap (IntKind.u64.wrap (IntKind.u64.wrap (IntKind.u64.wrap (IntKind.u64.wrap (IntKind.u64.wrap (IntKind.u64.wrap (c0 : Int) * 256) + IntKind.u64.wrap (c1 : Int)) * 256) + IntKind.u64.wrap (c2 : Int)) * 256) + IntKind.u64.wrap (c3 : Int)) = ((((c0 * 256 + c1) * 256 + c2) * 256 + c3 : Nat) : Int) := by
  rw [wrap_u64 (show c0 < 4294967296 by omega), wrap_u64 (show c1 < 4294967296 by omega), wrap_u64 (show c2 < 4294967296 by omega), wrap_u64 (show c3 < 4294967296 by omega),
    show (c0 : Int) * 256 = ((c0 * 256 : Nat) : Int) by omega, wrap_u64 (show c0 * 256 < 4294967296 by omega),
    show ((c0 * 256 : Nat) : Int) + (c1 : Int) = ((c0 * 256 + c1 : Nat) : Int) by omega, wrap_u64 (show c0 * 256 + c1 < 4294967296 by omega),
    show ((c0 * 256 + c1 : Nat) : Int) * 256 = (((c0 * 256 + c1) * 256 : Nat) : Int) by omega, wrap_u64 (show (c0 * 256 + c1) * 256 < 4294967296 by omega),
    show (((c0 * 256 + c1) * 256 : Nat) : Int) + (c2 : Int) = (((c0 * 256 + c1) * 256 + c2 : Nat) : Int) by omega, wrap_u64 (show (c0 * 256 + c1) * 256 + c2 < 4294967296 by omega),
    show (((c0 * 256 + c1) * 256 + c2 : Nat) : Int) * 256 = ((((c0 * 256 + c1) * 256 + c2) * 256 : Nat) : Int) by omega, wrap_u64 (show ((c0 * 256 + c1) * 256 + c2) * 256 < 4294967296 by omega),
    show ((((c0 * 256 + c1) * 256 + c2) * 256 : Nat) : Int) + (c3 : Int) = ((((c0 * 256 + c1) * 256 + c2) * 256 + c3 : Nat) : Int) by omega, wrap_u64 (show ((c0 * 256 + c1) * 256 + c2) * 256 + c3 < 4294967296 by omega)]

theorem wraps_sum {a b c d : Nat} (h0 : a < 4294967296) (h1 : b < 4294967296) (h2 : c < 4294967296) (h3 : d < 4294967296) :
    (IntKind.u64.wrap (IntKind.u64.wrap (IntKind.u64.wrap ((a : Int) + (b : Int)) + (c : Int)) + (d : Int))).tmod 4294967296 = (((a + b + c + d) % 4294967296 : Nat) : Int) := by
  have e : ∀ n : Nat, n < 18446744073709551616 → IntKind.u64.wrap (n : Int) = (n : Int) := fun n hn => by
    simp [IntKind.wrap, IntKind.bits, IntKind.signed]; omega
  rw [show (a : Int) + (b : Int) = ((a + b : Nat) : Int) by omega, e _ (by omega), show ((a + b : Nat) : Int) + (c : Int) = ((a + b + c : Nat) : Int) by omega, e _ (by omega),
    show ((a + b + c : Nat) : Int) + (d : Int) = ((a + b + c + d : Nat) : Int) by omega, e _ (by omega), Int.tmod_eq_emod_of_nonneg (by omega)]
  omega

/-- What words returns: a row of the call's own. -/
def WPost (b : List UInt8) (w : World) (e : Ending) (w' : World) : Prop := ∃ v, e = .returned v ∧ WRel w b 64 v w'

set_option maxHeartbeats 1000000 in
set_option maxRecDepth 100000 in
theorem words_any (v : Value) (b : List UInt8) (w : World) (hs : SeesV w v (bys b)) (hb : b.length = 64) : Calls Tryd.prog 20 #[v] w (WPost b w) := by
  obtain ⟨A, cap, rfl, hs⟩ := hs
  rcases hs with h0 | ⟨g, off, rfl, hg, hc⟩
  · have := congrArg List.length h0
    rw [bys_len, List.length_nil] at this; omega
  rw [bys_len, hb]
  have HC : Hid (∀ k, k < 64 → w.cell? ⟨g, off + k, none⟩ = some (.int .u8 (((b.getD k 0).toNat : Nat) : Int))) := Lib.hid fun k hk => by
    rw [hc k (by rw [bys_len]; omega)]
    have := bys_at (l := b) (i := k) (by omega)
    rw [List.getElem?_eq_getElem (by rw [bys_len]; omega)] at this
    exact this
  clear hb hc
  have H0 := Lib.hid (show WRel w b 0 (.slice (some ⟨w.heap.size, 0, none⟩) 0 0) (w.alloc (.cells #[] 35)) from ⟨own_made w _, below_made w _⟩)
  go_enter Tryd.func20, Tryd.ntmps20
  go_wp2_with fail
  go_loopw [4, 3] (fun x v wr => ∃ i : Nat, i ≤ 64 ∧ x = .int .i64 (i : Int) ∧ WRel w b i v wr) (fun x _ _ => 64 - (intOf x).toNat)
  case atStart => exact ⟨0, by omega, rfl, H0.out⟩
  case round =>
    obtain ⟨i, hi, rfl, hR⟩ := hrel
    have HR := Lib.hid hR
    have hsz := hR.2.size
    clear hR H0
    by_cases hlt : i < 16
    · have hi64 : i < 64 := by omega
      have hc0 := (HR.out.2.cell (p := ⟨g, off + 4 * i, none⟩) hg).trans (HC.out (4 * i) (by omega))
      have hc1 := (HR.out.2.cell (p := ⟨g, off + (4 * i + 1), none⟩) hg).trans (HC.out (4 * i + 1) (by omega))
      have hc2 := (HR.out.2.cell (p := ⟨g, off + (4 * i + 2), none⟩) hg).trans (HC.out (4 * i + 2) (by omega))
      have hc3 := (HR.out.2.cell (p := ⟨g, off + (4 * i + 3), none⟩) hg).trans (HC.out (4 * i + 3) (by omega))
      have b0 := (b.getD (4 * i) 0).toNat_lt
      have b1 := (b.getD (4 * i + 1) 0).toNat_lt
      have b2 := (b.getD (4 * i + 2) 0).toNat_lt
      have b3 := (b.getD (4 * i + 3) 0).toNat_lt
      obtain ⟨c0, e0⟩ : ∃ c, c = (b.getD (4 * i) 0).toNat := ⟨_, rfl⟩
      obtain ⟨c1, e1⟩ : ∃ c, c = (b.getD (4 * i + 1) 0).toNat := ⟨_, rfl⟩
      obtain ⟨c2, e2⟩ : ∃ c, c = (b.getD (4 * i + 2) 0).toNat := ⟨_, rfl⟩
      obtain ⟨c3, e3⟩ : ∃ c, c = (b.getD (4 * i + 3) 0).toNat := ⟨_, rfl⟩
      rw [← e0] at hc0 b0
      rw [← e1] at hc1 b1
      rw [← e2] at hc2 b2
      rw [← e3] at hc3 b3
      have HV := Lib.hid (show ((((c0 * 256 + c1) * 256 + c2) * 256 + c3 : Nat) : Int) = ((nextW b (sched b i) i : Nat) : Int) by
        rw [e0, e1, e2, e3]; unfold nextW be4; rw [if_pos hlt])
      clear e0 e1 e2 e3
      have w0 : IntKind.i64.wrap (4 * (i : Int)) = 4 * (i : Int) := IntWalk.i64_in _ (by omega)
      have w1 : IntKind.i64.wrap (4 * (i : Int) + 1) = 4 * (i : Int) + 1 := IntWalk.i64_in _ (by omega)
      have w2 : IntKind.i64.wrap (4 * (i : Int) + 2) = 4 * (i : Int) + 2 := IntWalk.i64_in _ (by omega)
      have w3 : IntKind.i64.wrap (4 * (i : Int) + 3) = 4 * (i : Int) + 3 := IntWalk.i64_in _ (by omega)
      have n0 : (4 * (i : Int)).toNat = 4 * i := by omega
      have n1 : (4 * (i : Int) + 1).toNat = 4 * i + 1 := by omega
      have n2 : (4 * (i : Int) + 2).toNat = 4 * i + 2 := by omega
      have n3 : (4 * (i : Int) + 3).toNat = 4 * i + 3 := by omega
      have p0 : 0 ≤ 4 * (i : Int) := by omega
      have p1 : 0 ≤ 4 * (i : Int) + 1 := by omega
      have p2 : 0 ≤ 4 * (i : Int) + 2 := by omega
      have p3 : 0 ≤ 4 * (i : Int) + 3 := by omega
      have q0 : 4 * (i : Int) < 64 := by omega
      have q1 : 4 * (i : Int) + 1 < 64 := by omega
      have q2 : 4 * (i : Int) + 2 < 64 := by omega
      have q3 : 4 * (i : Int) + 3 < 64 := by omega
      have h1 : (i + 1) * 8 ≤ 140737488355328 := by omega
      have h2 : i + 1 ≤ maxLen := by unfold maxLen; omega
      have h3 : w.heap.size ≤ wr.drew.heap.size := hsz
      go_wp2_with fail
      go_region_held3 (fun w' => w'.cell? ⟨g, off + 4 * i, none⟩ = some (.int .u8 (c0 : Int)) ∧ w'.cell? ⟨g, off + (4 * i + 1), none⟩ = some (.int .u8 (c1 : Int)) ∧ w'.cell? ⟨g, off + (4 * i + 2), none⟩ = some (.int .u8 (c2 : Int)) ∧ w'.cell? ⟨g, off + (4 * i + 3), none⟩ = some (.int .u8 (c3 : Int)))
        (first | go_keep | exact ⟨(hbw.cell (p := ⟨g, off + 4 * i, none⟩) hg).trans hc0, (hbw.cell (p := ⟨g, off + (4 * i + 1), none⟩) hg).trans hc1, (hbw.cell (p := ⟨g, off + (4 * i + 2), none⟩) hg).trans hc2, (hbw.cell (p := ⟨g, off + (4 * i + 3), none⟩) hg).trans hc3⟩ | fail)
        (first
          | (refine step_append_one oneU64 rfl (.tmp 16) (.tmp 50) rfl w.heap.size _ i _ (by simp [Act.eval]) HR.out.1.drew _ rfl (by simp [Act.eval]) h1 h2 h3 ?_; intro v' w4 ho hbw))
      all_goals
        have HR' := Lib.hid (HR.out.drew.step (x := _) (by rw [wraps4 b0 b1 b2 b3]; exact HV.out) ho hbw)
        clear ho hbw w0 w1 w2 w3 n0 n1 n2 n3 hc0 hc1 hc2 hc3
        go_wp2_with fail
        go_roundw
        case rel => exact ⟨i + 1, by omega, by go_num, HR'.out⟩
        case measure => simp [intOf]; omega
    · by_cases hlt2 : i < 64
      · obtain ⟨gr, cap2, hv, hcell⟩ := HR.out.form (by omega)
        subst hv
        have HCELL := Lib.hid hcell
        clear hcell
        have c2 := HCELL.out _ HR.out (i - 2) (by omega)
        have c15 := HCELL.out _ HR.out (i - 15) (by omega)
        have l2 := getD_lt (sched_lt b i) (i - 2)
        have l7 := getD_lt (sched_lt b i) (i - 7)
        have l15 := getD_lt (sched_lt b i) (i - 15)
        have l16 := getD_lt (sched_lt b i) (i - 16)
        obtain ⟨x2, e2⟩ : ∃ c, c = (sched b i).getD (i - 2) 0 := ⟨_, rfl⟩
        obtain ⟨x7, e7⟩ : ∃ c, c = (sched b i).getD (i - 7) 0 := ⟨_, rfl⟩
        obtain ⟨x15, e15⟩ : ∃ c, c = (sched b i).getD (i - 15) 0 := ⟨_, rfl⟩
        obtain ⟨x16, e16⟩ : ∃ c, c = (sched b i).getD (i - 16) 0 := ⟨_, rfl⟩
        rw [← e2] at c2 l2
        rw [← e7] at l7
        rw [← e15] at c15 l15
        rw [← e16] at l16
        have E7 := Lib.hid e7
        have E16 := Lib.hid e16
        have HV := Lib.hid (show (((x16 + x7 + s0 x15 + s1 x2) % 4294967296 : Nat) : Int) = ((nextW b (sched b i) i : Nat) : Int) by
          rw [e2, e7, e15, e16]; unfold nextW; rw [if_neg hlt])
        clear e2 e7 e15 e16
        have r2 : 2 ≤ (i : Int) := by omega
        have r7 : 7 ≤ (i : Int) := by omega
        have r15 : 15 ≤ (i : Int) := by omega
        have r16 : 16 ≤ (i : Int) := by omega
        have p2 : 0 ≤ (i : Int) - 2 := by omega
        have p7 : 0 ≤ (i : Int) - 7 := by omega
        have p15 : 0 ≤ (i : Int) - 15 := by omega
        have p16 : 0 ≤ (i : Int) - 16 := by omega
        have q2 : (i : Int) - 2 < (i : Int) := by omega
        have q7 : (i : Int) - 7 < (i : Int) := by omega
        have q15 : (i : Int) - 15 < (i : Int) := by omega
        have q16 : (i : Int) - 16 < (i : Int) := by omega
        have h1 : (i + 1) * 8 ≤ 140737488355328 := by omega
        have h2 : i + 1 ≤ maxLen := by unfold maxLen; omega
        have w2 : IntKind.i64.wrap ((i : Int) - 2) = (i : Int) - 2 := IntWalk.i64_in _ (by omega)
        have w7 : IntKind.i64.wrap ((i : Int) - 7) = (i : Int) - 7 := IntWalk.i64_in _ (by omega)
        have w15 : IntKind.i64.wrap ((i : Int) - 15) = (i : Int) - 15 := IntWalk.i64_in _ (by omega)
        have w16 : IntKind.i64.wrap ((i : Int) - 16) = (i : Int) - 16 := IntWalk.i64_in _ (by omega)
        have n2 : ((i : Int) - 2).toNat = i - 2 := by omega
        have n7 : ((i : Int) - 7).toNat = i - 7 := by omega
        have n15 : ((i : Int) - 15).toNat = i - 15 := by omega
        have n16 : ((i : Int) - 16).toNat = i - 16 := by omega
        go_wp2_with fail
        go_quiet (fail)
        have hWq := HR.out.drewN nq
        clear c2 c15 HR
        generalize wr.drewN nq = wq at hWq ⊢
        go_wp2_with ((go_at_call 21; with_reducible refine (turnW (by assumption) (by decide) (by decide) (by assumption)).mono ?_; rintro e wt ⟨rfl, hWt⟩))
        rw [s0_bits64 l15, s1_bits64 l2]
        have c7 := HCELL.out _ hWt (i - 7) (by omega)
        have c16 := HCELL.out _ hWt (i - 16) (by omega)
        rw [← E7.out] at c7
        rw [← E16.out] at c16
        have l0 := s0_lt l15
        have l1 := s1_lt l2
        obtain ⟨y0, ey0⟩ : ∃ y, y = s0 x15 := ⟨_, rfl⟩
        obtain ⟨y1, ey1⟩ : ∃ y, y = s1 x2 := ⟨_, rfl⟩
        rw [← ey0, ← ey1]
        rw [← ey0] at l0
        rw [← ey1] at l1
        have EY0 := Lib.hid ey0
        have EY1 := Lib.hid ey1
        clear ey0 ey1
        have h3 : w.heap.size ≤ wt.drew.heap.size := hWt.2.size
        go_region_law (first | (refine step_append_one oneU64 rfl (.tmp 78) (.tmp 95) rfl w.heap.size _ i _ (by simp [Act.eval]) hWt.drew.1 _ rfl (by simp [Act.eval]) h1 h2 h3 ?_; intro v' w4 ho hbw))
        all_goals
          have HR' := Lib.hid (hWt.drew.step (x := _) (by rw [wraps_sum l16 l7 l0 l1, EY0.out, EY1.out]; exact HV.out) ho hbw)
          clear ho hbw w2 w7 w15 w16 n2 n7 n15 n16 c7 c16
          go_wp2_with fail
          go_roundw
          case rel => exact ⟨i + 1, by omega, by go_num, HR'.out⟩
          case measure => simp [intOf]; omega
      · have H64 := Lib.hid (show i = 64 by omega)
        have HF := Lib.hid (show WPost b w (.returned u3) wr from ⟨u3, rfl, by have := HR.out; rwa [H64.out] at this⟩)
        go_wp2_with fail
        go_ret
        exact HF.out
end Go.Proofs.YtcccgcahmnmchaaDoor
