/-
  The walk of sha.expand.
-/
import Derived.Test.YtcccgcahmnmchaaDoorShaRot
import Derived.StillTailTactics
namespace Go.Proofs.YtcccgcahmnmchaaDoor
open Go.RowKit StrM ShaM

/-- The first i numbers of a block, then zeros: 64 in all. -/
def fill64 (b : List UInt8) (i : Nat) : List Nat := sched b i ++ List.replicate (64 - i) 0
theorem fill64_len (b : List UInt8) {i : Nat} (h : i ≤ 64) : (fill64 b i).length = 64 := by simp [fill64, sched_len]; omega
theorem fill64_set (b : List UInt8) {i : Nat} (h : i < 64) : (fill64 b i).set i (nextW b (sched b i) i) = fill64 b (i + 1) := by
  unfold fill64
  rw [List.set_append_right _ _ (by rw [sched_len]; exact Nat.le_refl _), sched_len, Nat.sub_self]
  obtain ⟨k, hk⟩ : ∃ k, 64 - i = k + 1 := ⟨63 - i, by omega⟩
  rw [hk, show 64 - (i + 1) = k by omega, List.replicate_succ, List.set_cons_zero]
  simp [sched]
theorem fill64_at (b : List UInt8) {i j : Nat} (h : j < i) : (fill64 b i).getD j 0 = (sched b i).getD j 0 := by
  unfold fill64
  rw [List.getD_eq_getElem?_getD, List.getElem?_append_left (by rw [sched_len]; exact h), ← List.getD_eq_getElem?_getD]
theorem fill64_done (b : List UInt8) : fill64 b 64 = sched b 64 := by simp [fill64]

/-- A word out of its four bytes, as the program puts it together. -/
theorem or4 {c0 c1 c2 c3 : Nat} (h0 : c0 < 256) (h1 : c1 < 256) (h2 : c2 < 256) (h3 : c3 < 256) :
    bits .or .u32 (bits .or .u32 (bits .or .u32 ((c0 : Int) * 16777216) ((c1 : Int) * 65536)) ((c2 : Int) * 256)) (c3 : Int) = ((((c0 * 256 + c1) * 256 + c2) * 256 + c3 : Nat) : Int) := by
  have a1 : c0 * 16777216 ||| c1 * 65536 = c0 * 16777216 + c1 * 65536 := by
    rw [Nat.mul_comm c0, show (16777216 : Nat) = 2 ^ 24 from rfl, ← Nat.two_pow_add_eq_or_of_lt (by omega : c1 * 65536 < 2 ^ 24)]
  have a2 : (c0 * 16777216 + c1 * 65536) ||| c2 * 256 = c0 * 16777216 + c1 * 65536 + c2 * 256 := by
    rw [show c0 * 16777216 + c1 * 65536 = 2 ^ 16 * (c0 * 256 + c1) by omega, ← Nat.two_pow_add_eq_or_of_lt (by omega : c2 * 256 < 2 ^ 16)]
  have a3 : (c0 * 16777216 + c1 * 65536 + c2 * 256) ||| c3 = c0 * 16777216 + c1 * 65536 + c2 * 256 + c3 := by
    rw [show c0 * 16777216 + c1 * 65536 + c2 * 256 = 2 ^ 8 * (c0 * 65536 + c1 * 256 + c2) by omega, ← Nat.two_pow_add_eq_or_of_lt (by omega : c3 < 2 ^ 8)]
  have e1 := or32 (x := c0 * 16777216) (y := c1 * 65536) (by omega) (by omega)
  rw [a1] at e1
  have e2 := or32 (x := c0 * 16777216 + c1 * 65536) (y := c2 * 256) (by omega) (by omega)
  rw [a2] at e2
  have e3 := or32 (x := c0 * 16777216 + c1 * 65536 + c2 * 256) (y := c3) (by omega) (by omega)
  rw [a3] at e3
  rw [show (c0 : Int) * 16777216 = ((c0 * 16777216 : Nat) : Int) by omega, show (c1 : Int) * 65536 = ((c1 * 65536 : Nat) : Int) by omega, show (c2 : Int) * 256 = ((c2 * 256 : Nat) : Int) by omega, e1, e2, e3]
  omega

theorem s0_bits {x : Nat} (h : x < 4294967296) : bits .xor .u32 (bits .xor .u32 ((rotr x 7 : Nat) : Int) ((rotr x 18 : Nat) : Int)) ((x : Int) / 8) = ((s0 x : Nat) : Int) := by
  rw [xor32 (rotr_lt h (by decide)) (rotr_lt h (by decide)), show (x : Int) / 8 = ((x / 8 : Nat) : Int) by omega, xor32 (xor_lt (rotr_lt h (by decide)) (rotr_lt h (by decide))) (by omega)]; rfl
theorem s1_bits {x : Nat} (h : x < 4294967296) : bits .xor .u32 (bits .xor .u32 ((rotr x 17 : Nat) : Int) ((rotr x 19 : Nat) : Int)) ((x : Int) / 1024) = ((s1 x : Nat) : Int) := by
  rw [xor32 (rotr_lt h (by decide)) (rotr_lt h (by decide)), show (x : Int) / 1024 = ((x / 1024 : Nat) : Int) by omega, xor32 (xor_lt (rotr_lt h (by decide)) (rotr_lt h (by decide))) (by omega)]; rfl

/-- How far expand has come. -/
def XRel (w : World) (b : List UInt8) (i : Nat) (wr : World) : Prop :=
  Below w.heap.size w wr ∧ Row wr w.heap.size 41 (u32s (List.replicate 64 0)) ∧ Row wr (w.heap.size + 1) 41 (u32s (fill64 b i))

theorem XRel.start (w : World) (b : List UInt8) : XRel w b 0 ((w.alloc (.cells (Array.replicate 64 (.int .u32 0)) 41)).alloc (.cells (Array.replicate 64 (.int .u32 0)) 41)) := by
  have e : (Array.replicate 64 (.int .u32 0) : Array Value) = (u32s (List.replicate 64 0)).toArray := by rfl
  rw [e]
  refine ⟨((Below.refl _ _).alloc (Nat.le_refl _) _).alloc (by simp) _, (Row.new _ _ _).alloc _, ?_⟩
  have := Row.new (w.alloc (.cells (u32s (List.replicate 64 0)).toArray 41)) 41 (u32s (List.replicate 64 0))
  simpa [fill64, sched] using this

theorem XRel.step {w wr : World} {b : List UInt8} {i : Nat} (h : XRel w b i wr) (hi : i < 64) {x : Int} (hx : x = ((nextW b (sched b i) i : Nat) : Int)) :
    XRel w b (i + 1) (wr.setCell ⟨w.heap.size + 1, i, none⟩ (.int .u32 x)).drew := by
  subst hx
  refine ⟨(h.1.setCell (by simp) _).drew, h.2.1.far (p := ⟨w.heap.size + 1, i, none⟩) (by simp) _, ?_⟩
  have := h.2.2.set i (.int .u32 ((nextW b (sched b i) i : Nat) : Int))
  rw [u32s_set, fill64_set b hi] at this
  exact this
theorem XRel.at_ {w wr : World} {b : List UInt8} {i j : Nat} (h : XRel w b i wr) (hi : i ≤ 64) (hj : j < 64) : wr.cell? ⟨w.heap.size + 1, j, none⟩ = some (.int .u32 (((fill64 b i).getD j 0 : Nat) : Int)) := by
  rw [h.2.2.cell, u32s_at (by rw [fill64_len b hi]; exact hj)]
theorem info64 : (Tryd.prog.info? 41).map (·.size) = some 64 := by kernel_rfl

theorem XRel.drewN {w wr : World} {b : List UInt8} {i : Nat} (h : XRel w b i wr) (n : Nat) : XRel w b i (wr.drewN n) :=
  ⟨⟨h.1.os, h.1.tape, h.1.output, h.1.size, h.1.block⟩, h.2.1, h.2.2⟩

theorem rot_at {x : Nat} {m : Int} {w : World} (hx : x < 4294967296) (h0 : 0 < m) (hn : m < 32) :
    Calls Tryd.prog 24 #[.int .u32 (x : Int), .int .i64 m] w fun e w' => e = .returned (.int .u32 ((rotr x m.toNat : Nat) : Int)) ∧ w' = w := by
  obtain ⟨n, rfl⟩ := Int.eq_ofNat_of_zero_le (Int.le_of_lt h0)
  exact (rotate_any x n w hx (by omega) (by omega)).mono fun _ _ h => ⟨h.1, h.2.symm⟩

set_option maxHeartbeats 1000000 in
set_option maxRecDepth 100000 in
theorem expand_any (v : Value) (b : List UInt8) (w : World) (hs : SeesV w v (bys b)) (hb : b.length = 64) :
    Calls Tryd.prog 19 #[v] w fun e w' => e = .returned (.agg (u32s (sched b 64)).toArray) ∧ Below w.heap.size w w' := by
  obtain ⟨A, cap, rfl, hs⟩ := hs
  rcases hs with h0 | ⟨g, off, rfl, hg, hc⟩
  · have := congrArg List.length h0
    rw [bys_len, List.length_nil] at this; omega
  rw [bys_len, hb]
  have HB := Lib.hid hb
  have HC : Hid (∀ k, k < 64 → w.cell? ⟨g, off + k, none⟩ = some (.int .u8 (((b.getD k 0).toNat : Nat) : Int))) := Lib.hid fun k hk => by
    rw [hc k (by rw [bys_len]; omega)]
    have := bys_at (l := b) (i := k) (by omega)
    rw [List.getElem?_eq_getElem (by rw [bys_len]; omega)] at this
    exact this
  obtain ⟨cs, hcs⟩ : ∃ cs, cs = u32s (sched b 64) := ⟨_, rfl⟩
  rw [← hcs]
  have HCS := Lib.hid hcs
  have HLEN := Lib.hid (show cs.length = 64 by rw [hcs, u32s_len, sched_len])
  have HONE := Lib.hid (show (cs.all fun x => x.oneCell') = true by rw [hcs]; exact u32s_one _)
  clear hb hc hcs
  go_enter Tryd.func19, Tryd.ntmps19
  go_wp2_with fail
  go_loopw [8] (fun x wr => ∃ i : Nat, i ≤ 16 ∧ x = .int .i64 (i : Int) ∧ XRel w b i wr) (fun x _ => 16 - (intOf x).toNat)
  case atStart => exact ⟨0, by omega, rfl, XRel.start w b⟩
  case round =>
    obtain ⟨i, hi, rfl, hR⟩ := hrel
    have HR := Lib.hid hR
    clear hR
    by_cases hlt : i < 16
    · have hfz := HR.out.2.2.frozen i
      have hst := HR.out.at_ (by omega) (show i < 64 by omega)
      have hc0 := (HR.out.1.cell (p := ⟨g, off + 4 * i, none⟩) hg).trans (HC.out (4 * i) (by omega))
      have hc1 := (HR.out.1.cell (p := ⟨g, off + (4 * i + 1), none⟩) hg).trans (HC.out (4 * i + 1) (by omega))
      have hc2 := (HR.out.1.cell (p := ⟨g, off + (4 * i + 2), none⟩) hg).trans (HC.out (4 * i + 2) (by omega))
      have hc3 := (HR.out.1.cell (p := ⟨g, off + (4 * i + 3), none⟩) hg).trans (HC.out (4 * i + 3) (by omega))
      have b0 := (b.getD (4 * i) 0).toNat_lt
      have b1 := (b.getD (4 * i + 1) 0).toNat_lt
      have b2 := (b.getD (4 * i + 2) 0).toNat_lt
      have b3 := (b.getD (4 * i + 3) 0).toNat_lt
      obtain ⟨c0, e0⟩ : ∃ c, c = (b.getD (4 * i) 0).toNat := ⟨_, rfl⟩
      obtain ⟨c1, e1⟩ : ∃ c, c = (b.getD (4 * i + 1) 0).toNat := ⟨_, rfl⟩
      obtain ⟨c2, e2⟩ : ∃ c, c = (b.getD (4 * i + 2) 0).toNat := ⟨_, rfl⟩
      obtain ⟨c3, e3⟩ : ∃ c, c = (b.getD (4 * i + 3) 0).toNat := ⟨_, rfl⟩
      rw [← e0] at hc0 b0
      rw [← e1] at hc1 b1
      rw [← e2] at hc2 b2
      rw [← e3] at hc3 b3
      have E0 := Lib.hid e0
      have E1 := Lib.hid e1
      have E2 := Lib.hid e2
      have E3 := Lib.hid e3
      clear e0 e1 e2 e3
      have w0 : IntKind.i64.wrap (4 * (i : Int)) = 4 * (i : Int) := IntWalk.i64_in _ (by omega)
      have w1 : IntKind.i64.wrap (4 * (i : Int) + 1) = 4 * (i : Int) + 1 := IntWalk.i64_in _ (by omega)
      have w2 : IntKind.i64.wrap (4 * (i : Int) + 2) = 4 * (i : Int) + 2 := IntWalk.i64_in _ (by omega)
      have w3 : IntKind.i64.wrap (4 * (i : Int) + 3) = 4 * (i : Int) + 3 := IntWalk.i64_in _ (by omega)
      have n0 : (4 * (i : Int)).toNat = 4 * i := by omega
      have n1 : (4 * (i : Int) + 1).toNat = 4 * i + 1 := by omega
      have n2 : (4 * (i : Int) + 2).toNat = 4 * i + 2 := by omega
      have n3 : (4 * (i : Int) + 3).toNat = 4 * i + 3 := by omega
      have p0 : 0 ≤ 4 * (i : Int) := by omega
      have p1 : 0 ≤ 4 * (i : Int) + 1 := by omega
      have p2 : 0 ≤ 4 * (i : Int) + 2 := by omega
      have p3 : 0 ≤ 4 * (i : Int) + 3 := by omega
      have q0 : 4 * (i : Int) < 64 := by omega
      have q1 : 4 * (i : Int) + 1 < 64 := by omega
      have q2 : 4 * (i : Int) + 2 < 64 := by omega
      have q3 : 4 * (i : Int) + 3 < 64 := by omega
      go_wp2_with fail
      go_still_tail 34, (by kernel_rfl)
      change wpList _ _ _ _ _ wr.drew
      go_wp2_with fail
      have HR' := Lib.hid (HR.out.step (by omega) (x := bits .or .u32 (bits .or .u32 (bits .or .u32 ((c0 : Int) * 16777216) ((c1 : Int) * 65536)) ((c2 : Int) * 256)) (c3 : Int)) (by
        rw [or4 b0 b1 b2 b3, E0.out, E1.out, E2.out, E3.out]; unfold nextW be4; rw [if_pos hlt]))
      go_roundw
      case rel => exact ⟨i + 1, by omega, by go_num, HR'.out⟩
      case measure => simp [intOf]; omega
    · have H16 := Lib.hid (show i = 16 by omega)
      have HR0 := Lib.hid (show XRel w b 16 wr by have := HR.out; rwa [H16.out] at this)
      clear HR H16
      go_wp2_with fail
      go_loopw [5] (fun x wr => ∃ i : Nat, 16 ≤ i ∧ i ≤ 64 ∧ x = .int .i64 (i : Int) ∧ XRel w b i wr) (fun x _ => 64 - (intOf x).toNat)
      case atStart => exact ⟨16, by omega, by omega, rfl, HR0.out⟩
      case round =>
        clear HR0
        obtain ⟨i, h16, hi, rfl, hR⟩ := hrel
        rename_i wr
        have HR := Lib.hid hR
        clear hR
        by_cases hlt2 : i < 64
        · have c2 := HR.out.at_ hi (show i - 2 < 64 by omega)
          have c15 := HR.out.at_ hi (show i - 15 < 64 by omega)
          rw [fill64_at b (by omega)] at c2 c15
          have l2 := getD_lt (sched_lt b i) (i - 2)
          have l7 := getD_lt (sched_lt b i) (i - 7)
          have l15 := getD_lt (sched_lt b i) (i - 15)
          have l16 := getD_lt (sched_lt b i) (i - 16)
          obtain ⟨x2, e2⟩ : ∃ c, c = (sched b i).getD (i - 2) 0 := ⟨_, rfl⟩
          obtain ⟨x7, e7⟩ : ∃ c, c = (sched b i).getD (i - 7) 0 := ⟨_, rfl⟩
          obtain ⟨x15, e15⟩ : ∃ c, c = (sched b i).getD (i - 15) 0 := ⟨_, rfl⟩
          obtain ⟨x16, e16⟩ : ∃ c, c = (sched b i).getD (i - 16) 0 := ⟨_, rfl⟩
          rw [← e2] at c2 l2
          rw [← e7] at l7
          rw [← e15] at c15 l15
          rw [← e16] at l16
          have E2 := Lib.hid e2
          have E7 := Lib.hid e7
          have E15 := Lib.hid e15
          have E16 := Lib.hid e16
          clear e2 e7 e15 e16
          have r2 : 2 ≤ (i : Int) := by omega
          have r7 : 7 ≤ (i : Int) := by omega
          have r15 : 15 ≤ (i : Int) := by omega
          have r16 : 16 ≤ (i : Int) := by omega
          have p2 : 0 ≤ (i : Int) - 2 := by omega
          have p7 : 0 ≤ (i : Int) - 7 := by omega
          have p15 : 0 ≤ (i : Int) - 15 := by omega
          have p16 : 0 ≤ (i : Int) - 16 := by omega
          have q2 : (i : Int) - 2 < 64 := by omega
          have q7 : (i : Int) - 7 < 64 := by omega
          have q15 : (i : Int) - 15 < 64 := by omega
          have q16 : (i : Int) - 16 < 64 := by omega
          have w2 : IntKind.i64.wrap ((i : Int) - 2) = (i : Int) - 2 := IntWalk.i64_in _ (by omega)
          have w7 : IntKind.i64.wrap ((i : Int) - 7) = (i : Int) - 7 := IntWalk.i64_in _ (by omega)
          have w15 : IntKind.i64.wrap ((i : Int) - 15) = (i : Int) - 15 := IntWalk.i64_in _ (by omega)
          have w16 : IntKind.i64.wrap ((i : Int) - 16) = (i : Int) - 16 := IntWalk.i64_in _ (by omega)
          have n2 : ((i : Int) - 2).toNat = i - 2 := by omega
          have n7 : ((i : Int) - 7).toNat = i - 7 := by omega
          have n15 : ((i : Int) - 15).toNat = i - 15 := by omega
          have n16 : ((i : Int) - 16).toNat = i - 16 := by omega
          go_wp2_with fail
          go_quiet (fail)
          have HR2 := Lib.hid (HR.out.drewN nq)
          clear c2 c15
          generalize wr.drewN nq = wq at HR2 ⊢
          have hfz := HR2.out.2.2.frozen i
          have hst := HR2.out.at_ hi hlt2
          have c7 := HR2.out.at_ hi (show i - 7 < 64 by omega)
          have c16 := HR2.out.at_ hi (show i - 16 < 64 by omega)
          rw [fill64_at b (by omega)] at c7 c16
          rw [← E7.out] at c7
          rw [← E16.out] at c16
          go_wp2_with fail
          refine wp_region_still_tail 28 (by kernel_rfl) (by kernel_rfl) ?_
          simp only [List.take_succ_cons, List.take_zero, List.drop_succ_cons, List.drop_zero]
          repeat (first | still_step | (refine wpStill_step (fun K hK => ?_); go_simp; with_reducible refine ⟨_, rot_at (by assumption) (by decide) (by decide), hK _ ?_⟩; clear hK K))
          refine wpStill_nil ?_
          change wpList _ _ _ _ _ wq.drew
          go_wp2_with fail
          have HR' := Lib.hid (HR2.out.step hlt2 (x := ((x16 : Int) + (x7 : Int) + bits .xor .u32 (bits .xor .u32 ((rotr x15 7 : Nat) : Int) ((rotr x15 18 : Nat) : Int)) ((x15 : Int) / 8) + bits .xor .u32 (bits .xor .u32 ((rotr x2 17 : Nat) : Int) ((rotr x2 19 : Nat) : Int)) ((x2 : Int) / 1024)) % 4294967296) (by
            rw [s0_bits l15, s1_bits l2, E2.out, E7.out, E15.out, E16.out]; unfold nextW; rw [if_neg (by omega)]; omega))
          go_roundw
          case rel => exact ⟨i + 1, by omega, by omega, by go_num, HR'.out⟩
          case measure => simp [intOf]; omega
        · have H64 := Lib.hid (show i = 64 by omega)
          have hR0 : XRel w b 64 wr := by have := HR.out; rwa [H64.out] at this
          clear HR H64
          obtain ⟨hb0, hr1, hr2⟩ := hR0
          rw [fill64_done, ← HCS.out] at hr2
          have k1 := Lib.hid (hr2.loadAt (P := Tryd.prog) Tryd.underlying41 info64 HLEN.out)
          have k2 := Lib.hid (hr1.storeAt (P := Tryd.prog) (ds := cs) info64 (by rw [u32s_len, List.length_replicate]) HLEN.out HONE.out)
          have hr3 := hr1.put cs
          have HB' := Lib.hid (below_setRow hb0 (Nat.le_refl _) cs.toArray)
          clear hb0 hr1 hr2
          go_wp2_with (first
            | (refine wpList_load (t := 41) (x := .tmp 3) rfl rfl (.pointer (some ⟨w.heap.size + 1, 0, none⟩)) rfl k1.out ?_)
            | (refine wpList_store (t := 41) (x := .tmp 2) (y := .tmp 88) rfl rfl (.pointer (some ⟨w.heap.size, 0, none⟩)) (.agg cs.toArray) rfl rfl k2.out ?_))
          exact bodyPost_ret (hr3.results Tryd.underlying41 info64 HLEN.out Tryd.results19 _ rfl) rfl ⟨rfl, HB'.out⟩
end Go.Proofs.YtcccgcahmnmchaaDoor
