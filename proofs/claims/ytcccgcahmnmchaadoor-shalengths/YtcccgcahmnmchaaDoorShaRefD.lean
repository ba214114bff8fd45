/-
  The walk of the reference's round.
-/
import Derived.Test.YtcccgcahmnmchaaDoorShaRefC
namespace Go.Proofs.YtcccgcahmnmchaaDoor
open Go.RowKit StrM ShaM

theorem info8q : (Tryd.prog.info? 36).map (·.size) = some 8 := by kernel_rfl
def zero8q : List Value := [.int .u64 0, .int .u64 0, .int .u64 0, .int .u64 0, .int .u64 0, .int .u64 0, .int .u64 0, .int .u64 0]

/-- Behind the world w1 the eight numbers lie in its next block; what w1 held is as it was. -/
def RRel (w1 : World) (xs : List Nat) (W : World) : Prop := Below w1.heap.size w1 W ∧ Row W w1.heap.size 36 (u64s xs)
section
variable {w1 W W' : World} {xs : List Nat}
theorem RRel.drewN (h : RRel w1 xs W) (n : Nat) : RRel w1 xs (W.drewN n) := ⟨⟨h.1.os, h.1.tape, h.1.output, h.1.size, h.1.block⟩, h.2⟩
theorem RRel.drew (h : RRel w1 xs W) : RRel w1 xs W.drew := ⟨h.1.drew, h.2⟩
theorem RRel.below (h : RRel w1 xs W) (hb : Below W.heap.size W W') : RRel w1 xs W' := ⟨h.1.trans (hb.mono h.1.size), h.2.below hb h.2.lt⟩
theorem RRel.at_ (h : RRel w1 xs W) {j : Nat} (hj : j < xs.length) : W.cell? ⟨w1.heap.size, j, none⟩ = some (.int .u64 ((xs.getD j 0 : Nat) : Int)) := by rw [h.2.cell, u64s_at hj]
theorem RRel.old (h : RRel w1 xs W) {g j : Nat} {v : Value} (hc : w1.cell? ⟨g, j, none⟩ = some v) : W.cell? ⟨g, j, none⟩ = some v := (h.1.cell (p := ⟨g, j, none⟩) (cell_lt hc)).trans hc
theorem RRel.put (h : RRel w1 xs W) (ys : List Nat) : RRel w1 ys (W.setRow w1.heap.size (u64s ys).toArray) := ⟨below_setRow h.1 (Nat.le_refl _) _, h.2.put _⟩
theorem RRel.set (h : RRel w1 xs W) (i n : Nat) : RRel w1 (xs.set i n) (W.setCell ⟨w1.heap.size, i, none⟩ (.int .u64 (n : Int))).drew := by
  refine ⟨(h.1.setCell (Nat.le_refl _) _).drew, ?_⟩
  have := h.2.set i (.int .u64 (n : Int))
  rw [u64s_set] at this
  exact this
theorem RRel.four {a b c d e f g h g5 i n : Nat} (p : RRel w1 (words8 ⟨a, b, c, d, e, f, g, h⟩) W) (hc : w1.cell? ⟨g5, i, none⟩ = some (.int .u64 (n : Int))) :
    W.cell? ⟨w1.heap.size, 7, none⟩ = some (.int .u64 (h : Int)) ∧ W.cell? ⟨w1.heap.size, 5, none⟩ = some (.int .u64 (f : Int)) ∧ W.cell? ⟨w1.heap.size, 6, none⟩ = some (.int .u64 (g : Int)) ∧ W.cell? ⟨g5, i, none⟩ = some (.int .u64 (n : Int)) :=
  ⟨p.at_ (j := 7) (by show 7 < 8; omega), p.at_ (j := 5) (by show 5 < 8; omega), p.at_ (j := 6) (by show 6 < 8; omega), p.old hc⟩
theorem RRel.three {a b c d e f g h : Nat} (p : RRel w1 (words8 ⟨a, b, c, d, e, f, g, h⟩) W) :
    W.cell? ⟨w1.heap.size, 3, none⟩ = some (.int .u64 (d : Int)) ∧ W.cell? ⟨w1.heap.size, 5, none⟩ = some (.int .u64 (f : Int)) ∧ W.cell? ⟨w1.heap.size, 6, none⟩ = some (.int .u64 (g : Int)) :=
  ⟨p.at_ (j := 3) (by show 3 < 8; omega), p.at_ (j := 5) (by show 5 < 8; omega), p.at_ (j := 6) (by show 6 < 8; omega)⟩
theorem turnR {x : Nat} {m : Int} (hx : x < 4294967296) (h0 : 0 < m) (hn : m < 32) (hW : RRel w1 xs W) :
    Calls Tryd.prog 21 #[.int .u64 (x : Int), .int .i64 m] W fun e w' => e = .returned (.int .u64 ((rotr x m.toNat : Nat) : Int)) ∧ RRel w1 xs w' :=
  (turnI hx h0 hn).mono fun _ _ h => ⟨h.1, by obtain ⟨k, hk⟩ := h.2; rw [hk]; exact hW.drewN k⟩
theorem tableR {i : Nat} (hi : i < 64) (hW : RRel w1 xs W) :
    Calls Tryd.prog 22 #[.int .i64 (i : Int)] W fun e w' => e = .returned (.int .u64 ((K.getD i 0 : Nat) : Int)) ∧ RRel w1 xs w' :=
  (table_any i W hi).mono fun _ _ h => ⟨h.1, hW.below h.2⟩
end

theorem e1_bits64 {x : Nat} (h : x < 4294967296) : bits .xor .u64 (bits .xor .u64 ((rotr x 6 : Nat) : Int) ((rotr x 11 : Nat) : Int)) ((rotr x 25 : Nat) : Int) = ((e1 x : Nat) : Int) := by
  rw [xor64 (rotr_lt h (by decide)) (rotr_lt h (by decide)), xor64 (xor_lt (rotr_lt h (by decide)) (rotr_lt h (by decide))) (rotr_lt h (by decide))]; rfl
theorem e0_bits64 {x : Nat} (h : x < 4294967296) : bits .xor .u64 (bits .xor .u64 ((rotr x 2 : Nat) : Int) ((rotr x 13 : Nat) : Int)) ((rotr x 22 : Nat) : Int) = ((e0 x : Nat) : Int) := by
  rw [xor64 (rotr_lt h (by decide)) (rotr_lt h (by decide)), xor64 (xor_lt (rotr_lt h (by decide)) (rotr_lt h (by decide))) (rotr_lt h (by decide))]; rfl
theorem ch_bits64 {e f g : Nat} (h1 : e < 4294967296) (h2 : f < 4294967296) (h3 : g < 4294967296) : bits .xor .u64 (bits .and .u64 (e : Int) (f : Int)) (bits .and .u64 (4294967295 - (e : Int)) (g : Int)) = ((ch e f g : Nat) : Int) := by
  rw [show 4294967295 - (e : Int) = ((4294967295 - e : Nat) : Int) by omega, and64 h1 h2, and64 (by omega) h3, xor64 (and_lt h2) (and_lt h3)]; rfl
theorem maj_bits64 {a b c : Nat} (h1 : a < 4294967296) (h2 : b < 4294967296) (h3 : c < 4294967296) : bits .xor .u64 (bits .xor .u64 (bits .and .u64 (a : Int) (b : Int)) (bits .and .u64 (a : Int) (c : Int))) (bits .and .u64 (b : Int) (c : Int)) = ((maj a b c : Nat) : Int) := by
  rw [and64 h1 h2, and64 h1 h3, and64 h2 h3, xor64 (and_lt h2) (and_lt h3), xor64 (xor_lt (and_lt h2) (and_lt h3)) (and_lt h3)]; rfl

/-- An array is written whole, said by an equation; of the world behind only p is told. -/
theorem wpList_storeE {P : Program} {ops : Array Oper} {rest : List Oper} {o : Oper} {a : Act} {w w' : World} {Q : Exit → Act → World → Prop} {t : TypeId} {x y : Operand} (ds : List Value) (p : World → Prop) (hgd : o.guard = none) (ho : o.op = .store t x y) (q u : Value) (hx : a.eval x = q) (hy : a.eval y = u) (hu : u = .agg ds.toArray) (hrun : (Instr.storeAt t q (.agg ds.toArray)).run P w = .ok () w') (hp : p w')
    (h : ∀ W, p W → wpList P ops Q rest (a.put o.dst undef) W) : wpList P ops Q (o :: rest) a w :=
  wpList_store hgd ho q (.agg ds.toArray) hx (hy.trans hu) hrun (h w' hp)

theorem w64 {n : Nat} (h : n < 18446744073709551616) : IntKind.u64.wrap (n : Int) = (n : Int) := by
  simp [IntKind.wrap, IntKind.bits, IntKind.signed]; omega
theorem t_wraps {h E C k n : Nat} (l1 : h < 4294967296) (l2 : E < 4294967296) (l3 : C < 4294967296) (l4 : k < 4294967296) (l5 : n < 4294967296) :
    IntKind.u64.wrap (IntKind.u64.wrap (IntKind.u64.wrap (IntKind.u64.wrap ((h : Int) + (E : Int)) + (C : Int)) + (k : Int)) + (n : Int)) = ((h + E + C + k + n : Nat) : Int) := by
  rw [show (h : Int) + (E : Int) = ((h + E : Nat) : Int) by omega, w64 (by omega), show ((h + E : Nat) : Int) + (C : Int) = ((h + E + C : Nat) : Int) by omega, w64 (by omega),
    show ((h + E + C : Nat) : Int) + (k : Int) = ((h + E + C + k : Nat) : Int) by omega, w64 (by omega), show ((h + E + C + k : Nat) : Int) + (n : Int) = ((h + E + C + k + n : Nat) : Int) by omega, w64 (by omega)]
theorem round_eq {xa xb xc xd xe xf xg xh k n : Nat} (la : xa < 4294967296) (lb : xb < 4294967296) (lc : xc < 4294967296) (ld : xd < 4294967296) (le : xe < 4294967296) (lf : xf < 4294967296) (lg : xg < 4294967296) (lh : xh < 4294967296) (lk : k < 4294967296) (ln : n < 4294967296) :
    Value.agg #[.int .u64 ((IntKind.u64.wrap (IntKind.u64.wrap (IntKind.u64.wrap (IntKind.u64.wrap (IntKind.u64.wrap ((xh : Int) + bits .xor .u64 (bits .xor .u64 ((rotr xe 6 : Nat) : Int) ((rotr xe 11 : Nat) : Int)) ((rotr xe 25 : Nat) : Int)) + bits .xor .u64 (bits .and .u64 (xe : Int) (xf : Int)) (bits .and .u64 (4294967295 - (xe : Int)) (xg : Int))) + (k : Int)) + (n : Int)) + IntKind.u64.wrap (bits .xor .u64 (bits .xor .u64 ((rotr xa 2 : Nat) : Int) ((rotr xa 13 : Nat) : Int)) ((rotr xa 22 : Nat) : Int) + bits .xor .u64 (bits .xor .u64 (bits .and .u64 (xa : Int) (xb : Int)) (bits .and .u64 (xa : Int) (xc : Int))) (bits .and .u64 (xb : Int) (xc : Int))))).tmod 4294967296), .int .u64 (xa : Int), .int .u64 (xb : Int), .int .u64 (xc : Int), .int .u64 ((IntKind.u64.wrap ((xd : Int) + IntKind.u64.wrap (IntKind.u64.wrap (IntKind.u64.wrap (IntKind.u64.wrap ((xh : Int) + bits .xor .u64 (bits .xor .u64 ((rotr xe 6 : Nat) : Int) ((rotr xe 11 : Nat) : Int)) ((rotr xe 25 : Nat) : Int)) + bits .xor .u64 (bits .and .u64 (xe : Int) (xf : Int)) (bits .and .u64 (4294967295 - (xe : Int)) (xg : Int))) + (k : Int)) + (n : Int)))).tmod 4294967296), .int .u64 (xe : Int), .int .u64 (xf : Int), .int .u64 (xg : Int)] = .agg (u64s (words8 (ShaM.step k n ⟨xa, xb, xc, xd, xe, xf, xg, xh⟩))).toArray := by
  have m1 := e1_lt le
  have m2 := ch_lt (e := xe) lf lg
  have m3 := e0_lt la
  have m4 := maj_lt (a := xa) lb lc
  rw [e1_bits64 le, ch_bits64 le lf lg, e0_bits64 la, maj_bits64 la lb lc, t_wraps lh m1 m2 lk ln,
    show ((e0 xa : Nat) : Int) + ((maj xa xb xc : Nat) : Int) = ((e0 xa + maj xa xb xc : Nat) : Int) by omega, w64 (by omega),
    show ((xh + e1 xe + ch xe xf xg + k + n : Nat) : Int) + ((e0 xa + maj xa xb xc : Nat) : Int) = ((xh + e1 xe + ch xe xf xg + k + n + (e0 xa + maj xa xb xc) : Nat) : Int) by omega, w64 (by omega),
    show (xd : Int) + ((xh + e1 xe + ch xe xf xg + k + n : Nat) : Int) = ((xd + (xh + e1 xe + ch xe xf xg + k + n) : Nat) : Int) by omega, w64 (by omega),
    Int.tmod_eq_emod_of_nonneg (by omega), Int.tmod_eq_emod_of_nonneg (by omega)]
  rfl

theorem addS_comm (s t : S8) : addS s t = addS t s := by unfold addS; simp only [Nat.add_comm]

theorem round_start (w : World) (vs : List Value) : Row ((w.alloc (.cells vs.toArray 36)).alloc (.cells zero8q.toArray 36)) w.heap.size 36 vs ∧ Row ((w.alloc (.cells vs.toArray 36)).alloc (.cells zero8q.toArray 36)) (w.heap.size + 1) 36 zero8q ∧ Below w.heap.size w ((w.alloc (.cells vs.toArray 36)).alloc (.cells zero8q.toArray 36)) := by
  refine ⟨(Row.new _ _ _).alloc _, ?_, ((Below.refl _ _).alloc (Nat.le_refl _) _).alloc (by simp) _⟩
  have := Row.new (w.alloc (.cells vs.toArray 36)) 36 zero8q
  simpa only [World.size_alloc] using this

set_option maxHeartbeats 1000000 in
set_option maxRecDepth 100000 in
theorem round_any (s : S8) (v : Value) (bl : List UInt8) (w : World) (hs : s.Ok) (hv : SeesV w v (bys bl)) (hb : bl.length = 64) :
    Calls Tryd.prog 14 #[.agg (u64s (words8 s)).toArray, v] w fun e w' => e = .returned (.agg (u64s (words8 (block s bl))).toArray) ∧ Below w.heap.size w w' := by
  obtain ⟨sa, sb, sc, sd, se, sf, sg, sh⟩ := s
  obtain ⟨vs, hvs⟩ : ∃ vs, vs = u64s (words8 ⟨sa, sb, sc, sd, se, sf, sg, sh⟩) := ⟨_, rfl⟩
  obtain ⟨rs, hrs⟩ : ∃ rs, rs = u64s (words8 (block ⟨sa, sb, sc, sd, se, sf, sg, sh⟩ bl)) := ⟨_, rfl⟩
  rw [← hvs, ← hrs]
  have HV := Lib.hid hvs
  have HRS := Lib.hid hrs
  have HOK := Lib.hid hs
  have HSEE := Lib.hid hv
  have HBL := Lib.hid hb
  clear hvs hrs hs hb
  obtain ⟨A, cap, rfl, _⟩ := hv
  obtain ⟨st1, st2, st3⟩ := round_start w vs
  go_enter Tryd.func14, Tryd.ntmps14
  go_wp2_with fail
  refine (words_any _ bl _ (HSEE.out.later st3) HBL.out).mono ?_
  rintro e w1 ⟨v5, rfl, hW1⟩
  obtain ⟨g5, cap5, hv5, hcell⟩ := hW1.form (by decide)
  have R1 := st1.below hW1.2 st1.lt
  have R2 := st2.below hW1.2 st2.lt
  have B1 := st3.trans (hW1.2.mono st3.size)
  have C5 := hcell w1 hW1
  subst hv5
  clear hcell hW1 st1 st2 st3
  have HR1 := Lib.hid R1
  have HR2 := Lib.hid R2
  have HB1 := Lib.hid B1
  have HC5 := Lib.hid C5
  rw [HV.out] at R1
  have r0 : w1.cell? ⟨w.heap.size, 0, none⟩ = some (.int .u64 (sa : Int)) := R1.cell 0
  have r1 : w1.cell? ⟨w.heap.size, 1, none⟩ = some (.int .u64 (sb : Int)) := R1.cell 1
  have r2 : w1.cell? ⟨w.heap.size, 2, none⟩ = some (.int .u64 (sc : Int)) := R1.cell 2
  have r3 : w1.cell? ⟨w.heap.size, 3, none⟩ = some (.int .u64 (sd : Int)) := R1.cell 3
  have r4 : w1.cell? ⟨w.heap.size, 4, none⟩ = some (.int .u64 (se : Int)) := R1.cell 4
  have r5 : w1.cell? ⟨w.heap.size, 5, none⟩ = some (.int .u64 (sf : Int)) := R1.cell 5
  have r6 : w1.cell? ⟨w.heap.size, 6, none⟩ = some (.int .u64 (sg : Int)) := R1.cell 6
  have r7 : w1.cell? ⟨w.heap.size, 7, none⟩ = some (.int .u64 (sh : Int)) := R1.cell 7
  clear R1 R2 B1 C5
  go_wp2_with fail
  have HI := Lib.hid (show RRel w1 (words8 ⟨sa, sb, sc, sd, se, sf, sg, sh⟩) (w1.alloc (.cells #[.int .u64 (sa : Int), .int .u64 (sb : Int), .int .u64 (sc : Int), .int .u64 (sd : Int), .int .u64 (se : Int), .int .u64 (sf : Int), .int .u64 (sg : Int), .int .u64 (sh : Int)] 36)) from ⟨below_made w1 _, Row.new w1 _ _⟩)
  clear r0 r1 r2 r3 r4 r5 r6 r7
  generalize w1.alloc (.cells #[.int .u64 (sa : Int), .int .u64 (sb : Int), .int .u64 (sc : Int), .int .u64 (sd : Int), .int .u64 (se : Int), .int .u64 (sf : Int), .int .u64 (sg : Int), .int .u64 (sh : Int)] 36) = W2 at HI ⊢
  go_loopw [7] (fun x wr => ∃ (i : Nat) (S : S8), i ≤ 64 ∧ x = .int .i64 (i : Int) ∧ Hid (S = rounds (sched bl 64) i ⟨sa, sb, sc, sd, se, sf, sg, sh⟩) ∧ RRel w1 (words8 S) wr) (fun x _ => 64 - (intOf x).toNat)
  case atStart => exact ⟨0, ⟨sa, sb, sc, sd, se, sf, sg, sh⟩, by omega, rfl, Lib.hid rfl, HI.out⟩
  case round =>
    obtain ⟨i, S, hi, rfl, HS, hR⟩ := hrel
    clear HI
    obtain ⟨xa, xb, xc, xd, xe, xf, xg, xh⟩ := S
    have hok : S8.Ok ⟨xa, xb, xc, xd, xe, xf, xg, xh⟩ := by rw [HS.out]; exact rounds_ok _ HOK.out i
    have HOK2 := Lib.hid hok
    obtain ⟨la, lb, lc, ld, le, lf, lg, lh⟩ := hok
    dsimp only at la lb lc ld le lf lg lh
    by_cases hlt : i < 64
    · have k0 := hR.at_ (j := 0) (by show 0 < 8; omega)
      have k1 := hR.at_ (j := 1) (by show 1 < 8; omega)
      have k2 := hR.at_ (j := 2) (by show 2 < 8; omega)
      have k4 := hR.at_ (j := 4) (by show 4 < 8; omega)
      simp only [words8, List.getD_cons_zero, List.getD_cons_succ] at k0 k1 k2 k4
      go_wp2_with fail
      go_quiet (fail)
      have hR2 := hR.drewN nq
      clear k0 k1 k2 k4 hR
      generalize wr.drewN nq = wq at hR2 ⊢
      have hcn := HC5.out i hlt
      have ln := getD_lt (sched_lt bl 64) i
      have lk := K_lt i
      obtain ⟨n, en⟩ : ∃ n, n = (sched bl 64).getD i 0 := ⟨_, rfl⟩
      obtain ⟨k, ek⟩ : ∃ k, k = K.getD i 0 := ⟨_, rfl⟩
      rw [← en] at hcn ln
      rw [← ek] at lk
      have HCN := Lib.hid hcn
      have HTAB := Lib.hid (show ∀ W, RRel w1 (words8 ⟨xa, xb, xc, xd, xe, xf, xg, xh⟩) W → Calls Tryd.prog 22 #[.int .i64 (i : Int)] W fun en w' => en = .returned (.int .u64 (k : Int)) ∧ RRel w1 (words8 ⟨xa, xb, xc, xd, xe, xf, xg, xh⟩) w' from fun W hW => by rw [ek]; exact tableR hlt hW)
      have EN := Lib.hid en
      have EK := Lib.hid ek
      clear en ek hcn
      obtain ⟨SN, hSN⟩ : ∃ SN, SN = ShaM.step k n ⟨xa, xb, xc, xd, xe, xf, xg, xh⟩ := ⟨_, rfl⟩
      have HST := Lib.hid (show ∀ W, RRel w1 (words8 ⟨xa, xb, xc, xd, xe, xf, xg, xh⟩) W → (Instr.storeAt 36 (.pointer (some ⟨w1.heap.size, 0, none⟩)) (.agg (u64s (words8 SN)).toArray)).run Tryd.prog W = .ok () (W.setRow w1.heap.size (u64s (words8 SN)).toArray) from fun W hW => hW.2.storeAt info8q rfl rfl (u64s_one _))
      have HSP := Lib.hid (show ∀ W, RRel w1 (words8 ⟨xa, xb, xc, xd, xe, xf, xg, xh⟩) W → RRel w1 (words8 SN) (W.setRow w1.heap.size (u64s (words8 SN)).toArray) from fun W hW => hW.put _)
      have HSN := Lib.hid hSN
      clear hSN
      have hRd := hR2.drew
      have we : IntKind.u64.wrap (4294967295 - (xe : Int)) = 4294967295 - (xe : Int) := by
        rw [show 4294967295 - (xe : Int) = ((4294967295 - xe : Nat) : Int) by omega]; exact wrap_u64 (by omega)
      go_wp2_with fail
      go_region_held3 (fun w' => w'.cell? ⟨w1.heap.size, 7, none⟩ = some (.int .u64 (xh : Int)) ∧ w'.cell? ⟨w1.heap.size, 5, none⟩ = some (.int .u64 (xf : Int)) ∧ w'.cell? ⟨w1.heap.size, 6, none⟩ = some (.int .u64 (xg : Int)) ∧ w'.cell? ⟨g5, i, none⟩ = some (.int .u64 (n : Int)))
        (first | exact RRel.four (by assumption) HCN.out | fail)
        (first
          | (go_at_call 21; ((with_reducible refine (turnR (by assumption) (by decide) (by decide) (by assumption)).mono ?_)); rintro en wt ⟨rfl, hWt⟩)
          | (go_at_call 22; ((with_reducible refine (HTAB.out _ (by assumption)).mono ?_)); rintro en wt ⟨rfl, hWt⟩))
      clear hRd hR2
      go_wp2_with (first
        | ((go_at_call 21; with_reducible refine (turnR (by assumption) (by decide) (by decide) (by assumption)).mono ?_; rintro en wt ⟨rfl, hWt⟩; have q3 := hWt.three; obtain ⟨q3, q5, q6⟩ := q3))
        | (refine wpList_storeP (t := 36) (x := .tmp 6) (y := .tmp 97) (RRel w1 (words8 SN)) rfl rfl (.pointer (some ⟨w1.heap.size, 0, none⟩)) (.agg (u64s (words8 SN)).toArray) rfl ?hu (HST.out _ (by assumption)) (HSP.out _ (by assumption)) ?_))
      case hu =>
        rw [HSN.out]
        exact round_eq la lb lc ld le lf lg lh lk ln
      intro W3 hW3
      have HW3 := Lib.hid hW3
      clear hW3
      go_wp2_with fail
      go_roundw
      case rel => exact ⟨i + 1, SN, by omega, by go_num, Lib.hid (by rw [HSN.out, HS.out, EN.out, EK.out]; rfl), HW3.out⟩
      case measure => simp [intOf]; omega
    · have H64 := Lib.hid (show i = 64 by omega)
      have HR := Lib.hid hR
      clear hR
      go_wp2_with fail
      go_loopw [14] (fun x wr => ∃ j : Nat, j ≤ 8 ∧ x = .int .i64 (j : Int) ∧ RRel w1 (zipAdd (words8 ⟨xa, xb, xc, xd, xe, xf, xg, xh⟩) (words8 ⟨sa, sb, sc, sd, se, sf, sg, sh⟩) j) wr) (fun x _ => 8 - (intOf x).toNat)
      case atStart => exact ⟨0, by omega, rfl, HR.out⟩
      case round =>
        obtain ⟨j, hj, rfl, hJ⟩ := hrel
        clear HR
        by_cases hj8 : j < 8
        · have v1 := hJ.at_ (j := j) (by rw [zipAdd_len]; exact hj8)
          rw [zipAdd_at _ _ _ _ (Nat.le_refl j)] at v1
          have v2 : wr.cell? ⟨w.heap.size, j, none⟩ = some (.int .u64 (((words8 ⟨sa, sb, sc, sd, se, sf, sg, sh⟩).getD j 0 : Nat) : Int)) := hJ.old (by rw [HR1.out.cell, HV.out, u64s_at hj8])
          have f1 := hJ.2.frozen j
          have lx := words_lt HOK2.out j
          have ly := words_lt HOK.out j
          obtain ⟨x, ex⟩ : ∃ x, x = (words8 ⟨xa, xb, xc, xd, xe, xf, xg, xh⟩).getD j 0 := ⟨_, rfl⟩
          obtain ⟨y, ey⟩ : ∃ y, y = (words8 ⟨sa, sb, sc, sd, se, sf, sg, sh⟩).getD j 0 := ⟨_, rfl⟩
          rw [← ex] at v1 lx
          rw [← ey] at v2 ly
          have EX := Lib.hid ex
          have EY := Lib.hid ey
          have HJ := Lib.hid hJ
          clear ex ey hJ
          go_wp2_with fail
          go_still_tail 9, (by kernel_rfl)
          change wpList _ _ _ _ _ wr.drew
          go_wp2_with fail
          have HJ' := Lib.hid (show RRel w1 (zipAdd (words8 ⟨xa, xb, xc, xd, xe, xf, xg, xh⟩) (words8 ⟨sa, sb, sc, sd, se, sf, sg, sh⟩) (j + 1)) (wr.setCell ⟨w1.heap.size, j, none⟩ (.int .u64 (((x : Int) + (y : Int)) % 4294967296))).drew by
            have e : ((x : Int) + (y : Int)) % 4294967296 = (((x + y) % 4294967296 : Nat) : Int) := by omega
            rw [e, EX.out, EY.out]; exact HJ.out.set j _)
          go_roundw
          case rel => exact ⟨j + 1, by omega, by go_num, HJ'.out⟩
          case measure => simp [intOf]; omega
        · have H8 := Lib.hid (show j = 8 by omega)
          have hrs : rs = u64s (zipAdd (words8 ⟨xa, xb, xc, xd, xe, xf, xg, xh⟩) (words8 ⟨sa, sb, sc, sd, se, sf, sg, sh⟩) j) := by
            rw [HRS.out, H8.out, zipAdd_done, addS_comm, HS.out, H64.out]; rfl
          have q1 := hJ.2
          rw [← hrs] at q1
          have HLN := Lib.hid (show rs.length = 8 by rw [HRS.out]; rfl)
          have hone : (rs.all fun x => x.oneCell') = true := by rw [HRS.out]; exact u64s_one _
          have q2 := HR2.out.below hJ.1 HR2.out.lt
          have k1 := Lib.hid (q1.loadAt (P := Tryd.prog) Tryd.underlying36 info8q HLN.out)
          have k2 := Lib.hid (q2.storeAt (P := Tryd.prog) (ds := rs) info8q rfl HLN.out hone)
          have q3 := q2.put rs
          have HB' := Lib.hid (below_setRow (HB1.out.trans (hJ.1.mono HB1.out.size)) (show w.heap.size ≤ w.heap.size + 1 by omega) rs.toArray)
          clear q1 q2 hone hJ hrs
          go_wp2_with (first
            | (refine wpList_load (t := 36) (x := .tmp 6) rfl rfl (.pointer (some ⟨w1.heap.size, 0, none⟩)) rfl k1.out ?_)
            | (refine wpList_store (t := 36) (x := .tmp 4) (y := .tmp 112) rfl rfl (.pointer (some ⟨w.heap.size + 1, 0, none⟩)) (.agg rs.toArray) rfl rfl k2.out ?_))
          exact bodyPost_ret (q3.results Tryd.underlying36 info8q HLN.out Tryd.results14 _ rfl) rfl ⟨rfl, HB'.out⟩
end Go.Proofs.YtcccgcahmnmchaaDoor
