/-
  The walk of the reference's Sum.
-/
import Derived.Test.YtcccgcahmnmchaaDoorShaRefD
import Derived.Test.YtcccgcahmnmchaaDoorShaRefE
import Derived.Deep.RegionLaw
namespace Go.Proofs.YtcccgcahmnmchaaDoor
open Go.RowKit StrM ShaM

/-- Since w1 only the block b0 may have turned. -/
def Only (b0 : Nat) (w1 W : World) : Prop := W.os = w1.os ∧ W.tape = w1.tape ∧ W.output = w1.output ∧ w1.heap.size ≤ W.heap.size ∧ ∀ k, k < w1.heap.size → k ≠ b0 → W.heap[k]? = w1.heap[k]?
section
variable {b0 : Nat} {w w1 W W' : World}
theorem Only.refl (b0 : Nat) (w1 : World) : Only b0 w1 w1 := ⟨rfl, rfl, rfl, Nat.le_refl _, fun _ _ _ => rfl⟩
theorem Only.below (h : Only b0 w1 W) (hb : Below W.heap.size W W') : Only b0 w1 W' :=
  ⟨hb.os.trans h.1, hb.tape.trans h.2.1, hb.output.trans h.2.2.1, Nat.le_trans h.2.2.2.1 hb.size, fun k hk hn => (hb.block k (by have := h.2.2.2.1; omega)).trans (h.2.2.2.2 k hk hn)⟩
theorem Only.drew (h : Only b0 w1 W) : Only b0 w1 W.drew := h
theorem Only.set (h : Only b0 w1 W) (i : Nat) (u : Value) : Only b0 w1 (W.setCell ⟨b0, i, none⟩ u) :=
  ⟨h.1, h.2.1, h.2.2.1, by simpa using h.2.2.2.1, fun k hk hn => (Below.heap_setCell W ⟨b0, i, none⟩ u k hn).trans (h.2.2.2.2 k hk hn)⟩
theorem Only.far (h : Only b0 w1 W) (hb : Below w.heap.size w w1) (hB : w.heap.size ≤ b0) : Below w.heap.size w W :=
  ⟨h.1.trans hb.os, h.2.1.trans hb.tape, h.2.2.1.trans hb.output, Nat.le_trans hb.size h.2.2.2.1, fun k hk => (h.2.2.2.2 k (Nat.lt_of_lt_of_le hk hb.size) (by omega)).trans (hb.block k hk)⟩
theorem Only.row {g : Nat} {t : TypeId} {cs : List Value} (h : Only b0 w1 W) (hr : Row w1 g t cs) (hg : g ≠ b0) : Row W g t cs := (h.2.2.2.2 g hr.lt hg).trans hr
theorem Only.sees {base n : Nat} {e : TypeId} {v : Value} {xs : List Value} (h : Only b0 w1 W) (ho : w1.ownsRow base e 1 v n xs) (hb : b0 < base) : SeesV W v xs := by
  rcases own_form ho with ⟨rfl, _, rfl⟩ | ⟨g, cap, rfl, hbg, hlt, rfl, hc⟩
  · exact ⟨none, 0, rfl, .inl rfl⟩
  · refine ⟨_, cap, rfl, .inr ⟨g, 0, rfl, Nat.lt_of_lt_of_le hlt h.2.2.2.1, fun k hk => ?_⟩⟩
    rw [Nat.zero_add]
    exact (World.cell?_of_block (a := ⟨g, k, none⟩) (h.2.2.2.2 g hlt (by omega))).trans (hc k hk)
end

/-- The eight numbers lie in block b0; nothing else has turned since w1. -/
def SRel (b0 : Nat) (w1 : World) (xs : List Nat) (W : World) : Prop := Only b0 w1 W ∧ Row W b0 36 (u64s xs)
theorem SRel.below {b0 : Nat} {w1 W W' : World} {xs : List Nat} (h : SRel b0 w1 xs W) (hb : Below W.heap.size W W') : SRel b0 w1 xs W' := ⟨h.1.below hb, h.2.below hb h.2.lt⟩
theorem SRel.drew {b0 : Nat} {w1 W : World} {xs : List Nat} (h : SRel b0 w1 xs W) : SRel b0 w1 xs W.drew := h
theorem row_frozen {W : World} {g : Nat} {t : TypeId} {cs : List Value} (h : Row W g t cs) : ∀ i, W.frozen? ⟨g, i, none⟩ = false := h.frozen
theorem SRel.cells {b0 : Nat} {w1 W : World} {xa xb xc xd xe xf xg xh : Nat} (h : SRel b0 w1 (words8 ⟨xa, xb, xc, xd, xe, xf, xg, xh⟩) W) : W.cell? ⟨b0, 0, none⟩ = some (.int .u64 (xa : Int)) ∧ W.cell? ⟨b0, 1, none⟩ = some (.int .u64 (xb : Int)) ∧ W.cell? ⟨b0, 2, none⟩ = some (.int .u64 (xc : Int)) ∧ W.cell? ⟨b0, 3, none⟩ = some (.int .u64 (xd : Int)) ∧ W.cell? ⟨b0, 4, none⟩ = some (.int .u64 (xe : Int)) ∧ W.cell? ⟨b0, 5, none⟩ = some (.int .u64 (xf : Int)) ∧ W.cell? ⟨b0, 6, none⟩ = some (.int .u64 (xg : Int)) ∧ W.cell? ⟨b0, 7, none⟩ = some (.int .u64 (xh : Int)) :=
  ⟨h.2.cell 0, h.2.cell 1, h.2.cell 2, h.2.cell 3, h.2.cell 4, h.2.cell 5, h.2.cell 6, h.2.cell 7⟩
theorem SRel.sets {w : World} {w1 w2 : World} {xs : List Nat} {ya yb yc yd ye yf yg yh : Nat} (h : SRel (w.heap.size + 1) w1 xs w2) (hx : xs.length = 8) : SRel (w.heap.size + 1) w1 (words8 ⟨ya, yb, yc, yd, ye, yf, yg, yh⟩) ((((((((w2.setCell ⟨w.heap.size + 1, 0, none⟩ (.int .u64 (ya : Int))).setCell ⟨w.heap.size + 1, 1, none⟩ (.int .u64 (yb : Int))).setCell ⟨w.heap.size + 1, 2, none⟩ (.int .u64 (yc : Int))).setCell ⟨w.heap.size + 1, 3, none⟩ (.int .u64 (yd : Int))).setCell ⟨w.heap.size + 1, 4, none⟩ (.int .u64 (ye : Int))).setCell ⟨w.heap.size + 1, 5, none⟩ (.int .u64 (yf : Int))).setCell ⟨w.heap.size + 1, 6, none⟩ (.int .u64 (yg : Int))).setCell ⟨w.heap.size + 1, 7, none⟩ (.int .u64 (yh : Int))) := by
  refine ⟨((((((((h.1.set 0 _).set 1 _).set 2 _).set 3 _).set 4 _).set 5 _).set 6 _).set 7 _), ?_⟩
  have q := ((((((((h.2.set 0 (.int .u64 (ya : Int))).set 1 (.int .u64 (yb : Int))).set 2 (.int .u64 (yc : Int))).set 3 (.int .u64 (yd : Int))).set 4 (.int .u64 (ye : Int))).set 5 (.int .u64 (yf : Int))).set 6 (.int .u64 (yg : Int))).set 7 (.int .u64 (yh : Int)))
  rw [u64s_set, u64s_set, u64s_set, u64s_set, u64s_set, u64s_set, u64s_set, u64s_set] at q
  match xs, hx with
  | [_, _, _, _, _, _, _, _], _ => exact q

/-- The bytes that have been put out so far, then zeros: 32 in all. -/
def rfill (s : S8) : Nat → List UInt8
  | 0 => List.replicate 32 0
  | i + 1 => (rfill s i).set i (byteAt ((words8 s).getD (i / 4) 0) (3 - i % 4))
theorem rfill_len (s : S8) (i : Nat) : (rfill s i).length = 32 := by
  induction i with
  | zero => rfl
  | succ i ih => simp [rfill, ih]
theorem rfill_done (s : S8) : rfill s 32 = outL s := by kernel_rfl

theorem byte_pow {x r : Nat} (hr : r < 4) : x / 2 ^ (24 - 8 * r) % 256 = (byteAt x (3 - r)).toNat := by
  rw [byteAt_toNat]
  have e : (256 : Nat) ^ (3 - r) = 2 ^ (24 - 8 * r) := by
    rcases r with _ | _ | _ | _ | r <;> first | rfl | omega
  rw [e]
theorem init_agg64 : (.agg #[.int .u64 1779033703, .int .u64 3144134277, .int .u64 1013904242, .int .u64 2773480762, .int .u64 1359893119, .int .u64 2600822924, .int .u64 528734635, .int .u64 1541459225] : Value) = .agg (u64s (words8 init)).toArray := rfl

/-- How far the bytes have been put out, behind the world wB. -/
def ORel (wB : World) (s : S8) (i : Nat) (W : World) : Prop := Below wB.heap.size wB W ∧ Row W wB.heap.size 24 (bys (rfill s i))
theorem ORel.step {wB W : World} {s : S8} {i : Nat} (h : ORel wB s i W) {x : Int} (hx : x = ((byteAt ((words8 s).getD (i / 4) 0) (3 - i % 4)).toNat : Int)) : ORel wB s (i + 1) (W.setCell ⟨wB.heap.size, i, none⟩ (.int .u8 x)).drew := by
  subst hx
  refine ⟨(h.1.setCell (Nat.le_refl _) _).drew, ?_⟩
  have := h.2.set i (.int .u8 ((byteAt ((words8 s).getD (i / 4) 0) (3 - i % 4)).toNat : Int))
  rw [bys_set] at this
  exact this

theorem rsum_start (w : World) : Row ((w.alloc (.cells (bys (List.replicate 32 0)).toArray 24)).alloc (.cells (u64s (words8 init)).toArray 36)) w.heap.size 24 (bys (List.replicate 32 0)) ∧ Row ((w.alloc (.cells (bys (List.replicate 32 0)).toArray 24)).alloc (.cells (u64s (words8 init)).toArray 36)) (w.heap.size + 1) 36 (u64s (words8 init)) ∧ Below w.heap.size w ((w.alloc (.cells (bys (List.replicate 32 0)).toArray 24)).alloc (.cells (u64s (words8 init)).toArray 36)) := by
  refine ⟨(Row.new _ _ _).alloc _, ?_, ((Below.refl _ _).alloc (Nat.le_refl _) _).alloc (by simp) _⟩
  have := Row.new (w.alloc (.cells (bys (List.replicate 32 0)).toArray 24)) 36 (u64s (words8 init))
  simp only [World.size_alloc] at this
  exact this

set_option maxHeartbeats 1000000 in
set_option maxRecDepth 100000 in
theorem rsum_any (A : Option Addr) (len cap : Nat) (l : List UInt8) (w : World) (hv : SeesV w (.slice A len cap) (bys l)) (hm : len ≤ 1000000) :
    Calls Tryd.prog 7 #[.slice A len cap] w fun e w' => e = .returned (.agg (bys (sumL l)).toArray) ∧ Below w.heap.size w w' := by
  obtain ⟨rs, hrs⟩ : ∃ rs, rs = bys (sumL l) := ⟨_, rfl⟩
  rw [← hrs]
  obtain ⟨P, hP⟩ : ∃ P, P = padL l := ⟨_, rfl⟩
  have hPl : P.length ≤ 2000000 ∧ P.length % 64 = 0 := by
    have h1 : l.length = len := by obtain ⟨_, _, e, _⟩ := hv; injection e with _ e _; rw [e, bys_len]
    rw [hP]; exact ⟨by unfold padL; rw [endL_len]; have := zeros_lt l.length; omega, padL_mul l⟩
  have HSUM := Lib.hid (show rs = bys (outL (blocks P (P.length / 64) init)) by rw [hrs, hP]; rfl)
  have HPAD := Lib.hid (show ∀ W, Below w.heap.size w W → Calls Tryd.prog 13 #[.slice A len cap] W (EndPost P W) from fun W hb => by rw [hP]; exact padded_any A len cap l W (hv.later hb) hm)
  have HRL := Lib.hid (show rs.length = 32 by rw [hrs, bys_len]; rfl)
  have HR1 := Lib.hid (show (rs.all fun x => x.oneCell') = true by rw [hrs]; exact bys_one _)
  obtain ⟨pl, hpl⟩ : ∃ pl, pl = P.length := ⟨_, rfl⟩
  rw [← hpl] at hPl
  have HPL := Lib.hid hpl
  have HMUL := Lib.hid hPl.2
  have hpm := hPl.1
  clear hrs hP hPl hv hpl
  go_enter Tryd.func7, Tryd.ntmps7
  obtain ⟨st1, st2, st3⟩ := rsum_start w
  have ST1 := Lib.hid st1
  have ST2 := Lib.hid st2
  have ST3 := Lib.hid st3
  clear st1 st2 st3
  go_wp2_with fail
  refine (HPAD.out _ ST3.out).mono ?_
  rintro en w1 ⟨v4, rfl, ho4, hb4⟩
  have R1 := ST1.out.below hb4 ST1.out.lt
  have R2 := ST2.out.below hb4 ST2.out.lt
  have B1 := ST3.out.trans (hb4.mono ST3.out.size)
  obtain ⟨A4, cap4, rfl, hcap4⟩ := own_slice ho4
  have ho5 : w1.ownsRow (w.heap.size + 1 + 1) 5 1 (.slice A4 P.length cap4) P.length (bys P) := by simpa using ho4
  rw [← HPL.out] at ho5 hcap4 ⊢
  have HO := Lib.hid ho5
  have HR1' := Lib.hid R1
  have HB1 := Lib.hid B1
  have HS0 := Lib.hid (show SRel (w.heap.size + 1) w1 (words8 init) w1 from ⟨Only.refl _ _, R2⟩)
  clear ho4 ho5 hb4 R1 R2 B1 ST1 ST2 ST3
  go_wp2_with fail
  go_loopw [5] (fun x wr => ∃ k : Nat, 64 * k ≤ pl ∧ x = .int .i64 ((64 * k : Nat) : Int) ∧ SRel (w.heap.size + 1) w1 (words8 (blocks P k init)) wr) (fun x _ => pl - (intOf x).toNat)
  case atStart => exact ⟨0, Nat.zero_le _, rfl, HS0.out⟩
  case round =>
    obtain ⟨k, hk, rfl, hS⟩ := hrel
    obtain ⟨⟨xa, xb, xc, xd, xe, xf, xg, xh⟩, hX⟩ : ∃ S, S = blocks P k init := ⟨_, rfl⟩
    rw [← hX] at hS
    have HX := Lib.hid hX
    clear HS0
    by_cases hlt : 64 * k < pl
    · have hlt2 : 64 * k + 64 ≤ pl := by have := HMUL.out; omega
      obtain ⟨at0, hat⟩ : ∃ m, m = 64 * k := ⟨_, rfl⟩
      rw [← hat] at hlt2 ⊢
      have HAT := Lib.hid hat
      obtain ⟨A', hcut, _⟩ := cut_lh (hS.1.sees HO.out (by omega)) hcap4 (show at0 ≤ at0 + 64 by omega) hlt2
      have e64 : at0 + 64 - at0 = 64 := by omega
      have hcB : (P.drop at0).take 64 = cutB P k := by rw [hat]; rfl
      have hblen : (cutB P k).length = 64 := by rw [← hcB]; simp; have := HPL.out; omega
      obtain ⟨⟨ya, yb, yc, yd, ye, yf, yg, yh⟩, hY⟩ : ∃ S, S = block (blocks P k init) (cutB P k) := ⟨_, rfl⟩
      have hrd : ∀ W, SRel (w.heap.size + 1) w1 (words8 ⟨xa, xb, xc, xd, xe, xf, xg, xh⟩) W → Calls Tryd.prog 14 #[.agg #[.int .u64 (xa : Int), .int .u64 (xb : Int), .int .u64 (xc : Int), .int .u64 (xd : Int), .int .u64 (xe : Int), .int .u64 (xf : Int), .int .u64 (xg : Int), .int .u64 (xh : Int)], .slice A' 64 (cap4 - at0)] W fun en w' => en = .returned (.agg #[.int .u64 (ya : Int), .int .u64 (yb : Int), .int .u64 (yc : Int), .int .u64 (yd : Int), .int .u64 (ye : Int), .int .u64 (yf : Int), .int .u64 (yg : Int), .int .u64 (yh : Int)]) ∧ SRel (w.heap.size + 1) w1 (words8 ⟨xa, xb, xc, xd, xe, xf, xg, xh⟩) w' := fun W hW => by
        obtain ⟨A'', hcut2, hsee2⟩ := cut_lh (hW.1.sees HO.out (by omega)) hcap4 (show at0 ≤ at0 + 64 by omega) hlt2
        have e1 : A' = A'' := by
          have h1 := hcut W
          have h2 := hcut2 W
          rw [h1] at h2
          injection h2 with h2 _
          injection h2
        rw [e64, hcB, ← e1] at hsee2
        have := round_any (blocks P k init) (.slice A' 64 (cap4 - at0)) (cutB P k) W (blocks_ok _ init_ok k) hsee2 hblen
        rw [← hY, ← hX] at this
        exact this.mono fun _ _ h => ⟨h.1, hW.below h.2⟩
      have HRD := Lib.hid hrd
      have HY := Lib.hid (show ⟨ya, yb, yc, yd, ye, yf, yg, yh⟩ = blocks P (k + 1) init from hY)
      rw [e64] at hcut
      have ec : ((at0 + 64 : Nat) : Int) = (at0 : Int) + 64 := by omega
      rw [ec] at hcut
      clear hat hX hrd hY hcB hblen e64 ec
      have t1 : (at0 : Int) < (pl : Int) := by omega
      have t3 : IntKind.i64.wrap ((at0 : Int) + 64) = (at0 : Int) + 64 := IntWalk.i64_in _ (by omega)
      obtain ⟨m0, m1, m2, m3, m4, m5, m6, m7⟩ := hS.cells
      have HS := Lib.hid hS.drew
      clear hS
      go_wp2_with fail
      go_region_law (first
        | (go_simp; go_at_call 14; ((with_reducible refine (HRD.out _ HS.out).mono ?_)); rintro en w2 ⟨rfl, hS2⟩; have yfz := row_frozen hS2.2; obtain ⟨y0, y1, y2, y3, y4, y5, y6, y7⟩ := hS2.cells))
      have HN := Lib.hid (show SRel (w.heap.size + 1) w1 (words8 (blocks P (k + 1) init)) ((((((((w2.setCell ⟨w.heap.size + 1, 0, none⟩ (.int .u64 (ya : Int))).setCell ⟨w.heap.size + 1, 1, none⟩ (.int .u64 (yb : Int))).setCell ⟨w.heap.size + 1, 2, none⟩ (.int .u64 (yc : Int))).setCell ⟨w.heap.size + 1, 3, none⟩ (.int .u64 (yd : Int))).setCell ⟨w.heap.size + 1, 4, none⟩ (.int .u64 (ye : Int))).setCell ⟨w.heap.size + 1, 5, none⟩ (.int .u64 (yf : Int))).setCell ⟨w.heap.size + 1, 6, none⟩ (.int .u64 (yg : Int))).setCell ⟨w.heap.size + 1, 7, none⟩ (.int .u64 (yh : Int))) by rw [← HY.out]; exact hS2.sets rfl)
      clear hS2 yfz y0 y1 y2 y3 y4 y5 y6 y7 m0 m1 m2 m3 m4 m5 m6 m7 t3 hcut
      go_wp2_with fail
      go_roundw
      case rel => exact ⟨k + 1, by have := HAT.out; omega, congrArg (Value.int .i64) (by have := HAT.out; omega), HN.out⟩
      case measure => simp [intOf]; omega
    · have HK := Lib.hid (show k = pl / 64 by have := HMUL.out; omega)
      have hrs : rs = bys (outL ⟨xa, xb, xc, xd, xe, xf, xg, xh⟩) := by rw [HSUM.out, HX.out, HK.out, HPL.out]
      have hok : S8.Ok ⟨xa, xb, xc, xd, xe, xf, xg, xh⟩ := by rw [HX.out]; exact blocks_ok _ init_ok _
      have HOK := Lib.hid hok
      have HRS := Lib.hid hrs
      obtain ⟨wB, rfl⟩ : ∃ wB, wB = wr := ⟨_, rfl⟩
      have R0 := Row.new wB 24 (bys (List.replicate 32 0))
      have k2 := Lib.hid (R0.storeAt (P := Tryd.prog) (ds := bys (List.replicate 32 0)) info32 (by rw [bys_len, List.length_replicate]) (by rw [bys_len, List.length_replicate]) (bys_one _))
      have HO1 := Lib.hid (show ORel wB ⟨xa, xb, xc, xd, xe, xf, xg, xh⟩ 0 ((wB.alloc (.cells (bys (List.replicate 32 0)).toArray 24)).setRow wB.heap.size (bys (List.replicate 32 0)).toArray) from ⟨below_setRow (below_made wB _) (Nat.le_refl _) _, R0.put _⟩)
      have HS := Lib.hid hS
      have t1 : ¬ ((64 * k : Nat) : Int) < (pl : Int) := by omega
      obtain ⟨at0, hat⟩ : ∃ m, m = 64 * k := ⟨_, rfl⟩
      rw [← hat] at t1 ⊢
      clear R0 hS hX hrs hok hat
      go_wp2_with (refine wpList_storeP (t := 24) (x := .tmp 6) (y := .tmp 24) (ORel wB ⟨xa, xb, xc, xd, xe, xf, xg, xh⟩ 0) rfl rfl (.pointer (some ⟨wB.heap.size, 0, none⟩)) (.agg (bys (List.replicate 32 0)).toArray) rfl rfl k2.out HO1.out ?_; intro W5 hW5)
      clear k2 HO1
      have HW5 := Lib.hid hW5
      clear hW5
      go_loopw [7] (fun x wr => ∃ i : Nat, i ≤ 32 ∧ x = .int .i64 (i : Int) ∧ ORel wB ⟨xa, xb, xc, xd, xe, xf, xg, xh⟩ i wr) (fun x _ => 32 - (intOf x).toNat)
      case atStart => exact ⟨0, by omega, rfl, HW5.out⟩
      case round =>
        obtain ⟨i, hi, rfl, hO⟩ := hrel
        have HOi := Lib.hid hO
        clear HW5
        by_cases hi32 : i < 32
        · obtain ⟨q, hq⟩ : ∃ q, q = i / 4 := ⟨_, rfl⟩
          obtain ⟨r, hr⟩ : ∃ r, r = i % 4 := ⟨_, rfl⟩
          have hq8 : q < 8 := by omega
          have hr4 : r < 4 := by omega
          have hc := hO.1.cell (p := ⟨w.heap.size + 1, q, none⟩) HS.out.2.lt
          rw [HS.out.2.cell, u64s_at hq8] at hc
          obtain ⟨x, hx⟩ : ∃ x, x = (words8 ⟨xa, xb, xc, xd, xe, xf, xg, xh⟩).getD q 0 := ⟨_, rfl⟩
          have lx := words_lt HOK.out q
          rw [← hx] at hc lx
          obtain ⟨p, hp⟩ : ∃ p, p = 2 ^ (24 - 8 * r) := ⟨_, rfl⟩
          have hpow : ∀ W, Calls Tryd.prog 15 #[.int .i64 (24 - 8 * (r : Int))] W fun e w' => e = .returned (.int .u64 (p : Int)) ∧ w' = W := fun W => by
            rw [hp, show (24 : Int) - 8 * (r : Int) = ((24 - 8 * r : Nat) : Int) by omega]
            exact (power_any (24 - 8 * r) W (by omega)).mono fun _ _ h => ⟨h.1, h.2.symm⟩
          have HPOW := Lib.hid hpow
          have hp0 : 0 < p := by rw [hp]; exact Nat.two_pow_pos _
          have HB := Lib.hid (show ((x / p % 256 : Nat) : Int) = ((byteAt ((words8 ⟨xa, xb, xc, xd, xe, xf, xg, xh⟩).getD (i / 4) 0) (3 - i % 4)).toNat : Int) by rw [← hq, ← hr, ← hx, ← byte_pow hr4, hp])
          obtain ⟨y, hy⟩ : ∃ y, y = x / p := ⟨_, rfl⟩
          have hyx : y ≤ x := by rw [hy]; exact Nat.div_le_self _ _
          have d1 : (i : Int) / 4 = (q : Int) := by omega
          have d2 : (i : Int) % 4 = (r : Int) := by omega
          have d3 : (i : Int).tdiv 4 = (q : Int) := by rw [Int.tdiv_eq_ediv_of_nonneg (by omega)]; exact d1
          have d4 : (i : Int).tmod 4 = (r : Int) := by rw [Int.tmod_eq_emod_of_nonneg (by omega)]; exact d2
          have d5 : (x : Int) / (p : Int) = (y : Int) := by rw [hy]; simp
          have d6 : (x : Int).tdiv (p : Int) = (y : Int) := by rw [Int.tdiv_eq_ediv_of_nonneg (by omega)]; exact d5
          have d7 : (y : Int).tmod 256 = (y : Int) % 256 := Int.tmod_eq_emod_of_nonneg (by omega)
          have HY := Lib.hid hy
          have f1 := hO.2.frozen i
          have hst : ∃ u, wr.cell? ⟨wB.heap.size, i, none⟩ = some (.int .u8 u) := by
            rw [hO.2.cell, bys_at (by rw [rfill_len]; exact hi32)]; exact ⟨_, rfl⟩
          obtain ⟨u0, hst⟩ := hst
          clear hq hr hx hp hpow hy hO
          have w1' : IntKind.i64.wrap (8 * (r : Int)) = 8 * (r : Int) := IntWalk.i64_in _ (by omega)
          have w2' : IntKind.i64.wrap (24 - 8 * (r : Int)) = 24 - 8 * (r : Int) := IntWalk.i64_in _ (by omega)
          have w3' : IntKind.i64.wrap (q : Int) = (q : Int) := IntWalk.i64_in _ (by omega)
          have w4' : IntKind.i64.wrap (r : Int) = (r : Int) := IntWalk.i64_in _ (by omega)
          have w5' : IntKind.u64.wrap (y : Int) = (y : Int) := wrap_u64 (by omega)
          have p1 : (0 : Int) < (p : Int) := by omega
          have p2 : ((p : Int) == 0) = false := by simp; omega
          have p3 : (0 : Int) ≤ (q : Int) := by omega
          have p4 : (q : Int) < 8 := by omega
          have p5 : ¬ p = 0 := by omega
          go_wp2_with fail
          refine wp_region_still_tail 13 (by kernel_rfl) (by kernel_rfl) ?_
          simp only [List.take_succ_cons, List.take_zero, List.drop_succ_cons, List.drop_zero]
          repeat (first | still_step | (refine wpStill_step (fun K hK => ?_); go_simp; with_reducible refine ⟨_, HPOW.out _, hK _ ?_⟩; clear hK K))
          refine wpStill_nil ?_
          change wpList _ _ _ _ _ wr.drew
          go_wp2_with fail
          have HO2 := Lib.hid (HOi.out.step (x := (y : Int) % 256) (by rw [← HB.out, ← HY.out]; omega))
          go_roundw
          case rel => exact ⟨i + 1, by omega, by go_num, HO2.out⟩
          case measure => simp [intOf]; omega
        · have H32 := Lib.hid (show i = 32 by omega)
          have hO2 := HOi.out
          rw [H32.out] at hO2
          obtain ⟨hb0, hr2⟩ := hO2
          rw [rfill_done, ← HRS.out] at hr2
          have hr1 := (HS.out.1.row HR1'.out (by omega)).below hb0 (HS.out.1.row HR1'.out (by omega)).lt
          have hbw := HS.out.1.far HB1.out (show w.heap.size ≤ w.heap.size + 1 by omega)
          have k1 := Lib.hid (hr2.loadAt (P := Tryd.prog) Tryd.underlying24 info32 HRL.out)
          have k2 := Lib.hid (hr1.storeAt (P := Tryd.prog) (ds := rs) info32 (by rw [bys_len, List.length_replicate]) HRL.out HR1.out)
          have hr3 := hr1.put rs
          have HB' := Lib.hid (below_setRow (hbw.trans (hb0.mono hbw.size)) (Nat.le_refl _) rs.toArray)
          clear hb0 hr1 hr2 hbw hO
          go_wp2_with (first
            | (refine wpList_load (t := 24) (x := .tmp 6) rfl rfl (.pointer (some ⟨wB.heap.size, 0, none⟩)) rfl k1.out ?_)
            | (refine wpList_store (t := 24) (x := .tmp 2) (y := .tmp 43) rfl rfl (.pointer (some ⟨w.heap.size, 0, none⟩)) (.agg rs.toArray) rfl rfl k2.out ?_))
          exact bodyPost_ret (hr3.results Tryd.underlying24 info32 HRL.out Tryd.results7 _ rfl) rfl ⟨rfl, HB'.out⟩
end Go.Proofs.YtcccgcahmnmchaaDoor
