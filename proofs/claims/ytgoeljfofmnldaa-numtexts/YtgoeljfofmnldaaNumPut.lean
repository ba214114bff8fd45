/-
  The walks of num.magnitude and num.Put.
-/
import Derived.Test.YtgoeljfofmnldaaNumText
import Derived.Test.YtgoeljfofmnldaaPutMath
import Derived.Laws.IdiomStrings
namespace Go.Proofs.Ytgoeljfofmnldaa
open Go.RowKit NumM

set_option maxHeartbeats 400000 in
theorem mag_pos (n : Int) (w : World) (h : 0 ≤ n) (h2 : n ≤ 9223372036854775807) :
    Calls Try.prog 20 #[.int .i64 n] w fun e w' => e = .returned (.int .u64 n) ∧ w = w' := by
  go_enter Try.func20, Try.ntmps20
  go_wp2
  go_ret
  exact ⟨rfl, rfl⟩

theorem wrap_neg (n : Int) (h : n < 0) (h2 : -9223372036854775808 ≤ n) : IntKind.u64.wrap (-IntKind.u64.wrap n) = -n := by
  simp only [IntKind.wrap, IntKind.bits, IntKind.signed, Bool.false_and]
  simp
  omega

set_option maxHeartbeats 400000 in
theorem mag_neg (n : Int) (w : World) (h : n < 0) (h2 : -9223372036854775808 ≤ n) :
    Calls Try.prog 20 #[.int .i64 n] w fun e w' => e = .returned (.int .u64 (-n)) ∧ w = w' := by
  go_enter Try.func20, Try.ntmps20
  go_wp2
  go_ret
  exact ⟨ret_int (wrap_neg n h h2), rfl⟩


/-- The digits ds stand in the last cells of the row of 20 bytes at block N. -/
def Digs (N : Nat) (w wr : World) (a : Nat) (ds : List UInt8) : Prop :=
  Below N w wr ∧ (∀ i, i < 20 → ∃ v, wr.cell? ⟨N, i, none⟩ = some (.int .u8 v)) ∧ (∀ i, i < 20 → wr.frozen? ⟨N, i, none⟩ = false) ∧
  a + ds.length = 20 ∧ ∀ j (hj : j < ds.length), wr.cell? ⟨N, a + j, none⟩ = some (.int .u8 (ds[j].toNat : Int))

theorem set_same {w : World} {b i : Nat} {u : Value} (h : w.cell? ⟨b, i, none⟩ = some u) (v : Value) : (w.setCell ⟨b, i, none⟩ v).cell? ⟨b, i, none⟩ = some v :=
  World.cell?_setCell_same w _ v h
theorem set_other {w : World} {b i j : Nat} (v : Value) (h : i ≠ j) : (w.setCell ⟨b, i, none⟩ v).cell? ⟨b, j, none⟩ = w.cell? ⟨b, j, none⟩ :=
  World.cell?_setCell_other w _ _ v (by intro hc; injection hc with _ hc; exact h hc)

theorem Digs.cons {N : Nat} {w wr : World} {a : Nat} {ds : List UInt8} (h : Digs N w wr (a + 1) ds) (c : UInt8) :
    Digs N w (wr.setCell ⟨N, a, none⟩ (.int .u8 (c.toNat : Int))) a (c :: ds) := by
  obtain ⟨h1, h2, h3, h4, h5⟩ := h
  obtain ⟨v, hv⟩ := h2 a (by omega)
  refine ⟨h1.setCell (Nat.le_refl _) _, fun i hi => ?_, fun i hi => by simpa using h3 i hi, by simp; omega, fun j hj => ?_⟩
  · by_cases e : i = a
    · subst e; exact ⟨_, set_same hv _⟩
    · rw [set_other _ (fun hc => e hc.symm)]; exact h2 i hi
  · cases j with
    | zero => exact set_same hv _
    | succ j =>
      rw [set_other _ (by omega)]
      have := h5 j (by simpa using hj)
      simpa [show a + 1 + j = a + (j + 1) from by omega] using this

theorem digs_start (w : World) (n : Nat) : Digs w.heap.size w (w.alloc (.cells (Array.replicate 20 (.int .u8 0)) n)) 20 [] := by
  refine ⟨(Below.refl _ _).alloc (Nat.le_refl _) _, fun i hi => ⟨0, ?_⟩, fun i hi => ?_, rfl, fun j hj => absurd hj (by simp)⟩
  · rw [World.cell?_alloc_mark]; simp [hi]
  · rw [World.frozen?_alloc_mark]; simp

theorem digs_run {N : Nat} {w wr : World} {a : Nat} {ds : List UInt8} (h : Digs N w wr a ds) (cap : Nat) :
    (convert 41 9 (.slice (some ⟨N, a, none⟩) (20 - a) cap)).run Try.prog wr = .ok (.string ⟨ds.toArray⟩) wr := by
  obtain ⟨h1, h2, h3, h4, h5⟩ := h
  have e : 20 - a = ds.length := by omega
  rw [e]
  refine run_convert_bytes_back wr 41 9 5 ⟨N, a, none⟩ cap ds Try.underlying41 Try.underlying5 Try.underlying9 (fun j hj => ?_)
  have := h5 j hj
  by_cases e0 : j = 0
  · subst e0; simpa [Addr.add] using this
  · simpa [Addr.add, e0] using this

theorem slice20 (N b : Nat) (hb : b < 20) (W : World) :
    (Instr.sliceAt 38 (.pointer (some ⟨N, 0, none⟩)) (some (.int .i64 (b : Int))) none none).run Try.prog W = .ok (.slice (some ⟨N, b, none⟩) (20 - b) (20 - b)) W := by
  have ht : Try.prog.underlying 38 = some (.array (Try.prog.arrayLen 38) (Try.prog.elem 38)) := by kernel_rfl
  have hl : Try.prog.arrayLen 38 = 20 := by kernel_rfl
  have hz : ∀ W, (sizeOf (Try.prog.elem 38)).run Try.prog W = .ok 1 W := fun _ => by kernel_rfl
  rw [run_sliceAt_array_l W 38 _ ht .i64 b (by omega) (by rw [hl]; omega), hz, hl]
  have hb' : ¬ 20 = b := by omega
  by_cases h0 : b = 0
  · subst h0; simp [Result.andThen, slicedAt, Addr.add]
  · simp [Result.andThen, slicedAt, hb', Addr.add, h0]

theorem ret_str {a b : ByteArray} (h : a = b) : Ending.returned (.string a) = .returned (.string b) := by rw [h]

set_option maxHeartbeats 1000000 in
theorem put_pos (n : Int) (w : World) (h : 0 ≤ n) (h2 : n ≤ 9223372036854775807) :
    Calls Try.prog 15 #[.int .i64 n] w fun e w' => e = .returned (.string ⟨(putL n).toArray⟩) ∧ Below w.heap.size w w' := by
  obtain ⟨m, rfl⟩ := Int.eq_ofNat_of_zero_le h
  have hpl : putL (m : Int) = dec m := by simp [putL]
  rw [hpl]
  clear hpl
  have hm : m ≤ 9223372036854775807 := by omega
  go_enter Try.func15, Try.ntmps15
  go_wp2_with (go_at_call 20; refine (mag_pos _ _ h h2).mono ?_; rintro e w' ⟨rfl, rfl⟩)
  go_loopw [4, 5] (fun p r wr => ∃ (b q : Nat) (ds : List UInt8), p = .int .i64 ((b : Int) + 1) ∧ r = .int .u64 (q : Int) ∧ q ≤ 9223372036854775807 ∧ (dec q).length ≤ b ∧ dec m = dec q ++ ds ∧ Digs w.heap.size w wr (b + 1) ds) (fun _ r _ => (intOf r).toNat)
  case atStart => exact ⟨19, m, [], rfl, rfl, hm, dec_len19 (by omega), by simp, digs_start w _⟩
  case round =>
    obtain ⟨b, q, ds, rfl, rfl, hq, hlen, hdec, hD⟩ := hrel
    obtain ⟨c, hc⟩ := hD.2.1 b (by have := hD.2.2.2.1; omega)
    have hf := hD.2.2.1 b (by have := hD.2.2.2.1; omega)
    have hb : b < 20 := by have := hD.2.2.2.1; omega
    have HD := Lib.hid hD
    have HL := Lib.hid hlen
    have HE := Lib.hid hdec
    clear hD hlen hdec
    have hdq : (48 + (q : Int) % 10) = ((dig q).toNat : Int) := by rw [dig_toNat]; omega
    have hD' : Digs w.heap.size w (wr.setCell ⟨w.heap.size, b, none⟩ (.int .u8 (48 + (q : Int) % 10))) b (dig q :: ds) := by
      rw [hdq]; exact HD.out.cons (dig q)
    have HD' := Lib.hid hD'
    clear hdq hD'
    by_cases hq10 : q < 10
    · have ht : ((q : Int) / 10 == 0) = true := by simp; omega
      have hsl := slice20 w.heap.size b hb
      have hcv := digs_run HD'.out (20 - b)
      have hfin : (⟨(dig q :: ds).toArray⟩ : ByteArray) = ⟨(dec m).toArray⟩ := by rw [HE.out, dec_small hq10]; rfl
      generalize (⟨(dig q :: ds).toArray⟩ : ByteArray) = S at *
      have HF := Lib.hid hfin
      clear hfin
      go_wp2
      go_ret
      exact ⟨ret_str HF.out, HD'.out.1⟩
    · have ht : ((q : Int) / 10 == 0) = false := by simp; omega
      go_wp2
      go_roundw
      case rel =>
        have e : dec q = dec (q / 10) ++ [dig q] := dec_big (by omega)
        have hl := HL.out
        rw [e] at hl
        simp at hl
        have hp := dec_pos (q / 10)
        obtain ⟨b', rfl⟩ : ∃ b', b = b' + 1 := ⟨b - 1, by omega⟩
        refine ⟨b', q / 10, dig q :: ds, by go_num, by go_num, by omega, by omega, ?_, HD'.out⟩
        rw [HE.out, e]; simp
      case measure => simp [intOf]; omega
set_option maxHeartbeats 1000000 in
theorem put_neg (n : Int) (w : World) (h : n < 0) (h2 : -9223372036854775808 ≤ n) :
    Calls Try.prog 15 #[.int .i64 n] w fun e w' => e = .returned (.string ⟨(putL n).toArray⟩) ∧ Below w.heap.size w w' := by
  obtain ⟨m, hmn⟩ : ∃ m : Nat, -n = m := ⟨n.natAbs, by omega⟩
  have hpl : putL n = 45 :: dec m := by
    have : n.natAbs = m := by omega
    simp [putL, h, this]
  rw [hpl]
  have hm : m ≤ 9223372036854775808 := by omega
  have HM := Lib.hid hmn
  clear hpl hmn
  go_enter Try.func15, Try.ntmps15
  go_wp2_with (go_at_call 20; refine (mag_neg _ _ h h2).mono ?_; rw [HM.out]; rintro e w' ⟨rfl, rfl⟩)
  go_loopw [4, 5] (fun p r wr => ∃ (b q : Nat) (ds : List UInt8), p = .int .i64 ((b : Int) + 1) ∧ r = .int .u64 (q : Int) ∧ q ≤ 9223372036854775808 ∧ (dec q).length ≤ b ∧ dec m = dec q ++ ds ∧ Digs w.heap.size w wr (b + 1) ds) (fun _ r _ => (intOf r).toNat)
  case atStart => exact ⟨19, m, [], rfl, rfl, hm, dec_len19 (by omega), by simp, digs_start w _⟩
  case round =>
    obtain ⟨b, q, ds, rfl, rfl, hq, hlen, hdec, hD⟩ := hrel
    obtain ⟨c, hc⟩ := hD.2.1 b (by have := hD.2.2.2.1; omega)
    have hf := hD.2.2.1 b (by have := hD.2.2.2.1; omega)
    have hb : b < 20 := by have := hD.2.2.2.1; omega
    have HD := Lib.hid hD
    have HL := Lib.hid hlen
    have HE := Lib.hid hdec
    clear hD hlen hdec
    have hdq : (48 + (q : Int) % 10) = ((dig q).toNat : Int) := by rw [dig_toNat]; omega
    have hD' : Digs w.heap.size w (wr.setCell ⟨w.heap.size, b, none⟩ (.int .u8 (48 + (q : Int) % 10))) b (dig q :: ds) := by
      rw [hdq]; exact HD.out.cons (dig q)
    have HD' := Lib.hid hD'
    clear hdq hD'
    by_cases hq10 : q < 10
    · have ht : ((q : Int) / 10 == 0) = true := by simp; omega
      have hl := HL.out
      have hp := dec_pos q
      obtain ⟨b, rfl⟩ : ∃ b', b = b' + 1 := ⟨b - 1, by omega⟩
      clear hl hp
      have hsl := slice20 w.heap.size b (by omega)
      have hD2 := HD'.out.cons 45
      rw [show (((45 : UInt8).toNat : Nat) : Int) = 45 from rfl] at hD2
      obtain ⟨c2, hc2⟩ := HD'.out.2.1 b (by omega)
      have hf2 := HD'.out.2.2.1 b (by omega)
      have hcv := digs_run hD2 (20 - b)
      have HD2 := Lib.hid hD2
      clear hD2
      have hfin : (⟨(45 :: dig q :: ds).toArray⟩ : ByteArray) = ⟨(45 :: dec m).toArray⟩ := by rw [HE.out, dec_small hq10]; rfl
      generalize (⟨(45 :: dig q :: ds).toArray⟩ : ByteArray) = S at *
      have HF := Lib.hid hfin
      clear hfin
      go_wp2
      go_ret
      exact ⟨ret_str HF.out, HD2.out.1⟩
    · have ht : ((q : Int) / 10 == 0) = false := by simp; omega
      go_wp2
      go_roundw
      case rel =>
        have e : dec q = dec (q / 10) ++ [dig q] := dec_big (by omega)
        have hl := HL.out
        rw [e] at hl
        simp at hl
        have hp := dec_pos (q / 10)
        obtain ⟨b', rfl⟩ : ∃ b', b = b' + 1 := ⟨b - 1, by omega⟩
        refine ⟨b', q / 10, dig q :: ds, by go_num, by go_num, by omega, by omega, ?_, HD'.out⟩
        rw [HE.out, e]; simp
      case measure => simp [intOf]; omega

theorem put_any (n : Int) (w : World) (h1 : -9223372036854775808 ≤ n) (h2 : n ≤ 9223372036854775807) :
    Calls Try.prog 15 #[.int .i64 n] w fun e w' => e = .returned (.string ⟨(putL n).toArray⟩) ∧ Below w.heap.size w w' := by
  by_cases h : n < 0
  · exact put_neg n w h h1
  · exact put_pos n w (by omega) h2
end Go.Proofs.Ytgoeljfofmnldaa
