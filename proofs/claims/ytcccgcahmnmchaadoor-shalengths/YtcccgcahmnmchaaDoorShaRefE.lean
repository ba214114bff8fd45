/-
  The walk of the reference's padded.
-/
import Derived.Test.YtcccgcahmnmchaaDoorShaEnd
namespace Go.Proofs.YtcccgcahmnmchaaDoor
open Go.RowKit StrM ShaM

/-- The last i of the eight bytes of a number. -/
def low8 (n i : Nat) : List UInt8 := (be8 n).drop (8 - i)
theorem low8_step (n : Nat) {i : Nat} (hi : i < 8) : byteAt n i :: low8 n i = low8 n (i + 1) := by
  rcases i with _ | _ | _ | _ | _ | _ | _ | _ | i <;> first | rfl | omega
theorem low8_len (n i : Nat) (hi : i ≤ 8) : (low8 n i).length = i := by simp [low8, be8]; omega

theorem own_one (w : World) (e : TypeId) (u : Value) : (w.alloc (.cells #[u] e)).ownsRow w.heap.size e 1 (.slice (some ⟨w.heap.size, 0, none⟩) 1 1) 1 [u] :=
  ⟨rfl, .inr ⟨w.heap.size, 1, #[u], rfl, Nat.le_refl _, heap_alloc_new w _, Nat.le_refl _, by unfold maxLen; omega, rfl, rfl⟩⟩
/-- How far the tail of padded has come, behind the world wA. -/
def DRel (wA : World) (n i : Nat) (t : Value) (wr : World) : Prop := Below wA.heap.size wA wr ∧ wr.ownsRow wA.heap.size 5 1 t i (bys (low8 n i))
theorem DRel.step {wA wr w2 : World} {n i : Nat} {t t' : Value} (h : DRel wA n i t wr) (hi : i < 8) {x : Int} (hx : x = ((byteAt n i).toNat : Int)) (h1 : w2.ownsRow wA.heap.size 5 1 t' (1 + i) ([.int .u8 x] ++ bys (low8 n i))) (h2 : Below wA.heap.size (wr.alloc (.cells #[.int .u8 x] 5)) w2) : DRel wA n (i + 1) t' w2 := by
  subst hx
  refine ⟨(h.1.alloc h.1.size _).trans h2, ?_⟩
  have e : bys (low8 n (i + 1)) = [.int .u8 ((byteAt n i).toNat : Int)] ++ bys (low8 n i) := by rw [← low8_step n hi]; rfl
  rw [e, Nat.add_comm i 1]; exact h1

set_option maxHeartbeats 800000 in
set_option maxRecDepth 100000 in
theorem padded_any (A : Option Addr) (len cap : Nat) (l : List UInt8) (w : World) (hv : SeesV w (.slice A len cap) (bys l)) (hl : len ≤ 1000000) :
    Calls Tryd.prog 13 #[.slice A len cap] w (EndPost (padL l) w) := by
  have hlen : l.length = len := by obtain ⟨_, _, e, _⟩ := hv; injection e with _ e _; rw [e, bys_len]
  have H0 := Lib.hid (own_made w 5)
  have HV := Lib.hid (hv.later (below_made w (.cells #[] 5)))
  have HLEN := Lib.hid hlen
  clear hv hlen
  go_enter Tryd.func13, Tryd.ntmps13
  go_wp2_with (at_builtin; refine append_all oneByte rfl (.tmp 7) (.tmp 8) rfl w.heap.size _ _ _ rfl H0.out _ (bys l) rfl HV.out (bys_ones l) ?a1 ?a2 ?a3 ?_)
  case a1 => rw [bys_len, HLEN.out]; omega
  case a2 => rw [bys_len, HLEN.out]; unfold maxLen; omega
  case a3 => simp
  intro v1 w1 ho1 hb1
  have HE1 := Lib.hid (show ERel w v1 l w1 from ⟨by simpa [bys_len] using ho1, (below_made w _).trans hb1⟩)
  clear ho1 hb1
  have hz1 := HE1.out.2.size
  go_wp2_with (at_builtin; refine append_one oneByte rfl _ _ rfl w.heap.size _ _ _ rfl HE1.out.1 (.int .u8 128) rfl rfl ?b1 ?b2 ?b3 ?_)
  case b1 => rw [HLEN.out]; omega
  case b2 => rw [HLEN.out]; unfold maxLen; omega
  case b3 => exact hz1
  intro v2 w2 ho2 hb2
  have HE2 := Lib.hid (show ERel w v2 (endAt l l.length 0 0) w2 from HE1.out.step (c := 128) rfl ho2 hb2)
  clear ho2 hb2 HE1 hz1
  go_wp2_with fail
  go_loopw [3] (fun x wr => ∃ k : Nat, k ≤ zeros l.length ∧ ERel w x (endAt l l.length k 0) wr) (fun x _ => len + 100 - (sliceLen x))
  case atStart => exact ⟨0, Nat.zero_le _, HE2.out⟩
  case round =>
    obtain ⟨k, hk, hE⟩ := hrel
    obtain ⟨A1, cap1, hx, hcap⟩ := own_slice hE.1
    subst hx
    have HE := Lib.hid hE
    have hz := hE.2.size
    have hzl := zeros_lt l.length
    have hln := endAt_len l l.length k 0 (by omega)
    have hlen := HLEN.out
    clear hE HE2
    obtain ⟨m, hm⟩ : ∃ m, m = (endAt l l.length k 0).length := ⟨_, rfl⟩
    rw [← hm] at hcap hln ⊢
    have HM := Lib.hid hm
    have HLN := Lib.hid hln
    have hm1 : m ≤ 2000000 := by omega
    have hm2 : m < len + 100 := by omega
    clear hm
    by_cases hlt : k < zeros l.length
    · have ht : ((m : Int) % 64 != 56) = true := by
        have := zeros_before hlt
        simp only [bne_iff_ne, ne_eq]; omega
      clear hln hlen
      go_wp2_with (at_builtin; refine append_one oneByte rfl _ _ rfl w.heap.size _ m _ rfl (by rw [HM.out]; exact HE.out.1) (.int .u8 0) rfl rfl ?c1 ?c2 ?c3 ?_)
      case c1 => omega
      case c2 => unfold maxLen; omega
      case c3 => exact hz
      intro v3 w3 ho3 hb3
      have HE3 := Lib.hid (show ERel w v3 (endAt l l.length (k + 1) 0) w3 by
        rw [HM.out] at ho3
        have := HE.out.step (c := 0) rfl ho3 hb3
        rwa [endAt_zero] at this)
      have hv3 : ∃ A3 cap3, v3 = .slice A3 (m + 1) cap3 := by
        obtain ⟨A3, cap3, e, _⟩ := own_slice HE3.out.1
        exact ⟨A3, cap3, by rw [e, show (endAt l l.length (k + 1) 0).length = m + 1 by rw [endAt_len l l.length (k + 1) 0 (by omega)]; have := HLN.out; omega]⟩
      obtain ⟨A3, cap3, rfl⟩ := hv3
      clear ho3 hb3
      go_wp2_with fail
      go_roundw
      case rel => exact ⟨k + 1, by omega, HE3.out⟩
      case measure => simp [sliceLen]; omega
    · have HKZ := Lib.hid (show k = zeros l.length by omega)
      have ht : ((m : Int) % 64 != 56) = false := by
        have := zeros_fit l.length
        have := HKZ.out
        simp only [bne_eq_false_iff_eq]; omega
      clear hln hlen
      go_wp2_with fail
      obtain ⟨wA, rfl⟩ : ∃ wA, wA = wr := ⟨_, rfl⟩
      go_loopw [6, 4, 5] (fun y t x wr => ∃ i q : Nat, i ≤ 8 ∧ y = .int .i64 (i : Int) ∧ x = .int .u64 (q : Int) ∧ q ≤ 8000000 ∧ Hid (q = 8 * len / 256 ^ i) ∧ DRel wA (8 * len) i t wr) (fun y _ _ _ => 8 - (intOf y).toNat)
      case atStart => exact ⟨0, 8 * len, by omega, rfl, congrArg (Value.int .u64) (by omega), by omega, Lib.hid (by simp), below_made wA _, own_made wA _⟩
      case round =>
        obtain ⟨i, q, hi, rfl, rfl, hq, HQ, hD⟩ := hrel
        obtain ⟨A2, cap2, hx, hcap2⟩ := own_slice hD.2
        subst hx
        have HD := Lib.hid hD
        have hzD := hD.1.size
        clear hD
        by_cases hi8 : i < 8
        · have HX := Lib.hid (show (q : Int) % 256 = ((byteAt (8 * len) i).toNat : Int) by rw [byteAt_toNat, ← HQ.out]; omega)
          have HN := Lib.hid (show q / 256 = 8 * len / 256 ^ (i + 1) by rw [HQ.out, Nat.pow_succ, Nat.div_div_eq_div_mul])
          have O1 := Lib.hid (own_base (own_one wr 5 (.int .u8 ((q : Int) % 256))) hzD)
          have S1 := Lib.hid ((SeesV.of_own HD.out.2).later (below_made wr (.cells #[.int .u8 ((q : Int) % 256)] 5)))
          have hll := low8_len (8 * len) i hi
          have HLL := Lib.hid hll
          clear hll
          go_wp2_with (at_builtin; refine append_all oneByte rfl (.tmp 32) (.tmp 33) rfl wA.heap.size _ _ _ rfl O1.out _ (bys (low8 (8 * len) i)) rfl S1.out (bys_ones _) ?d1 ?d2 ?d3 ?_)
          case d1 => rw [bys_len, HLL.out]; omega
          case d2 => rw [bys_len, HLL.out]; unfold maxLen; omega
          case d3 => simp; omega
          intro t3 w3 ho3 hb3
          have HD3 := Lib.hid (show DRel wA (8 * len) (i + 1) t3 w3 from HD.out.step hi8 HX.out (by rw [bys_len, HLL.out] at ho3; exact ho3) hb3)
          clear ho3 hb3
          go_wp2_with fail
          go_roundw
          case rel => exact ⟨i + 1, q / 256, by omega, by go_num, by go_num, by omega, HN, HD3.out⟩
          case measure => simp [intOf]; omega
        · have H8 := Lib.hid (show i = 8 by omega)
          have O2 := Lib.hid (show wr.ownsRow w.heap.size 5 1 (.slice A1 m cap1) m (bys (endAt l l.length k 0)) by rw [HM.out]; exact own_below HE.out.1 HD.out.1)
          have S2 := Lib.hid (SeesV.of_own HD.out.2)
          have B2 := Lib.hid (show Below w.heap.size w wr from HE.out.2.trans (HD.out.1.mono hz))
          have hz2 := B2.out.size
          have HLL := Lib.hid (low8_len (8 * len) i hi)
          go_wp2_with (at_builtin; refine append_all oneByte rfl (.tmp 37) (.tmp 38) rfl w.heap.size _ _ _ rfl O2.out _ (bys (low8 (8 * len) i)) rfl S2.out (bys_ones _) ?e1 ?e2 ?e3 ?_)
          case e1 => rw [bys_len, HLL.out]; omega
          case e2 => rw [bys_len, HLL.out]; unfold maxLen; omega
          case e3 => exact hz2
          intro v4 w4 ho4 hb4
          have HF := Lib.hid (show EndPost (padL l) w (.returned v4) w4 by
            have e : bys (endAt l l.length k 0) ++ bys (low8 (8 * len) i) = bys (padL l) := by
              rw [← bys_add, H8.out]
              congr 1
              unfold padL
              rw [← endAt_done, HKZ.out, ← HLEN.out]
              simp [endAt, low8, be8]
            rw [e] at ho4
            have e2 : m + (bys (low8 (8 * len) i)).length = (padL l).length := by
              have := congrArg List.length e
              rw [List.length_append, bys_len, bys_len, bys_len] at this
              rw [bys_len, HM.out]; exact this
            rw [e2] at ho4
            exact ⟨v4, rfl, ho4, B2.out.trans hb4⟩)
          clear ho4 hb4
          go_wp2_with fail
          go_ret
          exact HF.out
end Go.Proofs.YtcccgcahmnmchaaDoor
