/-
  The walks of code.cut and code.take.
-/
import Derived.Test.YtnjnlbcbdhdipaaCodePut
namespace Go.Proofs.Ytnjnlbcbdhdipaa
open Go.RowKit StrM VaryM CodeM

/-- s[:j], j a uint64. -/
theorem cut_h64 {w : World} {A : Option Addr} {len cap : Nat} {l : List UInt8} (h : SeesV w (.slice A len cap) (bys l)) (hcap : len ≤ cap) {j : Nat} (hj : j ≤ len) :
    ∃ A', (∀ W, (Instr.sliceAt 25 (.slice A len cap) none (some (.int .u64 (j : Int))) none).run Try.prog W = .ok (.slice A' j cap) W) ∧ SeesV w (.slice A' j cap) (bys (l.take j)) := by
  obtain ⟨A', e, hs⟩ := sliced_sees h hcap (Nat.zero_le j) hj
  simp only [Nat.sub_zero, List.drop_zero] at e hs
  refine ⟨A', fun W => ?_, hs⟩
  rw [run_sliceAt_slice W _ _ _ _ _ elem_bytes, run_slice_h W _ A len cap elem_bytes .u64 _ (by omega) (by omega), size_byte]
  simp only [Result.andThen, Int.toNat_natCast, e]

/-- What cut returns: the text, the error. -/
def cutE (r : List UInt8) (u : Nat) : Value × Int := if 4096 < u then (.string ⟨#[]⟩, 4) else if r.length < u then (.string ⟨#[]⟩, 11) else (.string ⟨(r.take u).toArray⟩, 0)

set_option maxHeartbeats 800000 in
theorem cut_any' (A : Option Addr) (len cap : Nat) (r : List UInt8) (u : Nat) (w : World) (hs : SeesV w (.slice A len cap) (bys r)) (hcap : len ≤ cap) (hl : len ≤ 100000000) :
    Calls Try.prog 29 #[.slice A len cap, .int .u64 (u : Int)] w fun e w' => e = .returned (.tuple #[(cutE r u).1, .int .i64 (cutE r u).2]) ∧ w = w' := by
  have hn : r.length = len := by obtain ⟨_, _, e, _⟩ := hs; injection e with _ e _; rw [e, bys_len]
  by_cases h1 : 4096 < u
  · have h1' : (4096 : Int) < (u : Int) := by omega
    have HF := Lib.hid (show cutE r u = (.string ⟨#[]⟩, 4) by simp [cutE, h1])
    rw [HF.out]
    clear h1 hs
    go_enter Try.func29, Try.ntmps29
    go_wp2_with fail
    go_ret2
    exact ⟨rfl, rfl⟩
  · have h1' : decide ((4096 : Int) < (u : Int)) = false := by simp; omega
    have hwz : IntKind.u64.wrap (len : Int) = (len : Int) := by rw [wrap_u64_mod]; omega
    by_cases h2 : len < u
    · have h2' : (len : Int) < (u : Int) := by omega
      have HF := Lib.hid (show cutE r u = (.string ⟨#[]⟩, 11) by simp [cutE, h1, hn, h2])
      rw [HF.out]
      clear h1 hs h2
      go_enter Try.func29, Try.ntmps29
      go_wp2_with fail
      go_ret2
      exact ⟨rfl, rfl⟩
    · have h2' : decide ((len : Int) < (u : Int)) = false := by simp; omega
      obtain ⟨A', hcut, hsee⟩ := cut_h64 hs hcap (show u ≤ len by omega)
      have hconv := run_text_sees hsee
      have HF := Lib.hid (show cutE r u = (.string ⟨(r.take u).toArray⟩, 0) by simp [cutE, h1, hn, h2])
      rw [HF.out]
      clear h1 hs hsee
      generalize (⟨(r.take u).toArray⟩ : ByteArray) = S at *
      go_enter Try.func29, Try.ntmps29
      go_wp2_with fail
      go_ret2
      exact ⟨rfl, rfl⟩

/-- What take returns. -/
def takeVE (r : List UInt8) : Ending := .returned (.tuple #[vagg (takeV r).1, .int .i64 ((takeV r).2.1 : Int), .int .i64 ((takeV r).2.2 : Int)])
theorem takeVE_of {r : List UInt8} {v : V} {x e : Nat} {k n : Int} {t : ByteArray} {x' e' : Int} (h : takeV r = (v, x, e)) (hv : v = ⟨k, n, t⟩) (hx : x' = (x : Int)) (he : e' = (e : Int)) :
    Ending.returned (.tuple #[.agg #[.int .i64 k, .int .i64 n, .string t], .int .i64 x', .int .i64 e']) = takeVE r := by
  subst hv hx he
  rw [takeVE, h]; rfl

set_option maxHeartbeats 2000000 in
set_option maxRecDepth 100000 in
theorem take_any' (A : Option Addr) (len cap : Nat) (r : List UInt8) (w : World) (hs : SeesV w (.slice A len cap) (bys r)) (hcap : len ≤ cap) (hl : len ≤ 100000000) :
    Calls Try.prog 24 #[.slice A len cap] w fun e w' => e = takeVE r ∧ Below w.heap.size w w' := by
  have hn : r.length = len := by obtain ⟨_, _, e, _⟩ := hs; injection e with _ e _; rw [e, bys_len]
  have B0 := Lib.hid (below_made w (.cells #[.int .i64 0, .int .i64 0, .string ⟨#[]⟩] 37))
  cases r with
  | nil =>
    have h0 : len = 0 := by simpa using hn.symm
    subst h0
    have HF := Lib.hid (show takeV [] = (zero, 0, 11) from rfl)
    clear hs hn
    go_enter Try.func24, Try.ntmps24
    go_wp2_with fail
    exact bodyPost_ret (by simp [results, Try.results24, go_sem]) rfl ⟨takeVE_of HF.out rfl rfl rfl, B0.out⟩
  | cons c t =>
    have hpos : 0 < len := by rw [← hn]; simp
    have hpi : ¬ (len : Int) = 0 := by omega
    have hpb : ((len : Int) == 0) = false := by simpa using hpi
    have HS1 := Lib.hid (hs.later B0.out)
    obtain ⟨g, off, rfl, hg, hc⟩ := hs.cell (k := 0) (by simp)
    simp only [List.getElem_cons_zero, Nat.add_zero] at hc
    have hb0 : (0 : Int) ≤ (c.toNat : Int) := by omega
    have hb1 : (c.toNat : Int) < 256 := by have := c.toNat_lt; omega
    by_cases hk : c.toNat ≠ 1 ∧ c.toNat ≠ 2
    · have HF := Lib.hid (takeV_kind (r := t) hk.1 hk.2)
      have k1 : ((c.toNat : Int) == 1) = false := by simp; omega
      have k2 : ((c.toNat : Int) == 2) = false := by simp; omega
      have k1' : ¬ (c.toNat : Int) = 1 := by omega
      have k2' : ¬ (c.toNat : Int) = 2 := by omega
      have k3 : ((c.toNat : Int) != 1) = true := by simp; omega
      have k4 : ((c.toNat : Int) != 2) = true := by simp; omega
      clear hs hk
      generalize (c.toNat : Int) = ci at *
      go_enter Try.func24, Try.ntmps24
      go_wp2_with fail
      exact bodyPost_ret (by simp [results, Try.results24, go_sem]) rfl ⟨takeVE_of HF.out rfl rfl rfl, B0.out⟩
    · have hk' : c.toNat = 1 ∨ c.toNat = 2 := by omega
      obtain ⟨A1, hcut1, hsee1⟩ := cut_l HS1.out hcap (show 1 ≤ len by omega)
      rw [show List.drop 1 (c :: t) = t from rfl] at hsee1
      have VT := Lib.hid (vtake_all _ t _ hsee1)
      obtain ⟨T, ht⟩ : ∃ T, T = takeL t := ⟨_, rfl⟩
      have he : takeE t = .returned (.tuple #[.int .u64 (T.1 : Int), .int .i64 (T.2.1 : Int), .int .i64 (T.2.2 : Int)]) := by rw [takeE, ht]
      have herr : T.2.2 = 0 ∨ T.2.2 = 11 ∨ T.2.2 = 12 := by rw [ht]; exact takeF_err t 0 0
      have hult : T.1 < 18446744073709551616 := by rw [ht]; exact takeL_lt t
      obtain ⟨u, x, f⟩ := T
      rw [he] at VT
      have hcut1' : ∀ W, (Instr.sliceAt 25 (.slice (some ⟨g, off, none⟩) len cap) (some (.int .i64 1)) none none).run Try.prog W = .ok (.slice A1 (len - 1) (cap - 1)) W := hcut1
      have HS := Lib.hid hs
      clear he hsee1 hcut1 hs hk
      by_cases hf : f = 0
      · subst hf
        have hx := (VaryM.take_back ht.symm).2.1
        have hxl : x + 1 ≤ len := by rw [← hn]; simp; omega
        have hx9 : (1 : Int) + (x : Int) ≤ 100000000 := by omega
        rcases hk' with hk1 | hk2
        · have HF := Lib.hid (takeV_num hk1 ht.symm)
          have ZA := Lib.hid (fun w => zag_any (u : Int) w (by omega) (by have : u < 18446744073709551616 := hult; omega))
          rw [show (c.toNat : Int) = 1 by omega] at hc
          clear hk1 ht herr hult hb0 hb1 hx
          generalize zag (u : Int) = zu at *
          go_enter Try.func24, Try.ntmps24
          go_wp2_with fail
          refine (VT.out).mono ?_
          rintro e w' ⟨rfl, rfl⟩
          go_wp2_with fail
          refine (ZA.out _).mono ?_
          rintro e w' ⟨rfl, rfl⟩
          go_wp2_with fail
          refine (num_any _ _).mono ?_
          rintro e w' ⟨rfl, rfl⟩
          unfold vagg
          go_wp2_with fail
          exact bodyPost_ret (by simp [results, Try.results24, go_sem]) rfl ⟨takeVE_of (x' := 1 + (x : Int)) HF.out rfl (by omega) rfl, ((Below.refl _ _).alloc (Nat.le_refl _) _).alloc (by simp) _⟩
        · have hcut2 := cut_l HS1.out hcap (show 1 + x ≤ len by omega)
          obtain ⟨A2, hcut2, hsee2⟩ := hcut2
          rw [show List.drop (1 + x) (c :: t) = t.drop x by rw [Nat.add_comm]; rfl] at hsee2
          have CU := Lib.hid (cut_any' _ _ _ (t.drop x) u _ hsee2 (by omega) (by omega))
          have ec : ((1 + x : Nat) : Int) = 1 + (x : Int) := by omega
          rw [ec] at hcut2
          have htl : t.length + 1 = len := by rw [← hn]; simp
          have hdl : (t.drop x).length = t.length - x := by simp
          rw [show (c.toNat : Int) = 2 by omega] at hc
          by_cases hu1 : 4096 < u
          · have HF := Lib.hid (takeV_long hk2 ht.symm hu1)
            rw [show cutE (t.drop x) u = (.string ⟨#[]⟩, 4) by simp [cutE, hu1]] at CU
            clear hk2 ht herr hult hb0 hb1 hx hu1 ec hsee2 htl hdl
            go_enter Try.func24, Try.ntmps24
            go_wp2_with fail
            refine (VT.out).mono ?_
            rintro e w' ⟨rfl, rfl⟩
            go_wp2_with fail
            refine (CU.out).mono ?_
            rintro e w' ⟨rfl, rfl⟩
            go_wp2_with fail
            exact bodyPost_ret (by simp [results, Try.results24, go_sem]) rfl ⟨takeVE_of HF.out rfl rfl rfl, B0.out⟩
          · by_cases hu2 : t.length - x < u
            · have HF := Lib.hid (takeV_short hk2 ht.symm hu1 hu2)
              rw [show cutE (t.drop x) u = (.string ⟨#[]⟩, 11) by rw [cutE, if_neg hu1, hdl, if_pos hu2]] at CU
              clear hk2 ht herr hult hb0 hb1 hx hu1 hu2 ec hsee2 htl hdl
              go_enter Try.func24, Try.ntmps24
              go_wp2_with fail
              refine (VT.out).mono ?_
              rintro e w' ⟨rfl, rfl⟩
              go_wp2_with fail
              refine (CU.out).mono ?_
              rintro e w' ⟨rfl, rfl⟩
              go_wp2_with fail
              exact bodyPost_ret (by simp [results, Try.results24, go_sem]) rfl ⟨takeVE_of HF.out rfl rfl rfl, B0.out⟩
            · have HF := Lib.hid (takeV_text hk2 ht.symm hu1 hu2)
              rw [show cutE (t.drop x) u = (.string ⟨((t.drop x).take u).toArray⟩, 0) by rw [cutE, if_neg hu1, hdl, if_neg hu2]] at CU
              have hsz : (⟨((t.drop x).take u).toArray⟩ : ByteArray).size = u := by rw [size_mk, List.length_take, hdl]; omega
              have hu9 : u ≤ 4096 := by omega
              generalize (⟨((t.drop x).take u).toArray⟩ : ByteArray) = S at *
              clear hk2 ht herr hult hb0 hb1 hx hu1 hu2 ec hsee2 htl hdl
              have HZ := Lib.hid hsz
              have hs9 : S.size ≤ 4096 := by rw [hsz]; exact hu9
              clear hsz
              go_enter Try.func24, Try.ntmps24
              go_wp2_with fail
              refine (VT.out).mono ?_
              rintro e w' ⟨rfl, rfl⟩
              go_wp2_with fail
              refine (CU.out).mono ?_
              rintro e w' ⟨rfl, rfl⟩
              go_wp2_with fail
              refine (text_any _ _).mono ?_
              rintro e w' ⟨rfl, rfl⟩
              unfold vagg
              go_wp2_with fail
              exact bodyPost_ret (by simp [results, Try.results24, go_sem]) rfl ⟨takeVE_of (x' := 1 + (x : Int) + (S.size : Int)) HF.out rfl (by have := HZ.out; omega) rfl, ((Below.refl _ _).alloc (Nat.le_refl _) _).alloc (by simp) _⟩
      · have HF := Lib.hid (takeV_err hk' ht.symm hf)
        have hf' : ¬ (f : Int) = 0 := by omega
        have hf2 : ((f : Int) == 0) = false := by simpa using hf
        have hf3 : ((f : Int) != 0) = true := by simpa using hf
        have hfi : ∃ fi : Int, fi = (f : Int) := ⟨_, rfl⟩
        obtain ⟨fi, hfi⟩ := hfi
        rw [← hfi] at hf' hf2 hf3
        have HFI := Lib.hid hfi
        have VT2 := Lib.hid (show Calls Try.prog 23 #[.slice A1 (len - 1) (cap - 1)] (w.alloc (.cells #[.int .i64 0, .int .i64 0, .string ⟨#[]⟩] 37)) fun e w' => e = .returned (.tuple #[.int .u64 (u : Int), .int .i64 (x : Int), .int .i64 fi]) ∧ w.alloc (.cells #[.int .i64 0, .int .i64 0, .string ⟨#[]⟩] 37) = w' by rw [hfi]; exact VT.out)
        clear hfi VT ht herr hult hf
        rcases hk' with hk1 | hk2
        · rw [show (c.toNat : Int) = 1 by omega] at hc
          clear hk1 hb0 hb1
          go_enter Try.func24, Try.ntmps24
          go_wp2_with fail
          refine (VT2.out).mono ?_
          rintro e w' ⟨rfl, rfl⟩
          go_wp2_with fail
          exact bodyPost_ret (by simp [results, Try.results24, go_sem]) rfl ⟨takeVE_of HF.out rfl rfl HFI.out, B0.out⟩
        · rw [show (c.toNat : Int) = 2 by omega] at hc
          clear hk2 hb0 hb1
          go_enter Try.func24, Try.ntmps24
          go_wp2_with fail
          refine (VT2.out).mono ?_
          rintro e w' ⟨rfl, rfl⟩
          go_wp2_with fail
          exact bodyPost_ret (by simp [results, Try.results24, go_sem]) rfl ⟨takeVE_of HF.out rfl rfl HFI.out, B0.out⟩
end Go.Proofs.Ytnjnlbcbdhdipaa
