/-
  The walks of the reference's value and Take of rows.
-/
import Derived.Test.YtnjnlbcbdhdipaaCodeTakes
namespace Go.Proofs.Ytnjnlbcbdhdipaa
open Go.RowKit StrM VaryM CodeM

set_option maxHeartbeats 2000000 in
set_option maxRecDepth 100000 in
theorem value_any' (A : Option Addr) (len cap : Nat) (r : List UInt8) (w : World) (hs : SeesV w (.slice A len cap) (bys r)) (hcap : len ≤ cap) (hl : len ≤ 1000000) :
    Calls Try.prog 26 #[.slice A len cap] w fun e w' => e = takeVE r ∧ Below w.heap.size w w' := by
  have hn : r.length = len := by obtain ⟨_, _, e, _⟩ := hs; injection e with _ e _; rw [e, bys_len]
  have B0 := Lib.hid (below_made w (.cells #[.int .i64 0, .int .i64 0, .string ⟨#[]⟩] 37))
  cases r with
  | nil =>
    have h0 : len = 0 := by simpa using hn.symm
    subst h0
    have HF := Lib.hid (show takeV [] = (zero, 0, 11) from rfl)
    clear hs hn
    go_enter Try.func26, Try.ntmps26
    go_wp2_with fail
    exact bodyPost_ret (by simp [results, Try.results26, go_sem]) rfl ⟨takeVE_of HF.out rfl rfl rfl, B0.out⟩
  | cons c t =>
    have hpos : 0 < len := by rw [← hn]; simp
    have hpi : ¬ (len : Int) = 0 := by omega
    have hpb : ((len : Int) == 0) = false := by simpa using hpi
    have HS1 := Lib.hid (hs.later B0.out)
    obtain ⟨g, off, rfl, hg, hc⟩ := hs.cell (k := 0) (by simp)
    simp only [List.getElem_cons_zero, Nat.add_zero] at hc
    have hb0 : (0 : Int) ≤ (c.toNat : Int) := by omega
    have hb1 : (c.toNat : Int) < 256 := by have := c.toNat_lt; omega
    by_cases hk : c.toNat ≠ 1 ∧ c.toNat ≠ 2
    · have HF := Lib.hid (takeV_kind (r := t) hk.1 hk.2)
      have k1 : ((c.toNat : Int) == 1) = false := by simp; omega
      have k2 : ((c.toNat : Int) == 2) = false := by simp; omega
      have k1' : ¬ (c.toNat : Int) = 1 := by omega
      have k2' : ¬ (c.toNat : Int) = 2 := by omega
      have k3 : ((c.toNat : Int) != 1) = true := by simp; omega
      have k4 : ((c.toNat : Int) != 2) = true := by simp; omega
      clear hs hk
      generalize (c.toNat : Int) = ci at *
      go_enter Try.func26, Try.ntmps26
      go_wp2_with fail
      exact bodyPost_ret (by simp [results, Try.results26, go_sem]) rfl ⟨takeVE_of HF.out rfl rfl rfl, B0.out⟩
    · have hk' : c.toNat = 1 ∨ c.toNat = 2 := by omega
      obtain ⟨A1, hcut1, hsee1⟩ := cut_l HS1.out hcap (show 1 ≤ len by omega)
      rw [show List.drop 1 (c :: t) = t from rfl] at hsee1
      have HTL := Lib.hid (show t.length ≤ 1000000 by have := congrArg id hn; simp only [id, List.length_cons] at this; omega)
      have VT := Lib.hid (rvtake_any _ t _ hsee1 HTL.out)
      obtain ⟨T, ht⟩ : ∃ T, T = takeL t := ⟨_, rfl⟩
      have he : takeE t = .returned (.tuple #[.int .u64 (T.1 : Int), .int .i64 (T.2.1 : Int), .int .i64 (T.2.2 : Int)]) := by rw [takeE, ht]
      have herr : T.2.2 = 0 ∨ T.2.2 = 11 ∨ T.2.2 = 12 := by rw [ht]; exact takeF_err t 0 0
      have hult : T.1 < 18446744073709551616 := by rw [ht]; exact takeL_lt t
      obtain ⟨u, x, f⟩ := T
      rw [he] at VT
      have hcut1' : ∀ W, (Instr.sliceAt 25 (.slice (some ⟨g, off, none⟩) len cap) (some (.int .i64 1)) none none).run Try.prog W = .ok (.slice A1 (len - 1) (cap - 1)) W := hcut1
      have HS := Lib.hid hs
      clear he hsee1 hcut1 hs hk
      by_cases hf : f = 0
      · subst hf
        have hx := (VaryM.take_back ht.symm).2.1
        have hxl : x + 1 ≤ len := by rw [← hn]; simp; omega
        have hx9 : (1 : Int) + (x : Int) ≤ 100000000 := by omega
        rcases hk' with hk1 | hk2
        · have HF := Lib.hid (takeV_num hk1 ht.symm)
          have ZA := Lib.hid (fun w => rzag_any (u : Int) w (by omega) (by have : u < 18446744073709551616 := hult; omega))
          rw [show (c.toNat : Int) = 1 by omega] at hc
          clear hk1 ht herr hult hb0 hb1 hx
          generalize zag (u : Int) = zu at *
          go_enter Try.func26, Try.ntmps26
          go_wp2_with fail
          refine (VT.out).mono ?_
          rintro e w' ⟨rfl, rfl⟩
          go_wp2_with fail
          refine (ZA.out _).mono ?_
          rintro e w' ⟨rfl, rfl⟩
          go_wp2_with fail
          exact bodyPost_ret (by simp [results, Try.results26, go_sem]) rfl ⟨takeVE_of (x' := (x : Int) + 1) HF.out rfl (by omega) rfl, below_made w _⟩
        · have htl : t.length + 1 = len := by rw [← hn]; simp
          rw [show (c.toNat : Int) = 2 by omega] at hc
          have hub : (u : Int) < 18446744073709551616 := by have : u < 18446744073709551616 := hult; omega
          by_cases hu1 : 4096 < u
          · have HF := Lib.hid (takeV_long hk2 ht.symm hu1)
            have hu' : (4096 : Int) < (u : Int) := by omega
            clear hk2 ht herr hult hb0 hb1 hx hu1 htl hub
            go_enter Try.func26, Try.ntmps26
            go_wp2_with fail
            refine (VT.out).mono ?_
            rintro e w' ⟨rfl, rfl⟩
            go_wp2_with fail
            exact bodyPost_ret (by simp [results, Try.results26, go_sem]) rfl ⟨takeVE_of HF.out rfl rfl rfl, B0.out⟩
          · have hu' : decide ((4096 : Int) < (u : Int)) = false := by simp; omega
            have hu9 : u ≤ 4096 := by omega
            have hwu : (u : Int) ≤ 4096 := by omega
            by_cases hu2 : t.length - x < u
            · have HF := Lib.hid (takeV_short hk2 ht.symm hu1 hu2)
              have hs' : (len : Int) - ((x : Int) + 1) < (u : Int) := by omega
              clear hk2 ht herr hult hb0 hb1 hx hu1 hu2 htl hub
              go_enter Try.func26, Try.ntmps26
              go_wp2_with fail
              refine (VT.out).mono ?_
              rintro e w' ⟨rfl, rfl⟩
              go_wp2_with fail
              exact bodyPost_ret (by simp [results, Try.results26, go_sem]) rfl ⟨takeVE_of HF.out rfl rfl rfl, B0.out⟩
            · have HF := Lib.hid (takeV_text hk2 ht.symm hu1 hu2)
              have hs' : decide ((len : Int) - ((x : Int) + 1) < (u : Int)) = false := by simp; omega
              obtain ⟨A2, hcut2, hsee2⟩ := cut_lh HS1.out hcap (show x + 1 ≤ x + 1 + u by omega) (show x + 1 + u ≤ len by omega)
              rw [show x + 1 + u - (x + 1) = u by omega] at hcut2 hsee2
              rw [show List.drop (x + 1) (c :: t) = t.drop x from rfl] at hsee2
              have hconv := run_text_sees hsee2
              have ec : ((x + 1 : Nat) : Int) = (x : Int) + 1 := by omega
              have ec2 : ((x + 1 + u : Nat) : Int) = (x : Int) + 1 + (u : Int) := by omega
              rw [ec, ec2] at hcut2
              generalize (⟨((t.drop x).take u).toArray⟩ : ByteArray) = S at *
              clear hk2 ht herr hult hb0 hb1 hx hu1 hu2 htl hub ec ec2 hsee2
              go_enter Try.func26, Try.ntmps26
              go_wp2_with fail
              refine (VT.out).mono ?_
              rintro e w' ⟨rfl, rfl⟩
              go_wp2_with fail
              exact bodyPost_ret (by simp [results, Try.results26, go_sem]) rfl ⟨takeVE_of (x' := (x : Int) + 1 + (u : Int)) HF.out rfl (by omega) rfl, below_made w _⟩
      · have HF := Lib.hid (takeV_err hk' ht.symm hf)
        have hf' : ¬ (f : Int) = 0 := by omega
        have hf2 : ((f : Int) == 0) = false := by simpa using hf
        have hf3 : ((f : Int) != 0) = true := by simpa using hf
        have hfi : ∃ fi : Int, fi = (f : Int) := ⟨_, rfl⟩
        obtain ⟨fi, hfi⟩ := hfi
        rw [← hfi] at hf' hf2 hf3
        have HFI := Lib.hid hfi
        have VT2 := Lib.hid (show Calls Try.prog 25 #[.slice A1 (len - 1) (cap - 1)] (w.alloc (.cells #[.int .i64 0, .int .i64 0, .string ⟨#[]⟩] 37)) fun e w' => e = .returned (.tuple #[.int .u64 (u : Int), .int .i64 (x : Int), .int .i64 fi]) ∧ w.alloc (.cells #[.int .i64 0, .int .i64 0, .string ⟨#[]⟩] 37) = w' by rw [hfi]; exact VT.out)
        clear hfi VT ht herr hult hf
        rcases hk' with hk1 | hk2
        · rw [show (c.toNat : Int) = 1 by omega] at hc
          clear hk1 hb0 hb1
          go_enter Try.func26, Try.ntmps26
          go_wp2_with fail
          refine (VT2.out).mono ?_
          rintro e w' ⟨rfl, rfl⟩
          go_wp2_with fail
          exact bodyPost_ret (by simp [results, Try.results26, go_sem]) rfl ⟨takeVE_of HF.out rfl rfl HFI.out, B0.out⟩
        · rw [show (c.toNat : Int) = 2 by omega] at hc
          clear hk2 hb0 hb1
          go_enter Try.func26, Try.ntmps26
          go_wp2_with fail
          refine (VT2.out).mono ?_
          rintro e w' ⟨rfl, rfl⟩
          go_wp2_with fail
          exact bodyPost_ret (by simp [results, Try.results26, go_sem]) rfl ⟨takeVE_of HF.out rfl rfl HFI.out, B0.out⟩

set_option maxHeartbeats 2000000 in
set_option maxRecDepth 100000 in
theorem rtakes_any (A : Option Addr) (len cap : Nat) (b : List UInt8) (w : World) (hs : SeesV w (.slice A len cap) (bys b)) (hcap : len ≤ cap) (hl : len ≤ 1000000) :
    Calls Try.prog 14 #[.slice A len cap] w (TakePost b w) := by
  have hn : b.length = len := by obtain ⟨_, _, e, _⟩ := hs; injection e with _ e _; rw [e, bys_len]
  have HN := Lib.hid hn
  have HS := Lib.hid hs
  have VT := Lib.hid (rvtake_any _ b _ hs (by rw [hn]; exact hl))
  obtain ⟨T, ht⟩ : ∃ T, T = takeL b := ⟨_, rfl⟩
  have he : takeE b = .returned (.tuple #[.int .u64 (T.1 : Int), .int .i64 (T.2.1 : Int), .int .i64 (T.2.2 : Int)]) := by rw [takeE, ht]
  obtain ⟨u, x, f⟩ := T
  rw [he] at VT
  clear he hs hn
  by_cases hf : f = 0
  · subst hf
    have VT2 := Lib.hid (show Calls Try.prog 25 #[.slice A len cap] w fun e w' => e = .returned (.tuple #[.int .u64 (u : Int), .int .i64 (x : Int), .int .i64 0]) ∧ w = w' from VT.out)
    clear VT
    by_cases hu : 1000 < u
    · have HF := Lib.hid (CodeM.take_long ht.symm hu)
      have hu' : (1000 : Int) < (u : Int) := by omega
      clear hu ht
      go_enter Try.func14, Try.ntmps14
      go_wp2_with fail
      refine (VT2.out).mono ?_
      rintro e w' ⟨rfl, rfl⟩
      go_wp2_with fail
      go_ret3
      exact TakePost.err HF.out rfl (Below.refl _ _)
    · have hu' : decide ((1000 : Int) < (u : Int)) = false := by simp; omega
      have AT := Lib.hid (At.start ht.symm hu)
      have hu2 : u ≤ 1000 := by omega
      clear hu ht
      go_enter Try.func14, Try.ntmps14
      go_wp2_with fail
      refine (VT2.out).mono ?_
      rintro e w' ⟨rfl, rfl⟩
      go_wp2_with fail
      go_loopw [6, 8, 9] (fun y v i wr => ∃ (k p : Nat) (acc : List V), k ≤ u ∧ p ≤ len ∧ i = .int .i64 (k : Int) ∧ y = .int .i64 (p : Int) ∧ At b u k p acc ∧ VRel w v acc wr) (fun _ _ i _ => u - (intOf i).toNat)
      case atStart => exact ⟨0, x, [], Nat.zero_le _, by rw [← HN.out]; exact AT.out.2.2.1, rfl, rfl, AT.out, World.ownsRow_made w #[] 0 (Nat.le_refl _) (by decide) rfl, below_made w _⟩
      case round =>
        obtain ⟨k, p, acc, hk, hp, rfl, rfl, hA, hV⟩ := hrel
        clear AT
        have HA := Lib.hid hA
        have HV := Lib.hid hV
        clear hA hV
        by_cases hlt : k < u
        · have hlt' : (k : Int) < (u : Int) := by omega
          obtain ⟨A1, hcut, hsee⟩ := cut_l (HS.out.later HV.out.2) hcap hp
          have TK := Lib.hid (value_any' _ _ _ _ _ hsee (by omega) (by omega))
          obtain ⟨R, hR⟩ : ∃ R, R = takeV (b.drop p) := ⟨_, rfl⟩
          have he : takeVE (b.drop p) = .returned (.tuple #[.agg #[.int .i64 R.1.k, .int .i64 R.1.n, .string R.1.t], .int .i64 (R.2.1 : Int), .int .i64 (R.2.2 : Int)]) := by rw [takeVE, hR]; rfl
          obtain ⟨rv, y, e0⟩ := R
          rw [he] at TK
          have hAL : acc.length = k := HA.out.2.2.2.1
          clear he hsee
          by_cases he0 : e0 = 0
          · subst he0
            have AN := Lib.hid (HA.out.next hlt hR.symm)
            have hpy : p + y ≤ len := by rw [← HN.out]; exact AN.out.2.2.1
            have TK2 := Lib.hid (show Calls Try.prog 26 #[.slice A1 (len - p) (cap - p)] _ fun e w' => e = .returned (.tuple #[.agg #[.int .i64 rv.k, .int .i64 rv.n, .string rv.t], .int .i64 (y : Int), .int .i64 0]) ∧ Below _ _ w' from TK.out)
            clear TK hR
            go_wp2_with fail
            refine (TK2.out).mono ?_
            rintro e w4 ⟨rfl, hb⟩
            have O4 := Lib.hid ((own_below3 HV.out.1 hb).alloc (.cells #[.int .i64 rv.k, .int .i64 rv.n, .string rv.t] 37))
            have B4 := Lib.hid (((HV.out.2.trans (hb.mono HV.out.2.size)).alloc (HV.out.2.trans (hb.mono HV.out.2.size)).size (.cells #[.int .i64 rv.k, .int .i64 rv.n, .string rv.t] 37)))
            have hsz := B4.out.size
            have h1000 : acc.length + 1 ≤ 1000000 := by omega
            clear hb
            go_wp2_with (at_builtin; refine append_val rfl _ _ rfl w.heap.size _ _ _ rfl O4.out rv (by simp [Act.eval]) h1000 hsz ?_)
            intro v5 w5 ho hb
            have HX := Lib.hid (show VRel w v5 (acc ++ [rv]) w5 from ⟨by rw [List.length_append, hAL]; exact ho, B4.out.trans hb⟩)
            clear ho hb
            go_wp2_with fail
            go_roundw
            case rel => exact ⟨k + 1, p + y, acc ++ [rv], by omega, hpy, by go_num, by go_num, AN.out, HX.out⟩
            case measure => simp [intOf]; omega
          · have HF := Lib.hid (HA.out.fail hlt hR.symm he0)
            obtain ⟨ei, hei⟩ : ∃ ei : Int, ei = (e0 : Int) := ⟨_, rfl⟩
            have HEI := Lib.hid hei
            have e1 : ¬ ei = 0 := by omega
            have e2 : (ei == 0) = false := by simpa using e1
            have e3 : (ei != 0) = true := by simpa using e1
            rw [← hei] at TK
            clear hR hei he0
            go_wp2_with fail
            refine (TK.out).mono ?_
            rintro e w4 ⟨rfl, hb⟩
            have B4 := Lib.hid (((HV.out.2.trans (hb.mono HV.out.2.size)).alloc (HV.out.2.trans (hb.mono HV.out.2.size)).size (.cells #[.int .i64 rv.k, .int .i64 rv.n, .string rv.t] 37)))
            clear hb
            go_wp2_with fail
            go_ret3
            exact TakePost.err HF.out HEI.out B4.out
        · have HF := Lib.hid (HA.out.done hlt)
          have hlt' : decide ((k : Int) < (u : Int)) = false := by simp; omega
          go_wp2_with fail
          go_ret3
          exact TakePost.ok HF.out rfl HV.out
  · have HF := Lib.hid (CodeM.take_err ht.symm hf)
    obtain ⟨ei, hei⟩ : ∃ ei : Int, ei = (f : Int) := ⟨_, rfl⟩
    have HEI := Lib.hid hei
    have e1 : ¬ ei = 0 := by omega
    have e2 : (ei == 0) = false := by simpa using e1
    have e3 : (ei != 0) = true := by simpa using e1
    rw [show ((u, x, f).2.2 : Int) = ei from hei.symm] at VT
    clear hei hf ht
    go_enter Try.func14, Try.ntmps14
    go_wp2_with fail
    refine (VT.out).mono ?_
    rintro e w' ⟨rfl, rfl⟩
    go_wp2_with fail
    go_ret3
    exact TakePost.err HF.out HEI.out (Below.refl _ _)
end Go.Proofs.Ytnjnlbcbdhdipaa
