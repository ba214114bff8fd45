/-
  Proved: for every at, b, f the call BlockOrder(at, b, f) returns true and leaves its arguments as they were (no condition).
  The frame of the proof was laid by the guide's program; the walk is by hand.
-/
import Derived.Test.YtknkjoaihnipbaaRows
import Derived.WalkKit
import Derived.ProofKit
import Derived.OpenShut
import Derived.ShutString
import Derived.ChangeOld
import Derived.Below
import Derived.Test.YtknkjoaihnipbaaBlockAwake
import Derived.Test.YtknkjoaihnipbaaBlockBack
import Derived.Test.YtknkjoaihnipbaaStillMore
import Derived.Deep.RegionHeld3
namespace Go.Proofs.Ytknkjoaihnipbaa.blockOrder
open Go.ChangeShapes Go.WideShapes Go.ChangeAt Go.RowKit
open BlockM StrM
set_option linter.unusedVariables false

theorem own : ownKnob Try.prog.godebug = none := by kernel_rfl
theorem laidOut : laidOutB Try.prog = true := by kernel_rfl

/-- WHAT THE WALK IS TOLD OF A SLICE OF INTEGERS THAT CAME IN: it is nil; or it leads to a row of 'cap' cells, the numbers 'zs' (the first 'len' are its elements, the rest its spare room), each fitting its kind. -/
def IsRow (k : IntKind) (w : World) (a : Option Addr) (len cap : Nat) (zs : List Int) : Prop :=
  (a = none ∧ len = 0 ∧ cap = 0 ∧ zs = []) ∨
  ∃ x, a = some x ∧ len ≤ cap ∧ cap ≤ maxLen ∧ zs.length = cap ∧ (∀ i, i < zs.length → w.cell? (x.add i) = some (.int k (zs.getD i 0))) ∧ ∀ n ∈ zs, (Lit.int k n).wf = true

/-! ### STEP 1: THE WALK: the Go text returns true, AND WRITES NOTHING THAT WAS THERE: 'Below w.heap.size w w'' (Derived/Below.lean: '.refl', '.alloc', '.drew', '.setCell' at a new block, '.trans'). Open each 'IsRow' by 'rcases' AHEAD of 'go_enter'; part every test ahead of the walk. -/
set_option maxHeartbeats 8000000 in
set_option maxRecDepth 100000 in
theorem walk (a0 : Int) (a1 : Option Addr) (len1 cap1 : Nat) (z1 : List Int) (a2 : Option Addr) (len2 cap2 : Nat) (z2 : List Int) (w : World) (w0 : (Lit.int .u16 a0).wf = true) (w1 : IsRow .u8 w a1 len1 cap1 z1) (w2 : IsRow .u8 w a2 len2 cap2 z2) :
    Calls Try.prog 4 #[.int .u16 a0, .slice a1 len1 cap1, .slice a2 len2 cap2] w fun e w' => e = .returned (.bool true) ∧ Below w.heap.size w w' := by
  have hcb : len1 ≤ cap1 := by
    rcases id w1 with ⟨_, h1, h2, _⟩ | ⟨x, _, h, _⟩
    · omega
    · exact h
  obtain ⟨b, hlb, hb0⟩ := SeesV.of_bytes w1
  obtain ⟨f, hlf, hf0⟩ := SeesV.of_bytes w2
  have hu : 0 ≤ a0 ∧ a0 ≤ 65535 := by
    simp [Lit.wf, IntKind.min, IntKind.max, IntKind.signed, IntKind.bits] at w0
    omega
  obtain ⟨n, rfl⟩ := Int.eq_ofNat_of_zero_le hu.1
  have SB := Lib.hid (fun W (hb : Below w.heap.size w W) => hb0.later hb)
  have SF := Lib.hid (fun W (hb : Below w.heap.size w W) => hf0.later hb)
  have HLB := Lib.hid hlb
  have HLF := Lib.hid hlf
  clear w0 w1 w2 hb0 hf0 hlb hlf
  have AW : (300 : Int) < (len1 : Int) ∨ decide ((300 : Int) < (len1 : Int)) = false ∧ ((300 : Int) < (len2 : Int) ∨ decide ((300 : Int) < (len2 : Int)) = false ∧ (2000 : Int) < (n : Int)) ∨ (decide ((300 : Int) < (len1 : Int)) = false ∧ decide ((300 : Int) < (len2 : Int)) = false ∧ decide ((2000 : Int) < (n : Int)) = false ∧ len1 ≤ 300 ∧ len2 ≤ 300 ∧ n ≤ 2000) := by
    by_cases h1 : 300 < len1
    · exact .inl (by omega)
    · right
      have h1' : decide ((300 : Int) < (len1 : Int)) = false := by simp; omega
      by_cases h2 : 300 < len2
      · exact .inl ⟨h1', .inl (by omega)⟩
      · have h2' : decide ((300 : Int) < (len2 : Int)) = false := by simp; omega
        by_cases h3 : 2000 < n
        · exact .inl ⟨h1', .inr ⟨h2', by omega⟩⟩
        · exact .inr ⟨h1', h2', by simp; omega, by omega, by omega, by omega⟩
  rcases AW with h1 | ⟨h1, h2 | ⟨h2, h3⟩⟩ | ⟨h1, h2, h3, n1, n2, n3⟩
  iterate 3
    · clear SB SF hu hcb
      go_enter Try.func4, Try.ntmps4
      go_wp2_with fail
      refine (bawake_any _).mono ?_
      rintro e w' ⟨rfl, hb⟩
      go_wp2_with fail
      go_ret
      exact ⟨rfl, hb⟩
  have PI := Lib.hid (pieces_any (n : Int) a1 len1 cap1 b w (SB.out w (Below.refl _ _)) HLB.out hcb (by omega) (by omega))
  unfold PiecesPost at PI
  rw [show pErr (n : Int) b.length = 0 by rw [pErr, if_neg (by omega), if_neg (by rw [HLB.out]; omega)], show pList (n : Int) b = pieces n b by rw [pList, if_neg (by omega), if_neg (by rw [HLB.out]; omega), Int.toNat_natCast]] at PI
  have HPF := Lib.hid (fun t (ht : t < (pieces n b).length) => piece_facts (n := n) (b := b) (by rw [HLB.out]; omega) ht)
  obtain ⟨W1, W2⟩ := lay_written f n b (by rw [HLB.out]; omega)
  have HW1 := Lib.hid W1
  have HW2 := Lib.hid W2
  have HPP := Lib.hid (show ∀ x ∈ pieces n b, x.p ≤ 9223372036854775807 by
    intro x hx
    obtain ⟨q, h1, _, _, _, _, h6⟩ := ok_facts (pieces_ok n b (by rw [HLB.out]; omega) x hx)
    omega)
  obtain ⟨lp, hlp⟩ : ∃ lp, lp = (pieces n b).length := ⟨_, rfl⟩
  have hlpm : lp ≤ 300 := by rw [hlp]; have := pieces_len n b; have := HLB.out; omega
  have HLP := Lib.hid hlp
  obtain ⟨P, hP⟩ : ∃ P, P = pieces n b := ⟨_, rfl⟩
  rw [← hP] at PI HPF HW1 HW2 HPP HLP
  clear hu W1 W2 hlp hP
  go_enter Try.func4, Try.ntmps4
  go_wp2_with fail
  refine (PI.out).mono ?_
  rintro e wa ⟨va, rfl, sa, ba⟩
  obtain ⟨aa, ca, rfl, -⟩ := id sa
  rw [← HLP.out] at sa
  have SA := Lib.hid sa
  have BA := Lib.hid ba
  clear sa ba PI h1 h2 h3
  have HLPR := Lib.hid HLP.out.symm
  rw [HLPR.out]
  obtain ⟨wb, hwb⟩ : ∃ wb, wb = wa.alloc (.cells #[] 32) := ⟨_, rfl⟩
  have BB := Lib.hid (show Below wa.heap.size wa wb by rw [hwb]; exact below_made wa _)
  have OB := Lib.hid (show wb.ownsRow wa.heap.size 32 2 (.slice (some ⟨wa.heap.size, 0, none⟩) 0 0) 0 (pcs []) by rw [hwb]; exact World.ownsRow_made wa #[] 0 (Nat.le_refl _) (by decide) rfl)
  have BWB := Lib.hid (BA.out.trans (BB.out.mono BA.out.size))
  have SF2 := Lib.hid ((SF.out wb BWB.out).later (below_made wb (.cells #[] 5)))
  have OF := Lib.hid (own_made wb 5)
  have HWB := Lib.hid hwb
  have HSZ := Lib.hid (show wb.heap.size = wa.heap.size + 1 by rw [hwb]; simp)
  rw [HSZ.out] at OF
  rw [hwb] at SF2 OF
  clear hwb
  go_wp2_with (at_builtin; refine append_all oneByte rfl _ _ rfl (wa.heap.size + 1) _ 0 [] rfl OF.out _ (bys f) rfl SF2.out (bys_ones _) ?a1 ?a2 ?a3 ?_)
  case a1 => have := HLF.out; rw [bys_len]; omega
  case a2 => have := HLF.out; rw [bys_len]; unfold maxLen; omega
  case a3 => simp
  intro v1 w1 ho hb
  have E1 := Lib.hid (show ERel wb v1 f w1 by
    rw [bys_len, ← HSZ.out] at ho
    rw [← HWB.out, ← HSZ.out] at hb
    exact ⟨ho, (below_made wb _).trans hb⟩)
  clear ho hb OF SF2
  go_wp2_with fail
  go_loopw [10] (fun x wr => ∃ z : Nat, (z = 0 ∨ 0 < len1 ∧ len2 + z ≤ n) ∧ ERel wb x (f ++ List.replicate z 0) wr) (fun x _ => n - sliceLen x)
  case atStart => exact ⟨0, .inl rfl, by simpa using E1.out⟩
  case round =>
    clear E1
    obtain ⟨z, hz, hE⟩ := hrel
    have hTL : (f ++ List.replicate z (0 : UInt8)).length = len2 + z := by simp [HLF.out]
    obtain ⟨T, hT⟩ : ∃ T, T = f ++ List.replicate z (0 : UInt8) := ⟨_, rfl⟩
    rw [← hT] at hE hTL
    obtain ⟨m, hm⟩ : ∃ m, m = T.length := ⟨_, rfl⟩
    obtain ⟨A5, c5, hu5, -⟩ := own_slice hE.1
    rw [← hm] at hu5 hTL
    subst hu5
    have HE := Lib.hid hE
    have HT := Lib.hid hT
    have HM := Lib.hid hm
    have hsz := hE.2.size
    have hm2 : m ≤ 3000 := by omega
    clear hE hT hm
    have hX : ((m : Int) < (n : Int) ∧ (0 : Int) < (len1 : Int)) ∨ (decide (m < n) = false ∧ (n ≤ m ∨ len1 = 0)) ∨ ((m : Int) < (n : Int) ∧ decide (0 < len1) = false ∧ (n ≤ m ∨ len1 = 0)) := by
      by_cases g1 : m < n
      · by_cases g2 : 0 < len1
        · exact .inl ⟨by omega, by omega⟩
        · exact .inr (.inr ⟨by omega, by simp; omega, by omega⟩)
      · exact .inr (.inl ⟨by simp; omega, by omega⟩)
    rcases hX with ⟨g1, g2⟩ | ⟨g1, gx⟩ | ⟨g1, g2, gx⟩
    · have OO := Lib.hid (show wr.ownsRow wb.heap.size 5 1 _ m (bys T) by rw [HM.out]; exact HE.out.1)
      have q1 : (m + 1) * 1 ≤ 140737488355328 := by omega
      have q2 : m + 1 ≤ maxLen := by unfold maxLen; omega
      have hz2 : 0 < len1 ∧ len2 + (z + 1) ≤ n := by omega
      clear hTL hz
      go_wp2_with (at_builtin; refine append_one oneByte rfl _ _ rfl wb.heap.size _ _ _ rfl OO.out (.int .u8 0) rfl rfl q1 q2 hsz ?_)
      intro v5 w5 ho hb
      obtain ⟨A6, c6, rfl, -⟩ := own_slice ho
      have E5 := Lib.hid (show ERel wb (.slice A6 (m + 1) c6) (f ++ List.replicate (z + 1) 0) w5 by
        rw [List.replicate_succ', ← List.append_assoc, ← HT.out]
        exact HE.out.zero (by rw [← HM.out]; exact ho) hb)
      clear ho hb OO
      go_wp2_with fail
      go_roundw
      case rel => exact ⟨z + 1, .inr hz2, E5.out⟩
      case measure => simp [sliceLen]; omega
    all_goals
      have E2 := Lib.hid (show ERel wb (.slice A5 m c5) (wh f n b 0) wr by
        have h := HE.out
        have := HLF.out
        have := HLB.out
        rw [HT.out, wh_start (b := b) (n := n) (by omega) (by omega)] at h
        exact h)
      clear hTL hz HE HT HM
      go_wp2_with fail
      clear gx g1
      try clear g2
      go_loopw [10, 11] (fun x j wr => ∃ i : Nat, i ≤ len1 ∧ j = .int .i64 (i : Int) ∧ ERel wb x (wh f n b i) wr) (fun _ j _ => len1 - (intOf j).toNat)
      case atStart => exact ⟨0, Nat.zero_le _, rfl, E2.out⟩
      case round =>
        clear E2
        obtain ⟨i, hi, rfl, hE⟩ := hrel
        rename_i wr
        have BX := Lib.hid (BWB.out.trans (hE.2.mono BWB.out.size))
        by_cases hlt : i < len1
        · have hib : i < b.length := by rw [HLB.out]; exact hlt
          obtain ⟨T, hT⟩ : ∃ T, T = wh f n b i := ⟨_, rfl⟩
          have hTl : T.length ≤ 5000 := by rw [hT]; have := wh_len f n b i (by omega); have := HLF.out; omega
          have HSET := Lib.hid (show n + i < T.length → T.set (n + i) b[i] = wh f n b (i + 1) by rw [hT]; exact wh_set hib)
          have HSNO := Lib.hid (show ¬ n + i < T.length → T ++ [b[i]] = wh f n b (i + 1) by rw [hT]; exact wh_snoc hib)
          rw [← hT] at hE
          obtain ⟨gb, ob, hA1, hgb, cb⟩ := (SB.out w (Below.refl _ _)).cell hib
          subst hA1
          have hcb2 : wr.cell? ⟨gb, ob + i, none⟩ = some (.int .u8 (b[i].toNat : Int)) := (BX.out.cell (p := ⟨gb, ob + i, none⟩) hgb).trans cb
          obtain ⟨x, hx⟩ : ∃ x : UInt8, x = b[i] := ⟨_, rfl⟩
          rw [← hx] at HSET HSNO hcb2
          obtain ⟨m, hm⟩ : ∃ m, m = T.length := ⟨_, rfl⟩
          obtain ⟨A5, c5, hu5, -⟩ := own_slice hE.1
          rw [← hm] at hu5 hTl
          subst hu5
          have HE := Lib.hid hE
          have HM := Lib.hid hm
          have hsz := hE.2.size
          obtain ⟨cx, hcx⟩ : ∃ cx : Int, cx = (x.toNat : Int) := ⟨_, rfl⟩
          rw [← hcx] at hcb2
          have HCX := Lib.hid hcx
          clear hT hx cb hE hm hcx
          by_cases hin : n + i < m
          · have hin' : (n : Int) + (i : Int) < (m : Int) := by omega
            obtain ⟨g5, c5', hu, hg5, ⟨y5, hy5⟩, hf5, hst⟩ := HE.out.store (j := n + i) (by rw [← HM.out]; exact hin)
            injection hu with hu1 hu2 hu3
            subst hu1 hu3
            have HST := Lib.hid (hst x)
            rw [HSET.out (by rw [← HM.out]; exact hin), ← HCX.out] at HST
            have e0 : ((n : Int) + (i : Int)).toNat = n + i := by omega
            clear hst hu2
            go_wp2_with fail
            go_roundw
            case rel => exact ⟨i + 1, by omega, by go_num, HST.out⟩
            case measure => simp [intOf]; omega
          · have hin' : decide ((n : Int) + (i : Int) < (m : Int)) = false := by simp; omega
            have hin2 : decide (n + i < m) = false := by simp; omega
            have OO := Lib.hid (show wr.ownsRow wb.heap.size 5 1 _ m (bys T) by rw [HM.out]; exact HE.out.1)
            have q1 : (m + 1) * 1 ≤ 140737488355328 := by omega
            have q2 : m + 1 ≤ maxLen := by unfold maxLen; omega
            go_wp2_with (at_builtin; refine append_one oneByte rfl _ _ rfl wb.heap.size _ _ _ rfl OO.out (.int .u8 cx) rfl rfl q1 q2 hsz ?_)
            intro v5 w5 ho hb
            have E5 := Lib.hid (show ERel wb v5 (wh f n b (i + 1)) w5 by
              rw [← HSNO.out (by rw [← HM.out]; exact hin)]
              exact HE.out.step HCX.out (by rw [← HM.out]; exact ho) hb)
            clear ho hb OO
            go_wp2_with fail
            go_roundw
            case rel => exact ⟨i + 1, by omega, by go_num, E5.out⟩
            case measure => simp [intOf]; omega
        · obtain ⟨F, hF⟩ : ∃ F, F = BlockM.written f n b := ⟨_, rfl⟩
          have hE2 : ERel wb u10 F wr := by
            rw [hF, ← wh_end, HLB.out, show len1 = i by omega]; exact hE
          have BK0 := Lib.hid (show BkRel wa wb u10 F (.slice (some ⟨wa.heap.size, 0, none⟩) 0 0) [] wr from
            ⟨own_belowN OB.out hE2.2, (fun _ h => nomatch h), hE2.1, BB.out.trans (hE2.2.mono BB.out.size)⟩)
          have HF1 := Lib.hid (show lay f P = F by rw [hF]; exact HW1.out)
          have HF2 := Lib.hid (show lay f P.reverse = F by rw [hF]; exact HW2.out)
          clear hE hE2 hF HW1 HW2
          go_wp2_with fail
          generalize u10 = vW at *
          go_loopw [9, 12] (fun x j wr => ∃ (z : Int) (t : Nat) (l3 : List PB), t ≤ lp ∧ z = (t : Int) - 1 ∧ j = .int .i64 z ∧ l3.map Prod.fst = (P.drop t).reverse ∧ BkRel wa wb vW F x l3 wr) (fun _ j _ => (intOf j + 1).toNat)
          case atStart => exact ⟨_, lp, [], Nat.le_refl _, rfl, rfl, by rw [HLP.out]; simp, BK0.out⟩
          case round =>
            clear BK0
            obtain ⟨z, t, l3, ht, hz, rfl, hl3, hBK⟩ := hrel
            rename_i wr
            have HBK := Lib.hid hBK
            have BW := Lib.hid hBK.2.2.2
            have BX := Lib.hid (BA.out.trans (hBK.2.2.2.mono BA.out.size))
            clear hBK
            by_cases h0 : t = 0
            · have hz1 : z = -1 := by omega
              subst hz1
              have HL3 := Lib.hid (show l3.map Prod.fst = P.reverse by rw [hl3, h0]; rfl)
              clear hl3 hz
              have LA := Lib.hid (lay_any a2 len2 cap2 f _ P wr HLF.out (by omega) (SF.out _ BX.out) (SA.out.later BW.out) HPP.out (by rw [← HLP.out]; omega))
              unfold LayPost at LA
              rw [HF1.out] at LA
              go_wp2_with fail
              refine (LA.out).mono ?_
              rintro e wd ⟨vd, rfl, sd, bd⟩
              have BK2 := Lib.hid (HBK.out.later bd)
              have BX2 := Lib.hid (BX.out.trans (bd.mono BX.out.size))
              have SD := Lib.hid sd
              clear sd bd
              go_wp2_with fail
              refine (bytes_same' _ _ F _ SD.out BK2.out.sees.2).mono ?_
              rintro e we ⟨rfl, be⟩
              have BK3 := Lib.hid (BK2.out.later be)
              have BX3 := Lib.hid (BX2.out.trans (be.mono BX2.out.size))
              clear be BK2 BX2 SD
              have LB := Lib.hid (lay_any a2 len2 cap2 f _ P.reverse we HLF.out (by omega) (SF.out _ BX3.out) (by have h := BK3.out.sees.1; rw [HL3.out] at h; exact h) (fun x hx => HPP.out x (by simpa using hx)) (by rw [List.length_reverse, ← HLP.out]; omega))
              unfold LayPost at LB
              rw [HF2.out] at LB
              go_wp2_with fail
              refine (LB.out).mono ?_
              rintro e wf ⟨vf, rfl, sf, bf⟩
              have BK4 := Lib.hid (BK3.out.later bf)
              have BX4 := Lib.hid (BX3.out.trans (bf.mono BX3.out.size))
              have SD := Lib.hid sf
              clear sf bf BK3 BX3
              go_wp2_with fail
              refine (bytes_same' _ _ F _ SD.out BK4.out.sees.2).mono ?_
              rintro e wg ⟨rfl, bg⟩
              have BX5 := Lib.hid (BX4.out.trans (bg.mono BX4.out.size))
              clear bg BK4 BX4
              go_wp2_with fail
              refine (bawake_any _).mono ?_
              rintro e wh ⟨rfl, bh⟩
              have BX6 := Lib.hid (BX5.out.trans (bh.mono BX5.out.size))
              clear bh
              go_wp2_with fail
              go_ret
              exact ⟨rfl, BX6.out⟩
            · obtain ⟨s, hs⟩ : ∃ s, t = s + 1 := ⟨t - 1, by omega⟩
              subst hs
              obtain rfl : z = (s : Int) := by omega
              have hsp : s < P.length := by rw [← HLP.out]; omega
              have HL3 := Lib.hid (show l3.map Prod.fst ++ [P[s]] = (P.drop s).reverse by rw [hl3]; exact rev_next hsp)
              have hl3n : l3.length ≤ 300 := by
                have h := congrArg List.length hl3
                rw [List.length_map, List.length_reverse, List.length_drop] at h
                have := HLP.out
                omega
              obtain ⟨q, hq1, hq2, hq3, hq4⟩ := HPF.out s hsp
              obtain ⟨g, off, A3, bc, haa, hg, cc1, cc2, csv⟩ := SA.out.cells hsp
              have HCS := Lib.hid csv
              subst haa
              have hpb : P[s].p ≤ 9223372036854775807 := by omega
              obtain ⟨u, hu⟩ : ∃ u, u = P[s] := ⟨_, rfl⟩
              rw [← hu] at HL3 hq1 hq3 cc1 cc2 HCS hpb
              obtain ⟨x1, hx1⟩ : ∃ x1, x1 = u.p := ⟨_, rfl⟩
              obtain ⟨bl, hbl⟩ : ∃ bl, bl = u.b.length := ⟨_, rfl⟩
              rw [← hx1] at hq1 hq3 cc1 hpb
              rw [← hbl] at hq3 cc2 HCS
              have HX1 := Lib.hid hx1
              have RI := Lib.hid (show ∀ W, Below wa.heap.size wa W → Calls Try.prog 9 #[.agg #[.int .i64 x1, .slice A3 bl bc]] W fun e W' => e = .returned (.bool true) ∧ Below W.heap.size W W' ∧ Below wa.heap.size wa W' from fun W hW => (right_any x1 A3 bl bc W hpb).mono fun e W' ⟨he, hb⟩ => ⟨by rw [he, hq3], hb, hW.trans (hb.mono hW.size)⟩)
              have HC := Lib.hid (show ∀ W, Below wa.heap.size wa W → W.cell? ⟨g, off + s * 2, none⟩ = some (.int .i64 x1) ∧ W.cell? ⟨g, off + s * 2 + 1, none⟩ = some (.slice A3 bl bc) from fun W hW => ⟨(hW.cell (p := ⟨g, off + s * 2, none⟩) hg).trans cc1, (hW.cell (p := ⟨g, off + s * 2 + 1, none⟩) hg).trans cc2⟩)
              have BD := Lib.hid BW.out.drew
              have hli : (s : Int) < (lp : Int) := by omega
              have hd1 : x1.tdiv 16 = ((n / 16 + s : Nat) : Int) := by rw [hq1]; exact hq2
              obtain ⟨d1, hd1e⟩ : ∃ d1 : Int, d1 = ((n / 16 + s : Nat) : Int) := ⟨_, rfl⟩
              rw [← hd1e] at hd1
              obtain ⟨hc1, hc2⟩ := HC.out _ BW.out
              by_cases hs0 : s = 0
              · subst hs0
                simp only [Nat.zero_mul, Nat.add_zero] at HC hc1 hc2
                have h0lp : 0 < lp := by omega
                clear hq1 hq2 hq3 hq4 hx1 hbl hd1e hu cc1 cc2 csv hz hl3 hpb hd1
                go_wp2_with fail
                refine wp_region_held_drew (S := fun W => W.cell? ⟨g, off, none⟩ = some (.int .i64 x1) ∧ W.cell? ⟨g, off + 1, none⟩ = some (.slice A3 bl bc)) (by kernel_rfl) (HC.out _ BD.out) (fun hHeld => ?_)
                refine wpAnyH_take (i := 0) (oi := ⟨some 89, _, _, _, _, _⟩) (v := .slice (some ⟨g, off, none⟩) lp ca) rfl (by kernel_rfl) (by kernel_rfl) (by kernel_rfl) (fun _ _ _ h => h) (Or.inl ⟨by rfl, ?_⟩) (by assumption) ?_
                · intro W hSw
                  try dsimp only at hSw
                  go_simp
                try simp only [Act.put, List.setIfInBounds_toArray, List.set_cons_zero, List.set_cons_succ]
                refine wpAnyH_take (i := 1) (oi := ⟨some 90, _, _, _, _, _⟩) (v := .int .i64 0) rfl (by kernel_rfl) (by kernel_rfl) (by kernel_rfl) (fun _ _ _ h => h) (Or.inl ⟨by rfl, ?_⟩) (by assumption) ?_
                · intro W hSw
                  try dsimp only at hSw
                  go_simp
                try simp only [Act.put, List.setIfInBounds_toArray, List.set_cons_zero, List.set_cons_succ]
                refine wpAnyH_take (i := 2) (oi := ⟨some 91, _, _, _, _, _⟩) (v := .pointer (some ⟨g, off, none⟩)) rfl (by kernel_rfl) (by kernel_rfl) (by kernel_rfl) (fun _ _ _ h => h) (Or.inl ⟨by rfl, ?_⟩) (by assumption) ?_
                · intro W hSw
                  try dsimp only at hSw
                  go_simp
                try simp only [Act.put, List.setIfInBounds_toArray, List.set_cons_zero, List.set_cons_succ]
                refine wpAnyH_take (i := 3) (oi := ⟨some 92, _, _, _, _, _⟩) (v := .agg #[.int .i64 x1, .slice A3 bl bc]) rfl (by kernel_rfl) (by kernel_rfl) (by kernel_rfl) (fun _ _ _ h => h) (Or.inl ⟨by rfl, ?_⟩) (by assumption) ?_
                · intro W hSw
                  try dsimp only at hSw
                  go_simp
                try simp only [Act.put, List.setIfInBounds_toArray, List.set_cons_zero, List.set_cons_succ]
                refine wpAnyH_ready (rs := [4]) (by kernel_rfl) (by simp) ?_
                refine AllReadyH.cons (o := ⟨some 93, _, _, _, _, _⟩) rfl (fun K hK => ?_) AllReadyH.nil
                go_simp
                refine (RI.out _ BD.out).mono ?_
                rintro e w1 ⟨rfl, hb1, hB1⟩
                refine hK.out _ _ (HC.out _ hB1) (fun hHeld => ?_)
                clear hK K
                try simp only [Act.put, List.setIfInBounds_toArray, List.set_cons_zero, List.set_cons_succ]
                refine wpAnyH_take (i := 5) (oi := ⟨some 94, _, _, _, _, _⟩) (v := .bool false) rfl (by kernel_rfl) (by kernel_rfl) (by kernel_rfl) (fun _ _ _ h => h) (Or.inl ⟨by rfl, ?_⟩) (by assumption) ?_
                · intro W hSw
                  try dsimp only at hSw
                  go_simp
                try simp only [Act.put, List.setIfInBounds_toArray, List.set_cons_zero, List.set_cons_succ]
                refine wpAnyH_take (i := 6) (oi := ⟨some 95, _, _, _, _, _⟩) (v := .bool false) rfl (by kernel_rfl) (by kernel_rfl) (by kernel_rfl) (fun _ _ _ h => h) (Or.inl ⟨by rfl, ?_⟩) (by assumption) ?_
                · intro W hSw
                  try dsimp only at hSw
                  go_simp
                try simp only [Act.put, List.setIfInBounds_toArray, List.set_cons_zero, List.set_cons_succ]
                refine wpAnyH_take (i := 7) (oi := ⟨some 96, _, _, _, _, _⟩) (v := .int .i64 0) rfl (by kernel_rfl) (by kernel_rfl) (by kernel_rfl) (fun _ _ _ h => h) (Or.inl ⟨by rfl, ?_⟩) (by assumption) ?_
                · intro W hSw
                  try dsimp only at hSw
                  go_simp
                try simp only [Act.put, List.setIfInBounds_toArray, List.set_cons_zero, List.set_cons_succ]
                refine wpAnyH_take (i := 8) (oi := ⟨some 97, _, _, _, _, _⟩) (v := .bool false) rfl (by kernel_rfl) (by kernel_rfl) (by kernel_rfl) (fun _ _ _ h => h) (Or.inl ⟨by rfl, ?_⟩) (by assumption) ?_
                · intro W hSw
                  try dsimp only at hSw
                  go_simp
                try simp only [Act.put, List.setIfInBounds_toArray, List.set_cons_zero, List.set_cons_succ]
                refine wpAnyH_take (i := 9) (oi := ⟨some 98, _, _, _, _, _⟩) (v := .bool false) rfl (by kernel_rfl) (by kernel_rfl) (by kernel_rfl) (fun _ _ _ h => h) (Or.inl ⟨by rfl, ?_⟩) (by assumption) ?_
                · intro W hSw
                  try dsimp only at hSw
                  go_simp
                try simp only [Act.put, List.setIfInBounds_toArray, List.set_cons_zero, List.set_cons_succ]
                refine wpAnyH_take (i := 10) (oi := ⟨some 99, _, _, _, _, _⟩) (v := undef) rfl (by kernel_rfl) (by kernel_rfl) (by kernel_rfl) (fun _ _ _ h => h) (Or.inr ⟨by rfl, rfl⟩) (by assumption) ?_
                try simp only [Act.put, List.setIfInBounds_toArray, List.set_cons_zero, List.set_cons_succ]
                refine wpAnyH_take (i := 11) (oi := ⟨some 100, _, _, _, _, _⟩) (v := undef) rfl (by kernel_rfl) (by kernel_rfl) (by kernel_rfl) (fun _ _ _ h => h) (Or.inr ⟨by rfl, rfl⟩) (by assumption) ?_
                try simp only [Act.put, List.setIfInBounds_toArray, List.set_cons_zero, List.set_cons_succ]
                refine wpAnyH_take (i := 12) (oi := ⟨some 101, _, _, _, _, _⟩) (v := undef) rfl (by kernel_rfl) (by kernel_rfl) (by kernel_rfl) (fun _ _ _ h => h) (Or.inr ⟨by rfl, rfl⟩) (by assumption) ?_
                try simp only [Act.put, List.setIfInBounds_toArray, List.set_cons_zero, List.set_cons_succ]
                refine wpAnyH_take (i := 13) (oi := ⟨some 102, _, _, _, _, _⟩) (v := undef) rfl (by kernel_rfl) (by kernel_rfl) (by kernel_rfl) (fun _ _ _ h => h) (Or.inr ⟨by rfl, rfl⟩) (by assumption) ?_
                try simp only [Act.put, List.setIfInBounds_toArray, List.set_cons_zero, List.set_cons_succ]
                refine wpAnyH_take (i := 14) (oi := ⟨some 103, _, _, _, _, _⟩) (v := undef) rfl (by kernel_rfl) (by kernel_rfl) (by kernel_rfl) (fun _ _ _ h => h) (Or.inr ⟨by rfl, rfl⟩) (by assumption) ?_
                try simp only [Act.put, List.setIfInBounds_toArray, List.set_cons_zero, List.set_cons_succ]
                refine wpAnyH_take (i := 15) (oi := ⟨some 104, _, _, _, _, _⟩) (v := undef) rfl (by kernel_rfl) (by kernel_rfl) (by kernel_rfl) (fun _ _ _ h => h) (Or.inr ⟨by rfl, rfl⟩) (by assumption) ?_
                try simp only [Act.put, List.setIfInBounds_toArray, List.set_cons_zero, List.set_cons_succ]
                refine wpAnyH_take (i := 16) (oi := ⟨some 105, _, _, _, _, _⟩) (v := undef) rfl (by kernel_rfl) (by kernel_rfl) (by kernel_rfl) (fun _ _ _ h => h) (Or.inr ⟨by rfl, rfl⟩) (by assumption) ?_
                try simp only [Act.put, List.setIfInBounds_toArray, List.set_cons_zero, List.set_cons_succ]
                refine wpAnyH_take (i := 17) (oi := ⟨some 106, _, _, _, _, _⟩) (v := undef) rfl (by kernel_rfl) (by kernel_rfl) (by kernel_rfl) (fun _ _ _ h => h) (Or.inr ⟨by rfl, rfl⟩) (by assumption) ?_
                try simp only [Act.put, List.setIfInBounds_toArray, List.set_cons_zero, List.set_cons_succ]
                refine wpAnyH_take (i := 18) (oi := ⟨some 107, _, _, _, _, _⟩) (v := undef) rfl (by kernel_rfl) (by kernel_rfl) (by kernel_rfl) (fun _ _ _ h => h) (Or.inr ⟨by rfl, rfl⟩) (by assumption) ?_
                try simp only [Act.put, List.setIfInBounds_toArray, List.set_cons_zero, List.set_cons_succ]
                refine wpAnyH_take (i := 19) (oi := ⟨some 108, _, _, _, _, _⟩) (v := undef) rfl (by kernel_rfl) (by kernel_rfl) (by kernel_rfl) (fun _ _ _ h => h) (Or.inr ⟨by rfl, rfl⟩) (by assumption) ?_
                try simp only [Act.put, List.setIfInBounds_toArray, List.set_cons_zero, List.set_cons_succ]
                refine wpAnyH_take (i := 20) (oi := ⟨some 109, _, _, _, _, _⟩) (v := undef) rfl (by kernel_rfl) (by kernel_rfl) (by kernel_rfl) (fun _ _ _ h => h) (Or.inr ⟨by rfl, rfl⟩) (by assumption) ?_
                try simp only [Act.put, List.setIfInBounds_toArray, List.set_cons_zero, List.set_cons_succ]
                refine wpAnyH_take (i := 21) (oi := ⟨some 110, _, _, _, _, _⟩) (v := undef) rfl (by kernel_rfl) (by kernel_rfl) (by kernel_rfl) (fun _ _ _ h => h) (Or.inr ⟨by rfl, rfl⟩) (by assumption) ?_
                try simp only [Act.put, List.setIfInBounds_toArray, List.set_cons_zero, List.set_cons_succ]
                refine wpAnyH_take (i := 22) (oi := ⟨some 111, _, _, _, _, _⟩) (v := undef) rfl (by kernel_rfl) (by kernel_rfl) (by kernel_rfl) (fun _ _ _ h => h) (Or.inr ⟨by rfl, rfl⟩) (by assumption) ?_
                try simp only [Act.put, List.setIfInBounds_toArray, List.set_cons_zero, List.set_cons_succ]
                refine wpAnyH_take (i := 23) (oi := ⟨some 112, _, _, _, _, _⟩) (v := undef) rfl (by kernel_rfl) (by kernel_rfl) (by kernel_rfl) (fun _ _ _ h => h) (Or.inr ⟨by rfl, rfl⟩) (by assumption) ?_
                try simp only [Act.put, List.setIfInBounds_toArray, List.set_cons_zero, List.set_cons_succ]
                refine wpAnyH_take (i := 24) (oi := ⟨some 113, _, _, _, _, _⟩) (v := .bool false) rfl (by kernel_rfl) (by kernel_rfl) (by kernel_rfl) (fun _ _ _ h => h) (Or.inl ⟨by rfl, ?_⟩) (by assumption) ?_
                · intro W hSw
                  try dsimp only at hSw
                  go_simp
                try simp only [Act.put, List.setIfInBounds_toArray, List.set_cons_zero, List.set_cons_succ]
                refine wpAnyH_take (i := 25) (oi := ⟨some 114, _, _, _, _, _⟩) (v := .bool false) rfl (by kernel_rfl) (by kernel_rfl) (by kernel_rfl) (fun _ _ _ h => h) (Or.inl ⟨by rfl, ?_⟩) (by assumption) ?_
                · intro W hSw
                  try dsimp only at hSw
                  go_simp
                try simp only [Act.put, List.setIfInBounds_toArray, List.set_cons_zero, List.set_cons_succ]
                refine wpAnyH_done (by kernel_rfl) ?_ _
                have BK1 := Lib.hid ((HBK.out.later (below_drew wr (Nat.le_refl _))).later hb1)
                obtain ⟨hk1, hk2⟩ := HC.out _ hB1
                have hszb := hB1.size
                have hl1 : l3.length + 1 ≤ 1000000 := by omega
                clear hb1 hB1 hc1 hc2
                go_wp2_with (at_builtin; refine append_piece rfl _ _ rfl wa.heap.size _ _ _ rfl BK1.out.1 (⟨x1, u.b⟩, .slice A3 bl bc) rfl rfl hl1 hszb ?_)
                intro v2 w2 ho hb2 hst
                have BK2 := Lib.hid (BK1.out.add (u := (⟨x1, u.b⟩, .slice A3 bl bc)) HCS.out ho hb2 hst)
                have HN3 := Lib.hid (show (l3 ++ [((⟨x1, u.b⟩, .slice A3 bl bc) : PB)]).map Prod.fst = (P.drop 0).reverse by
                  rw [← HL3.out, List.map_append, HX1.out]; rfl)
                clear ho hb2 hst hk1 hk2
                go_wp2_with fail
                go_roundw
                case rel => exact ⟨_, 0, _, by omega, by omega, rfl, HN3.out, BK2.out⟩
                case measure => simp [intOf]
              · obtain ⟨r, hr⟩ : ∃ r, s = r + 1 := ⟨s - 1, by omega⟩
                have hrp : r < P.length := by omega
                obtain ⟨qr, hqr1, hqr2, -, hqr4⟩ := HPF.out r hrp
                obtain ⟨g', off', A3', bc', haa', hg', cd1, -, -⟩ := SA.out.cells hrp
                injection haa' with haa'
                injection haa' with ea eb _
                subst ea eb
                obtain ⟨x0, hx0⟩ : ∃ x0, x0 = P[r].p := ⟨_, rfl⟩
                rw [← hx0] at cd1 hqr1
                have HD := Lib.hid (show ∀ W, Below wa.heap.size wa W → W.cell? ⟨g, off + s * 2, none⟩ = some (.int .i64 x1) ∧ W.cell? ⟨g, off + s * 2 + 1, none⟩ = some (.slice A3 bl bc) ∧ W.cell? ⟨g, off + r * 2, none⟩ = some (.int .i64 x0) from fun W hW => ⟨(HC.out W hW).1, (HC.out W hW).2, (hW.cell (p := ⟨g, off + r * 2, none⟩) hg).trans cd1⟩)
                have hd0 : x0.tdiv 16 = ((n / 16 + r : Nat) : Int) := by rw [hqr1]; exact hqr2
                obtain ⟨d0, hd0e⟩ : ∃ d0 : Int, d0 = ((n / 16 + r : Nat) : Int) := ⟨_, rfl⟩
                rw [← hd0e] at hd0
                have hdd : decide (d1 ≤ d0) = false := by simp; omega
                have hri : (r : Int) < (lp : Int) := by omega
                have hsr : (s : Int) - 1 = (r : Int) := by omega
                have e1 : IntKind.i64.wrap ((s : Int) - 1) = (r : Int) := by rw [hsr]; exact IntWalk.i64_in _ (by omega)
                have e2 : IntKind.i64.wrap (r : Int) = (r : Int) := IntWalk.i64_in _ (by omega)
                have e3 : IntKind.i64.wrap d0 = d0 := IntWalk.i64_in _ (by omega)
                have e4 : IntKind.i64.wrap d1 = d1 := IntWalk.i64_in _ (by omega)
                have hs1 : (0 : Int) < (s : Int) := by omega
                have hs1n : 0 < s := by omega
                have hs1d : decide (0 < s) = true := by simp; omega
                have hr1 : (0 : Int) ≤ (r : Int) := by omega
                obtain ⟨-, -, hc3⟩ := HD.out _ BW.out
                have HR := Lib.hid hr
                clear hq1 hq2 hq3 hq4 hx1 hbl hd1e hd0e hx0 hqr1 hqr2 hqr4 hr hu cc1 cc2 csv cd1 hz hl3 hpb
                go_wp2_with fail
                go_region_held3 (fun W => W.cell? ⟨g, off + s * 2, none⟩ = some (.int .i64 x1) ∧ W.cell? ⟨g, off + s * 2 + 1, none⟩ = some (.slice A3 bl bc) ∧ W.cell? ⟨g, off + r * 2, none⟩ = some (.int .i64 x0))
                  (first | go_keep | exact HD.out _ BD.out | exact HD.out _ hB1 | fail)
                  (first
                    | (go_at_call 9; (with_reducible refine (RI.out _ BD.out).mono ?_); rintro e w1 ⟨rfl, hb1, hB1⟩))
                all_goals
                  have BK1 := Lib.hid ((HBK.out.later (below_drew wr (Nat.le_refl _))).later hb1)
                  obtain ⟨hk1, hk2⟩ := HC.out _ hB1
                  have hszb := hB1.size
                  have hl1 : l3.length + 1 ≤ 1000000 := by omega
                  clear hb1 hB1 hc1 hc2
                  go_wp2_with (at_builtin; refine append_piece rfl _ _ rfl wa.heap.size _ _ _ rfl BK1.out.1 (⟨x1, u.b⟩, .slice A3 bl bc) rfl rfl hl1 hszb ?_)
                  intro v2 w2 ho hb2 hst
                  have BK2 := Lib.hid (BK1.out.add (u := (⟨x1, u.b⟩, .slice A3 bl bc)) HCS.out ho hb2 hst)
                  have HN3 := Lib.hid (show (l3 ++ [((⟨x1, u.b⟩, .slice A3 bl bc) : PB)]).map Prod.fst = (P.drop s).reverse by
                    rw [← HL3.out, List.map_append, HX1.out]; rfl)
                  clear ho hb2 hst hk1 hk2
                  go_wp2_with fail
                  go_roundw
                  case rel => exact ⟨_, s, _, by omega, by omega, rfl, HN3.out, BK2.out⟩
                  case measure => simp [intOf]; omega

/-! ### THE ROW's STEP: WRITTEN OUT: LEAVE IT -/
set_option maxRecDepth 100000 in
theorem lifted (os : Os) (started : os.Started) (H : Type) (enc : TypeId × Value → H) :
    ReturnsInHanded {} Try.checked os 4 .any (Rows.blockOrderSpec.pre6 enc Try.prog Try.f4 Rows.blockOrderRow.domain false) (Rows.blockOrderSpec.post enc Try.prog Try.f4 false true false false) := by
  refine returnsInHanded_of_change (C := Try.checked) own started (by kernel_rfl) Try.func4
    (ChangeSpec.witness6 (enc := enc) (C := Try.checked) false ⟨#[], #[.int .u16 0, .slice none 0 0, .slice none 0 0], []⟩ 8 (by kernel_rfl) (by kernel_rfl) (by kernel_rfl) (by kernel_rfl)) ?_
  intro W base args ds gs before hval0 hW hcnd _
  have hval : ∀ (j : Nat) t v, Try.f4.params[j]? = some t → args[j]? = some v → Value.okWide Try.prog W .any base t v := hval0
  have hW' := hW
  obtain ⟨p, q, hA0, hV, rfl, hfz, hnd⟩ := hW
  have hA : DataW.TrodAll enc Try.prog W 0 (fun _ => true) true Try.f4.params.toList args.toList ds p := hA0
  rw [Try.params4] at hA hval
  obtain ⟨v0, vs0, d0, ds0, p0, q0, hargs, rfl, rfl, h0, r0⟩ := trodAll_cons hA
  obtain ⟨v1, vs1, d1, ds1, p1, q1, rfl, rfl, rfl, h1, r1⟩ := trodAll_cons r0
  obtain ⟨v2, vs2, d2, ds2, p2, q2, rfl, rfl, rfl, h2, r2⟩ := trodAll_cons r1
  obtain ⟨rfl, rfl, rfl⟩ := trodAll_nil r2
  obtain rfl : args = #[v0, v1, v2] := by cases args; simp_all
  obtain ⟨rfl, rfl⟩ := trodVars_none hV
  obtain ⟨a0, rfl, rfl, rfl, w0⟩ := open_int Try.underlying38 (hval 0 38 v0 rfl rfl) h0
  obtain ⟨a1, len1, cap1, rfl⟩ := okWide_slice Try.underlying22 (hval 1 22 v1 rfl rfl)
  have k1 := h1
  have lt1 : ∀ x ∈ p1, x.block < W.heap.size := by obtain ⟨m, hm⟩ := k1; exact DataW.trod_lt m _ _ _ hm
  obtain ⟨z1, w1⟩ : ∃ zs, IsRow .u8 W a1 len1 cap1 zs := by
    obtain ⟨fuel, hf⟩ := h1
    rcases open_ints Try.underlying22 Try.underlying5 (by kernel_rfl) hf with ⟨hcs, _⟩ | ⟨x, l, c, zs, hcs, _, hl, hm, hz, _, hcell, hwz⟩
    · simp [Value.cells] at hcs
      obtain ⟨rfl, rfl, rfl⟩ := hcs
      exact ⟨[], .inl ⟨rfl, rfl, rfl, rfl⟩⟩
    · simp [Value.cells] at hcs
      obtain ⟨rfl, rfl, rfl⟩ := hcs
      exact ⟨zs, .inr ⟨_, rfl, hl, hm, by simpa using hz, hcell, hwz⟩⟩
  obtain ⟨a2, len2, cap2, rfl⟩ := okWide_slice Try.underlying22 (hval 2 22 v2 rfl rfl)
  have k2 := h2
  have lt2 : ∀ x ∈ p2, x.block < W.heap.size := by obtain ⟨m, hm⟩ := k2; exact DataW.trod_lt m _ _ _ hm
  obtain ⟨z2, w2⟩ : ∃ zs, IsRow .u8 W a2 len2 cap2 zs := by
    obtain ⟨fuel, hf⟩ := h2
    rcases open_ints Try.underlying22 Try.underlying5 (by kernel_rfl) hf with ⟨hcs, _⟩ | ⟨x, l, c, zs, hcs, _, hl, hm, hz, _, hcell, hwz⟩
    · simp [Value.cells] at hcs
      obtain ⟨rfl, rfl, rfl⟩ := hcs
      exact ⟨[], .inl ⟨rfl, rfl, rfl, rfl⟩⟩
    · simp [Value.cells] at hcs
      obtain ⟨rfl, rfl, rfl⟩ := hcs
      exact ⟨zs, .inr ⟨_, rfl, hl, hm, by simpa using hz, hcell, hwz⟩⟩
  clear hA0 hval0
  refine (walk a0 a1 len1 cap1 z1 a2 len2 cap2 z2 W w0 w1 w2).mono fun e W' ⟨he, bel⟩ => ?_
  subst he
  exact ⟨_, rfl, _, _, _, [], _, [], hW', trodAll_mk1 (shut_bool Try.underlying4 _), (trodAll_cons_mk (shut_int Try.underlying38 w0) (trodAll_cons_mk (Below.trod laidOut (by kernel_rfl) (of_decide_eq_true (by kernel_rfl)) k1 bel lt1) (trodAll_cons_mk (Below.trod laidOut (by kernel_rfl) (of_decide_eq_true (by kernel_rfl)) k2 bel lt2) trodAll_mk0))), rfl, bel.frame _, fun h => by cases h⟩

theorem over : Rows.blockOrderRow.holds Try.pinned (OpenSpec.ofChange Rows.blockOrderSpec) :=
  OpenClaim.holds_of_wide 4 Try.f4 rfl rfl rfl rfl rfl rfl rfl ⟨rfl, rfl, rfl, rfl, rfl⟩ rfl rfl rfl rfl rfl (by kernel_rfl) Try.func4 (by kernel_rfl)
    (of_decide_eq_true (by kernel_rfl)) (by unfold Func.isWrapper; first | (rw [if_pos (by decide +kernel)]; kernel_rfl) | (rw [if_neg (by decide +kernel)]; exact ⟨rfl, rfl⟩))
    (fun os started H enc _ => lifted os started H enc)

/-- ████ THE STATEMENT ████ -/
theorem proved : Rows.BlockOrderSaid := over
#print axioms proved
end Go.Proofs.Ytknkjoaihnipbaa.blockOrder
