/-
  The walk of the reference's Lay.
-/
import Derived.Test.YtaklilhnikmmfaaGreatBlockLay
import Derived.StillTailTactics
namespace Go.Proofs.YtaklilhnikmmfaaGreat
open Go.RowKit StrM BlockM

theorem ERel.zero {w wr w' : World} {v v' : Value} {acc : List UInt8} (h : ERel w v acc wr) (h1 : w'.ownsRow w.heap.size 5 1 v' (acc.length + 1) (bys acc ++ [.int .u8 0])) (h2 : Below w.heap.size wr w') : ERel w v' (acc ++ [0]) w' := h.step (c := 0) rfl h1 h2

/-- A row that is not empty: where it lies, and what a store does. -/
theorem ERel.store {w wr : World} {v : Value} {acc : List UInt8} (h : ERel w v acc wr) {j : Nat} (hj : j < acc.length) :
    ∃ g cap, v = .slice (some ⟨g, 0, none⟩) acc.length cap ∧ g < wr.heap.size ∧ (∃ c, wr.cell? ⟨g, j, none⟩ = some c) ∧ wr.frozen? ⟨g, j, none⟩ = false ∧ ∀ c : UInt8, ERel w v (acc.set j c) (wr.setCell ⟨g, j, none⟩ (.int .u8 (c.toNat : Int))) := by
  obtain ⟨h1, h2⟩ := h
  rcases id h1.2 with ⟨rfl, h0⟩ | ⟨g, cap, cur, rfl, hb, hg, _⟩
  · omega
  · refine ⟨g, cap, rfl, (Array.getElem?_eq_some_iff.1 hg).1, ⟨.int .u8 (acc[j].toNat : Int), ?_⟩, h1.frozenAt j, fun c => ?_⟩
    · rw [h1.cellAt j (by omega)]
      simp [bys, hj]
    · refine ⟨?_, h2.setCell hb _⟩
      have := (h1.stored j (.int .u8 (c.toNat : Int))).1
      rw [List.length_set]
      rw [show bys (acc.set j c) = (bys acc).set j (.int .u8 (c.toNat : Int)) by simp [bys, List.map_set]]
      exact this

/-- Zero bytes are appended until the place is there. -/
theorem pad_end {m : Nat} {c : List UInt8} {z : Nat} (h1 : z = 0 ∨ c.length + z ≤ m) (h2 : m ≤ c.length + z) : c ++ List.replicate z 0 = pad m c := by
  unfold pad
  congr 2
  omega

set_option maxHeartbeats 4000000 in
set_option maxRecDepth 100000 in
theorem rlay_any (A : Option Addr) (lf cf : Nat) (f : List UInt8) (v : Value) (l : List P) (w : World) (hf : f.length = lf) (hlf : lf ≤ 100000) (hfs : SeesV w (.slice A lf cf) (bys f)) (hs : SeesP w v l) (hp : ∀ x ∈ l, x.p ≤ 9223372036854775807) (hL : l.length ≤ 1000000) :
    Calls Tryz.prog 88 #[.slice A lf cf, v] w (LayPost (lay f l) w) := by
  obtain ⟨len, hn⟩ : ∃ len, len = l.length := ⟨_, rfl⟩
  obtain ⟨a, cap, rfl, -⟩ := id hs
  have HS := Lib.hid hs
  rw [← hn] at HS hL ⊢
  have HN := Lib.hid hn
  have HF := Lib.hid hf
  have HFS := Lib.hid (hfs.later (below_made w (.cells #[] 5)))
  have HO := Lib.hid (own_made w 5)
  have HPP := Lib.hid hp
  have HLIM := Lib.hid (show ∀ k, (lay f (l.take k)).length ≤ 100000 from fun k => by have := lay_len_lim f (l.take k); omega)
  clear hs hn hf hp hfs
  go_enter Tryz.func88, Tryz.ntmps88
  go_wp2_with (at_builtin; refine append_all oneByte rfl _ _ rfl w.heap.size _ 0 [] rfl HO.out _ (bys f) rfl HFS.out (bys_ones _) ?a1 ?a2 ?a3 ?_)
  case a1 => have := HF.out; rw [bys_len]; omega
  case a2 => have := HF.out; rw [bys_len]; unfold maxLen; omega
  case a3 => simp
  intro v1 w1 ho hb
  have E1 := Lib.hid (show ERel w v1 (lay f (l.take 0)) w1 from ⟨by rw [bys_len] at ho; exact ho, (below_made w _).trans hb⟩)
  clear ho hb HO
  go_wp2_with fail
  go_loopw [5, 6, 7] (fun x i _ wr => ∃ k : Nat, k ≤ len ∧ i = .int .i64 (k : Int) ∧ ERel w x (lay f (l.take k)) wr) (fun _ i _ _ => len - (intOf i).toNat)
  case atStart => exact ⟨0, Nat.zero_le _, rfl, E1.out⟩
  case round =>
    clear E1
    obtain ⟨k, hk, rfl, hE⟩ := hrel
    have HE := Lib.hid hE
    clear hE
    by_cases hlt : k < len
    · have hkl : k < l.length := by rw [← HN.out]; exact hlt
      obtain ⟨g, off, A1, bc, rfl, hg, cc1, cc2, csv⟩ := HS.out.cells hkl
      have hpk := HPP.out _ (List.getElem_mem hkl)
      have hok1 := fun n => lay_next_ok (f := f) (n := n) hkl
      have hok2 := lay_next_no (f := f) hkl
      have hok3 := ok_facts (x := l[k])
      have hoe := ok_eq l[k]
      generalize l[k] = u at *
      obtain ⟨p, b⟩ := u
      simp only at cc1 cc2 hpk hok1 hok3 hoe csv
      obtain ⟨bl, hbl⟩ : ∃ bl, bl = b.length := ⟨_, rfl⟩
      rw [← hbl] at cc2 hoe csv
      have RI := Lib.hid (fun w => rbright_any p A1 bl bc w hpk)
      rw [← hoe] at RI
      have hc1 : wr.cell? ⟨g, off + k * 2, none⟩ = some (.int .i64 p) := (HE.out.2.cell (p := ⟨g, off + k * 2, none⟩) hg).trans cc1
      have hc2 : wr.cell? ⟨g, off + k * 2 + 1, none⟩ = some (.slice A1 bl bc) := (HE.out.2.cell (p := ⟨g, off + k * 2 + 1, none⟩) hg).trans cc2
      cases ho : ok ⟨p, b⟩ with
      | false =>
        rw [ho] at RI
        have HX := Lib.hid (show lay f (l.take (k + 1)) = lay f (l.take k) from hok2 ho)
        clear hok1 hok2 hok3 hoe hbl ho hpk csv cc1 cc2
        go_wp2_with fail
        refine (RI.out _).mono ?_
        rintro e w4 ⟨rfl, hb⟩
        have E4 := Lib.hid (show ERel w u5 (lay f (l.take (k + 1))) w4 by rw [HX.out]; exact ⟨own_belowN HE.out.1 hb, HE.out.2.trans (hb.mono HE.out.2.size)⟩)
        clear hb
        go_wp2_with fail
        go_roundw
        case rel => exact ⟨k + 1, by omega, by go_num, E4.out⟩
        case measure => simp [intOf]; omega
      | true =>
        rw [ho] at RI
        obtain ⟨q, hq1, hq2, hq3, hq4, _, hq6⟩ := hok3 ho
        have hq1 : p = q := hq1
        have hq2 : p.toNat = q := hq2
        have hq3 : 0 < b.length := hq3
        have hq4 : b.length ≤ 16 := hq4
        have hq6 : q + b.length ≤ 65536 := hq6
        obtain ⟨c, hc⟩ : ∃ c, c = lay f (l.take k) := ⟨_, rfl⟩
        have HX := Lib.hid (show lay f (l.take (k + 1)) = upTo c q b b.length by rw [upTo_end hq3, hc]; exact hok1 q ho hq2)
        have hcl : c.length ≤ 100000 := by rw [hc]; exact HLIM.out k
        have E0 := Lib.hid (show ERel w u5 (upTo c q b 0) wr by rw [upTo_zero, hc]; exact HE.out)
        rw [← hbl] at hq3 hq4 hq6
        have HBL := Lib.hid hbl
        have SV := Lib.hid csv
        subst hq1
        have C1 := Lib.hid (show ∀ W, Below w.heap.size w W → W.cell? ⟨g, off + k * 2, none⟩ = some (.int .i64 (q : Int)) from fun W hW => (hW.cell (p := ⟨g, off + k * 2, none⟩) hg).trans cc1)
        have C2 := Lib.hid (show ∀ W, Below w.heap.size w W → W.cell? ⟨g, off + k * 2 + 1, none⟩ = some (.slice A1 bl bc) from fun W hW => (hW.cell (p := ⟨g, off + k * 2 + 1, none⟩) hg).trans cc2)
        clear hok1 hok2 hok3 hoe hbl ho hpk hq2 csv hc cc1 cc2 HE
        go_wp2_with fail
        refine (RI.out _).mono ?_
        rintro e w4 ⟨rfl, hb⟩
        have E4 := Lib.hid (show ERel w u5 (upTo c q b 0) w4 from ⟨own_belowN E0.out.1 hb, E0.out.2.trans (hb.mono E0.out.2.size)⟩)
        clear hb E0 hc1 hc2
        go_wp2_with fail
        go_loopw [5, 7] (fun x j wr => ∃ m : Nat, m ≤ bl ∧ j = .int .i64 (m : Int) ∧ ERel w x (upTo c q b m) wr) (fun _ j _ => bl - (intOf j).toNat)
        case atStart => exact ⟨0, Nat.zero_le _, rfl, E4.out⟩
        case round =>
          clear E4
          obtain ⟨m, hm, rfl, hE⟩ := hrel
          have HE := Lib.hid hE
          clear hE
          have hc1 := C1.out _ HE.out.2
          have hc2 := C2.out _ HE.out.2
          by_cases hml : m < bl
          · have hmb : m < b.length := by rw [← HBL.out]; exact hml
            obtain ⟨t, ht⟩ : ∃ t, t = upTo c q b m := ⟨_, rfl⟩
            have htl : t.length ≤ 200000 := by rw [ht]; have := upTo_len c q b (k := m) (by omega); omega
            have HTN := Lib.hid (show (pad (q + m + 1) t).set (q + m) b[m] = upTo c q b (m + 1) by rw [ht]; exact upTo_next c q hmb)
            rw [← ht] at HE
            obtain ⟨gb, ob, hA1, hgb, cb⟩ := SV.out.cell hmb
            subst hA1
            have CB := Lib.hid (show ∀ W, Below w.heap.size w W → W.cell? ⟨gb, ob + m, none⟩ = some (.int .u8 (b[m].toNat : Int)) from fun W hW => (hW.cell (p := ⟨gb, ob + m, none⟩) hgb).trans cb)
            obtain ⟨x, hx⟩ : ∃ x : UInt8, x = b[m] := ⟨_, rfl⟩
            rw [← hx] at HTN CB
            clear ht hx cb
            go_wp2_with fail
            clear hc1 hc2
            go_loopw [5] (fun y wr => ∃ z : Nat, (z = 0 ∨ t.length + z ≤ q + m + 1) ∧ ERel w y (t ++ List.replicate z 0) wr) (fun y _ => q + m + 1 - sliceLen y)
            case atStart => exact ⟨0, .inl rfl, by simpa using HE.out⟩
            case round =>
              clear HE
              obtain ⟨z, hz, hE⟩ := hrel
              have hTL : (t ++ List.replicate z 0).length = t.length + z := by simp
              obtain ⟨T, hT⟩ : ∃ T, T = t ++ List.replicate z (0 : UInt8) := ⟨_, rfl⟩
              rw [← hT] at hE hTL
              obtain ⟨n, hn⟩ : ∃ n, n = T.length := ⟨_, rfl⟩
              obtain ⟨A5, c5, hu, -⟩ := own_slice hE.1
              rw [← hn] at hu hTL
              subst hu
              have HE := Lib.hid hE
              have HT := Lib.hid hT
              have HTL := Lib.hid hn
              have hc1 := C1.out _ hE.2
              have hsz := hE.2.size
              have hn2 : n ≤ 300000 := by rcases hz with h | h <;> omega
              clear hE hT hn
              by_cases hpad : n ≤ q + m
              · have OO := Lib.hid (show wr.ownsRow w.heap.size 5 1 _ n (bys T) by rw [HTL.out]; exact HE.out.1)
                have h1 : (n + 1) * 1 ≤ 140737488355328 := by omega
                have h2 : n + 1 ≤ maxLen := by unfold maxLen; omega
                have hz2 : t.length + (z + 1) ≤ q + m + 1 := by omega
                have hpad' : (n : Int) ≤ (q : Int) + (m : Int) := by omega
                clear hTL hz
                go_wp2_with (at_builtin; refine append_one oneByte rfl _ _ rfl w.heap.size _ _ _ rfl OO.out (.int .u8 0) rfl rfl h1 h2 hsz ?_)
                intro v5 w5 ho hb
                obtain ⟨A6, c6, rfl, -⟩ := own_slice ho
                have E5 := Lib.hid (show ERel w (.slice A6 (n + 1) c6) (t ++ List.replicate (z + 1) 0) w5 by
                  rw [List.replicate_succ', ← List.append_assoc, ← HT.out]
                  exact HE.out.zero (by rw [← HTL.out]; exact ho) hb)
                clear ho hb OO
                go_wp2_with fail
                go_roundw
                case rel => exact ⟨z + 1, .inr hz2, E5.out⟩
                case measure => simp [sliceLen]; omega
              · have hpad' : decide ((n : Int) ≤ (q : Int) + (m : Int)) = false := by simp; omega
                have EP := Lib.hid (show ERel w (.slice A5 n c5) (pad (q + m + 1) t) wr by
                  have h := HE.out
                  rw [HT.out, pad_end (m := q + m + 1) hz (by omega)] at h
                  exact h)
                have hpl : q + m < (pad (q + m + 1) t).length := by rw [pad_len]; omega
                obtain ⟨g5, c5', hu, hg5, ⟨y5, hy5⟩, hf5, hst⟩ := EP.out.store hpl
                injection hu with hu1 hu2 hu3
                subst hu1 hu3
                have HST := Lib.hid (hst x)
                rw [HTN.out] at HST
                have hc2 := C2.out _ HE.out.2
                have hcb := CB.out _ HE.out.2
                have n0 : ((q : Int) + (m : Int)).toNat = q + m := by omega
                have w0 : IntKind.i64.wrap ((q : Int) + (m : Int)) = (q : Int) + (m : Int) := IntWalk.i64_in _ (by omega)
                have p0 : 0 ≤ (q : Int) + (m : Int) := by omega
                have q0 : (q : Int) + (m : Int) < (n : Int) := by omega
                clear hst hu2 hTL hz hpl
                go_wp2_with fail
                go_still_tail 17, (by kernel_rfl)
                change wpList _ _ _ _ _ wr.drew
                go_wp2_with fail
                go_roundw
                case rel => exact ⟨m + 1, by omega, by go_num, HST.out.1.drew, HST.out.2.drew⟩
                case measure => simp [intOf]; omega
          · have HX2 := Lib.hid (show upTo c q b m = lay f (l.take (k + 1)) by rw [HX.out, show m = b.length by rw [← HBL.out]; omega])
            have E6 := Lib.hid (show ERel w u5 (lay f (l.take (k + 1))) wr by rw [← HX2.out]; exact HE.out)
            clear HX2 HE
            go_wp2_with fail
            go_roundw
            case rel => exact ⟨k + 1, by omega, by go_num, E6.out⟩
            case measure => simp [intOf]; omega
    · have HX := Lib.hid (show lay f (l.take k) = lay f l from lay_full (by rw [← HN.out]; exact hlt))
      have HP := Lib.hid (show LayPost (lay f l) w (.returned u5) wr from ⟨_, rfl, by rw [← HX.out]; exact SeesV.of_own HE.out.1, HE.out.2⟩)
      go_wp2_with fail
      go_ret
      exact HP.out
end Go.Proofs.YtaklilhnikmmfaaGreat
