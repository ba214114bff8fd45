/-
  The walks of block.long and block.Lay.
-/
import Derived.Test.YtaklilhnikmmfaaGreatBlockRow
import Derived.Laws.CopyOwn
import Derived.Laws.OwnMore
import Derived.Maps.AppendAt
namespace Go.Proofs.YtaklilhnikmmfaaGreat
open Go.RowKit StrM BlockM

theorem ret_int {a b : Int} (h : a = b) : Ending.returned (.int .i64 a) = .returned (.int .i64 b) := by rw [h]

/-- The block of a piece that a loop holds. -/
def PBox (w : World) (q : Nat) (p : Int) (B : Value) : Prop := w.cell? ⟨q, 0, none⟩ = some (.int .i64 p) ∧ w.cell? ⟨q, 1, none⟩ = some B ∧ q < w.heap.size
theorem PBox.made (w : World) (p : Int) (B : Value) : PBox (w.alloc (.cells #[.int .i64 p, B] 113)) w.heap.size p B := by
  refine ⟨?_, ?_, by simp⟩ <;> simp
theorem PBox.later {w w' : World} {q : Nat} {p : Int} {B : Value} (h : PBox w q p B) (hb : Below w.heap.size w w') : PBox w' q p B :=
  ⟨(hb.cell (p := ⟨q, 0, none⟩) h.2.2).trans h.1, (hb.cell (p := ⟨q, 1, none⟩) h.2.2).trans h.2.1, Nat.lt_of_lt_of_le h.2.2 hb.size⟩

set_option maxHeartbeats 2000000 in
set_option maxRecDepth 100000 in
theorem blong_any (A : Option Addr) (lf cf : Nat) (f : List UInt8) (v : Value) (l : List P) (w : World) (hf : f.length = lf) (hs : SeesP w v l) (hp : ∀ x ∈ l, x.p ≤ 9223372036854775807) (hL : l.length ≤ 1000000) :
    Calls Tryz.prog 99 #[.slice A lf cf, v] w fun e w' => e = .returned (.int .i64 ((lay f l).length : Int)) ∧ Below w.heap.size w w' := by
  obtain ⟨len, hn⟩ : ∃ len, len = l.length := ⟨_, rfl⟩
  obtain ⟨a, cap, rfl, -⟩ := id hs
  have HS := Lib.hid hs
  rw [← hn] at HS hL ⊢
  have HN := Lib.hid hn
  have HF := Lib.hid hf
  have HPP := Lib.hid hp
  clear hs hn hf hp
  go_enter Tryz.func99, Tryz.ntmps99
  go_wp2_with fail
  go_loopw [5, 12] (fun x i wr => ∃ (k n : Nat), k ≤ len ∧ i = .int .i64 (k : Int) ∧ x = .int .i64 (n : Int) ∧ n = (lay f (l.take k)).length ∧ Below w.heap.size w wr) (fun _ i _ => len - (intOf i).toNat)
  case atStart => exact ⟨0, lf, Nat.zero_le _, rfl, rfl, HF.out.symm, Below.refl _ _⟩
  case round =>
    obtain ⟨k, n, hk, rfl, rfl, hnn, hB⟩ := hrel
    have HNN := Lib.hid hnn
    have HB := Lib.hid hB
    clear hnn hB
    by_cases hlt : k < len
    · have hkl : k < l.length := by rw [← HN.out]; exact hlt
      obtain ⟨g, off, A1, bc, rfl, hg, hc1, hc2, -⟩ := (HS.out.later HB.out).cells hkl
      have hpk := HPP.out _ (List.getElem_mem hkl)
      have hok1 := lay_next_ok (f := f) (n := l[k].p.toNat) hkl
      have hok2 := lay_next_no (f := f) hkl
      have hok3 := ok_facts (x := l[k])
      have hoe := ok_eq l[k]
      generalize l[k] = u at *
      obtain ⟨p, b⟩ := u
      simp only at hc1 hc2 hpk hok1 hok3 hoe
      obtain ⟨bl, hbl⟩ : ∃ bl, bl = b.length := ⟨_, rfl⟩
      rw [← hbl] at hc2 hoe
      have RI := Lib.hid (fun w => bright_any p A1 bl bc w hpk)
      rw [← hoe] at RI
      have BX := Lib.hid (PBox.made wr p (.slice A1 bl bc))
      have B1 := Lib.hid (HB.out.alloc HB.out.size (.cells #[.int .i64 p, .slice A1 bl bc] 113))
      cases ho : ok ⟨p, b⟩ with
      | false =>
        rw [ho] at RI
        have HX := Lib.hid (show n = (lay f (l.take (k + 1))).length by rw [hok2 ho]; exact HNN.out)
        clear hok1 hok2 hok3 hoe hbl ho hpk
        go_wp2_with fail
        refine (RI.out _).mono ?_
        rintro e w2 ⟨rfl, hb⟩
        have B2 := Lib.hid (B1.out.trans (hb.mono B1.out.size))
        clear hb
        go_wp2_with fail
        go_roundw
        case rel => exact ⟨k + 1, n, by omega, by go_num, rfl, HX.out, B2.out⟩
        case measure => simp [intOf]; omega
      | true =>
        rw [ho] at RI
        obtain ⟨q, hq1, hq2, _, _, _, hq6⟩ := hok3 ho
        have hq1 : p = q := hq1
        have hq2 : p.toNat = q := hq2
        have hq6 : q + b.length ≤ 65536 := hq6
        rw [← hbl] at hq6
        have HX := Lib.hid (show max n (q + bl) = (lay f (l.take (k + 1))).length by rw [hok1 ho trivial, over_len, ← HNN.out, hq2, hbl])
        clear hok1 hok2 hok3 hoe hbl ho hpk hq2
        subst hq1
        have hmax : ∀ W, (Builtin.max_ #[3, 3] 3 #[.int .i64 (n : Int), .int .i64 ((q : Int) + (bl : Int))]).run Tryz.prog W = .ok (.int .i64 ((max n (q + bl) : Nat) : Int)) W := by
          intro W
          rw [run_max_int2]
          congr 2
          split <;> omega
        generalize max n (q + bl) = n2 at *
        go_wp2_with fail
        refine (RI.out _).mono ?_
        rintro e w2 ⟨rfl, hb⟩
        have B2 := Lib.hid (B1.out.trans (hb.mono B1.out.size))
        obtain ⟨x0, x1, -⟩ := BX.out.later hb
        clear hb
        go_wp2_with fail
        go_roundw
        case rel => exact ⟨k + 1, n2, by omega, by go_num, rfl, HX.out, B2.out⟩
        case measure => simp [intOf]; omega
    · have HX := Lib.hid (show (n : Int) = ((lay f l).length : Int) by rw [HNN.out, lay_full (by rw [← HN.out]; exact hlt)])
      go_wp2_with fail
      go_ret
      exact ⟨ret_int HX.out, HB.out⟩

/-- What Lay returns. -/
def LayPost (r : List UInt8) (w : World) (e : Ending) (w' : World) : Prop := ∃ v, e = .returned v ∧ SeesV w' v (bys r) ∧ Below w.heap.size w w'

/-- A row of bytes that is known whole. -/
def Whole (w : World) (g : Nat) (r : List UInt8) : Prop := w.heap[g]? = some (.cells (bys r).toArray 5 (0, 0))
theorem Whole.sees {w : World} {g : Nat} {r : List UInt8} (h : Whole w g r) (n c : Nat) (hn : n = r.length) : SeesV w (.slice (some ⟨g, 0, none⟩) n c) (bys r) := by
  refine ⟨some ⟨g, 0, none⟩, c, by rw [bys_len, hn], .inr ⟨g, 0, rfl, (Array.getElem?_eq_some_iff.1 h).1, fun k hk => ?_⟩⟩
  rw [Nat.zero_add, cell_of_row w g k _ _ (0, 0) h, List.getElem?_toArray, List.getElem?_eq_getElem hk]
theorem Whole.later {w w' : World} {g : Nat} {r : List UInt8} (h : Whole w g r) (hb : Below w.heap.size w w') : Whole w' g r := by
  unfold Whole at h ⊢
  rw [hb.block g (Array.getElem?_eq_some_iff.1 h).1]; exact h
theorem Whole.lt {w : World} {g : Nat} {r : List UInt8} (h : Whole w g r) : g < w.heap.size := (Array.getElem?_eq_some_iff.1 h).1

theorem bys_splice (L : List UInt8) (n : Nat) (b : List UInt8) : splice (bys L) n (bys b) = bys (spl L n b) := by
  simp [splice, spl, bys]

set_option maxRecDepth 100000 in
theorem made_whole (w : World) (N : Nat) (hN : N ≤ 1000000) :
    ∃ w', (Instr.makeSlice 38 (.int .i64 (N : Int)) (.int .i64 (N : Int))).run Tryz.prog w = .ok (.slice (some ⟨w.heap.size, 0, none⟩) N N) w' ∧ Whole w' w.heap.size (List.replicate N 0) ∧ Below w.heap.size w w' := by
  obtain ⟨i0, hi, hz0, hz1, hz2⟩ := info_parts oneByte.info
  obtain ⟨w', h1, h2, h3⟩ := run_make_full (P := Tryz.prog) w w.heap.size 38 5 i0 (.int .u8 0) 1 Tryz.underlying38 hi hz0 hz1 .i64 .i64 N (by rw [hz2]; omega) (by unfold maxLen; omega) (Nat.le_refl _)
  refine ⟨w', h1, ?_, (Below.refl _ _).grown h3 (Nat.le_refl _) (fun k hk => by cases hk)⟩
  rcases h2.2 with ⟨h', _⟩ | ⟨g, cap, cur, h', _, hg, _, _, hcs, htake⟩
  · injection h' with h'1; cases h'1
  · injection h' with h'1 h'2 h'3
    injection h'1 with h'1
    injection h'1 with h'1 _ _
    subst h'1 h'3
    rw [Nat.mul_one] at hcs htake
    rw [List.take_of_length_le (by simp [hcs])] at htake
    have : cur = (bys (List.replicate N 0)).toArray := by
      apply Array.ext'
      rw [htake, show (Value.int IntKind.u8 0).cells = #[.int .u8 0] from rfl, toList_madeCells_one]
      simp [bys]
    rw [Whole, ← this]
    exact hg

/-- The bytes that a copy takes. -/
theorem SeesV.src {w : World} {A : Option Addr} {n c : Nat} {l : List UInt8} (h : SeesV w (.slice A n c) (bys l)) (h0 : 0 < l.length) : ∃ ad, A = some ad ∧ ∀ j v, (bys l)[j]? = some v → w.cell? (ad.add j) = some v := by
  obtain ⟨A', c', e, h⟩ := h
  injection e with e1 _ _
  subst e1
  rcases h with h | ⟨g, off, rfl, _, hc⟩
  · have := congrArg List.length h
    rw [bys_len, List.length_nil] at this; omega
  · refine ⟨_, rfl, fun j v hj => ?_⟩
    have hjl : j < (bys l).length := (List.getElem?_eq_some_iff.1 hj).1
    have := hc j hjl
    rw [List.getElem?_eq_getElem hjl] at hj
    rw [Option.some.inj hj] at this
    by_cases j0 : j = 0
    · subst j0; simpa [Addr.add] using this
    · simpa [Addr.add, j0] using this

theorem sizeByte : (Tryz.prog.info? 5).map (·.size) = some 1 := by kernel_rfl

/-- s[i:] of a row, ahead of its end: where it lies. -/
theorem cut_at {g N n : Nat} (h : n < N) : ∀ W, (Instr.sliceAt 38 (.slice (some ⟨g, 0, none⟩) N N) (some (.int .i64 (n : Int))) none none).run Tryz.prog W = .ok (.slice (some ⟨g, n, none⟩) (N - n) (N - n)) W := by
  intro W
  rw [run_sliceAt_slice W _ _ _ _ _ elem_bytes, run_slice_l W _ (some ⟨g, 0, none⟩) N N elem_bytes .i64 _ (by omega) (by omega), size_byte]
  simp only [Result.andThen, Int.toNat_natCast]
  congr 1
  rw [sliced, if_neg (by omega)]
  by_cases h0 : n = 0
  · subst h0; simp [Addr.add]
  · simp [Addr.add, h0]

set_option maxHeartbeats 2000000 in
set_option maxRecDepth 100000 in
theorem lay_any (A : Option Addr) (lf cf : Nat) (f : List UInt8) (v : Value) (l : List P) (w : World) (hf : f.length = lf) (hlf : lf ≤ 100000) (hfs : SeesV w (.slice A lf cf) (bys f)) (hs : SeesP w v l) (hp : ∀ x ∈ l, x.p ≤ 9223372036854775807) (hL : l.length ≤ 1000000) :
    Calls Tryz.prog 76 #[.slice A lf cf, v] w (LayPost (lay f l) w) := by
  have LO := Lib.hid (blong_any A lf cf f v l w hf hs hp hL)
  obtain ⟨len, hn⟩ : ∃ len, len = l.length := ⟨_, rfl⟩
  obtain ⟨N, hN⟩ : ∃ N, N = (lay f l).length := ⟨_, rfl⟩
  obtain ⟨a, cap, rfl, -⟩ := id hs
  have HS := Lib.hid hs
  have hNm : N ≤ 100000 := by rw [hN]; have := lay_len_lim f l; omega
  have hfN : lf ≤ N := by rw [hN, ← hf]; exact lay_len_le f l
  rw [← hn] at HS hL LO ⊢
  rw [← hN] at LO
  have HN := Lib.hid hn
  have HNN := Lib.hid hN
  have HF := Lib.hid hf
  have HFS := Lib.hid hfs
  have HPP := Lib.hid hp
  clear hs hn hf hp hfs hN
  go_enter Tryz.func76, Tryz.ntmps76
  go_wp2_with fail
  refine (LO.out).mono ?_
  rintro e w1 ⟨rfl, hb⟩
  have B1 := Lib.hid hb
  obtain ⟨w2, hmk, hw2, hb2⟩ := made_whole w1 N (by omega)
  have W2 := Lib.hid (show w2.heap[w1.heap.size]? = some (.cells (bys (List.replicate N 0)).toArray 5 (0, 0)) from hw2)
  have B2 := Lib.hid (B1.out.trans (hb2.mono B1.out.size))
  have F2 := Lib.hid (HFS.out.later B2.out)
  have hgw := B1.out.size
  obtain ⟨g, hg⟩ : ∃ g, g = w1.heap.size := ⟨_, rfl⟩
  rw [← hg] at hmk W2 hgw
  clear hb hb2 hw2 hg
  go_wp2_with (with_reducible refine wpList_copy_splice (o := ⟨some 14, _, _, _, _, _⟩) rfl (.tmp 12) (.tmp 13) 38 38 rfl 5 Tryz.underlying38 sizeByte (some ⟨g, 0, none⟩) A N N lf cf rfl rfl g 0 (bys (List.replicate N 0)) 5 W2.out (bys f) ?h1 ?h2 ?h3 (bys_ones f) w.heap.size w B2.out hgw ?_)
  case h1 => rw [bys_len, HF.out]; exact (Nat.min_eq_left hfN).symm
  case h2 =>
    intro h0
    rw [bys_len] at h0
    exact F2.out.src h0
  case h3 => rw [bys_len, bys_len, List.length_replicate, HF.out]; omega
  intro w3 hw3 hb3
  have W3 := Lib.hid (show Whole w3 g (pad N (lay f (l.take 0))) by
    rw [show lay f (l.take 0) = f from rfl, ← spl_zeros (by rw [HF.out]; exact hfN), Whole, ← bys_splice]; exact hw3.out)
  have B3 := Lib.hid hb3
  clear hw3 hb3 W2 B2 F2
  go_wp2_with fail
  go_loopw [17] (fun i wr => ∃ k : Nat, k ≤ len ∧ i = .int .i64 (k : Int) ∧ Whole wr g (pad N (lay f (l.take k))) ∧ Below w.heap.size w wr) (fun i _ => len - (intOf i).toNat)
  case atStart => exact ⟨0, Nat.zero_le _, rfl, W3.out, B3.out⟩
  case round =>
    obtain ⟨k, hk, rfl, hW, hB⟩ := hrel
    have HW := Lib.hid hW
    have HB := Lib.hid hB
    clear hW hB W3 B3 hmk
    by_cases hlt : k < len
    · have hkl : k < l.length := by rw [← HN.out]; exact hlt
      obtain ⟨g1, off, A1, bc, rfl, hg1, hc1, hc2, hsv⟩ := (HS.out.later HB.out).cells hkl
      have hpk := HPP.out _ (List.getElem_mem hkl)
      have hok1 := fun n => lay_next_ok (f := f) (n := n) hkl
      have hok2 := lay_next_no (f := f) hkl
      have hok3 := ok_facts (x := l[k])
      have hoe := ok_eq l[k]
      have HLE := Lib.hid (lay_take_le f l k)
      have HLE2 := Lib.hid (lay_take_le f l (k + 1))
      generalize l[k] = u at *
      obtain ⟨p, b⟩ := u
      simp only at hc1 hc2 hpk hok1 hok3 hoe hsv
      obtain ⟨bl, hbl⟩ : ∃ bl, bl = b.length := ⟨_, rfl⟩
      rw [← hbl] at hc2 hoe hsv
      have RI := Lib.hid (fun w => bright_any p A1 bl bc w hpk)
      rw [← hoe] at RI
      have BX := Lib.hid (PBox.made wr p (.slice A1 bl bc))
      have B1' := Lib.hid (below_made wr (.cells #[.int .i64 p, .slice A1 bl bc] 113))
      cases ho : ok ⟨p, b⟩ with
      | false =>
        rw [ho] at RI
        have HX := Lib.hid (show lay f (l.take (k + 1)) = lay f (l.take k) from hok2 ho)
        clear hok1 hok2 hok3 hoe hbl ho hpk hsv
        go_wp2_with fail
        refine (RI.out _).mono ?_
        rintro e w4 ⟨rfl, hb⟩
        have B4 := Lib.hid (B1'.out.trans (hb.mono B1'.out.size))
        clear hb
        go_wp2_with fail
        go_roundw
        case rel => exact ⟨k + 1, by omega, by go_num, by rw [HX.out]; exact HW.out.later B4.out, HB.out.trans (B4.out.mono HB.out.size)⟩
        case measure => simp [intOf]; omega
      | true =>
        rw [ho] at RI
        obtain ⟨q, hq1, hq2, hq3, _, _, hq6⟩ := hok3 ho
        have hq1 : p = q := hq1
        have hq2 : p.toNat = q := hq2
        have hq3 : 0 < b.length := hq3
        have HX := Lib.hid (show lay f (l.take (k + 1)) = over (lay f (l.take k)) q b from hok1 q ho hq2)
        have HBL := Lib.hid hbl
        have hfit : q + bl ≤ N := by
          have h := HLE2.out
          rw [HX.out, over_len, ← HNN.out, ← hbl] at h; omega
        have hq0 : q < N := by omega
        have SV := Lib.hid hsv
        clear hok1 hok2 hok3 hoe hbl ho hpk hq2 hsv hq3 hq6
        subst hq1
        have hcut := cut_at (g := g) hq0
        go_wp2_with fail
        refine (RI.out _).mono ?_
        rintro e w4 ⟨rfl, hb⟩
        have B4 := Lib.hid (B1'.out.trans (hb.mono B1'.out.size))
        obtain ⟨x0, x1, -⟩ := BX.out.later hb
        have W4 := Lib.hid (HW.out.later B4.out)
        have S4 := Lib.hid (SV.out.later B4.out)
        have B5 := Lib.hid (HB.out.trans (B4.out.mono HB.out.size))
        have WD := Lib.hid (show w4.drew.heap[g]? = some (.cells (bys (pad N (lay f (l.take k)))).toArray 5 (0, 0)) from W4.out)
        have BD := Lib.hid (B5.out.drew)
        have SD := Lib.hid (S4.out.later (below_drew w4 (Nat.le_refl _)))
        have P1 := Lib.hid (show (bys b).length = Nat.min bl (N - q) by rw [bys_len, ← HBL.out]; exact (Nat.min_eq_left (by omega)).symm)
        have P2 := Lib.hid (show 0 < (bys b).length → ∃ ad, A1 = some ad ∧ ∀ j v, (bys b)[j]? = some v → w4.drew.cell? (ad.add j) = some v from fun h0 => SD.out.src (by rw [bys_len] at h0; exact h0))
        have P3 := Lib.hid (show q + (bys b).length ≤ (bys (pad N (lay f (l.take k)))).length by rw [bys_len, bys_len, pad_len, ← HBL.out]; omega)
        clear hb
        go_wp2_with fail
        go_region_law (refine step_copy_splice rfl (.tmp 26) (.tmp 28) 38 38 rfl 5 Tryz.underlying38 sizeByte (some ⟨g, q, none⟩) A1 (N - q) (N - q) bl bc rfl rfl g q (bys (pad N (lay f (l.take k)))) 5 WD.out (bys b) P1.out (fun h0 => ⟨rfl, P2.out h0⟩) P3.out (bys_ones b) w.heap.size w BD.out hgw ?_; intro w5 hw5 hb5)
        all_goals
          have W5 := Lib.hid (show Whole w5 g (pad N (lay f (l.take (k + 1)))) by
            have h := hw5.out
            rw [bys_splice, spl_pad (by rw [HNN.out]; exact HLE.out) (by rw [← HBL.out]; exact hfit), ← HX.out] at h
            exact h)
          have B6 := Lib.hid hb5
          clear hw5 hb5
          go_wp2_with fail
          go_roundw
          case rel => exact ⟨k + 1, by omega, by go_num, W5.out, B6.out⟩
          case measure => simp [intOf]; omega
    · have HX := Lib.hid (show SeesV wr (.slice (some ⟨g, 0, none⟩) N N) (bys (lay f l)) by
        have h := HW.out
        rw [lay_full (by rw [← HN.out]; exact hlt), pad_same (by rw [← HNN.out]; exact Nat.le_refl _)] at h
        exact h.sees N N HNN.out)
      go_wp2_with fail
      go_ret
      exact ⟨_, rfl, HX.out, HB.out⟩
end Go.Proofs.YtaklilhnikmmfaaGreat
