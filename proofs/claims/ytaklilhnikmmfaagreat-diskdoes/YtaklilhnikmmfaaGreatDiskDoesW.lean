/-
  The walk of DiskDoes.
-/
import Derived.Test.YtaklilhnikmmfaaGreatDiskRefLive
import Derived.Test.YtaklilhnikmmfaaGreatDiskLight
namespace Go.Proofs.YtaklilhnikmmfaaGreat
open Go.RowKit StrM BlockM FileM DirM DiskM NumM

theorem CD.shell' {N p i : Nat} {s : S} {w : World} (h : CD N p i s w) : Shell w p := by
  obtain ⟨r, k, g, H⟩ := h
  exact H.shell
theorem CD.typed {N p i : Nat} {s : S} {w : World} (h : CD N p i s w) : ∃ cs, w.heap[p]? = some (.cells cs 59 (0, 0)) := by
  obtain ⟨r, k, g, H⟩ := h
  exact ⟨_, H.box⟩
theorem RD.shell {N q : Nat} {s : S} {w : World} (h : RD N q s w) : Shell w q := by
  obtain ⟨r, H⟩ := h
  exact H.shell
/-- What the reference's calls change leaves the code's disk, and the other way round. -/
theorem CD.veer {N p q i : Nat} {s s2 : S} {w w' : World} (h : CD N p i s w) (hr : RD N q s2 w) (hi : ∀ f ∈ s.files, FileM.valid f = true) (ht : Veer false N q w w') : CD N p i s w' := by
  obtain ⟨r, k, g, H⟩ := h
  obtain ⟨r2, H2⟩ := hr
  have hb := H.box
  have hb2 := H2.box
  unfold KBox at hb
  unfold RBox at hb2
  have hpq : p ≠ q := by
    rintro rfl
    rw [hb] at hb2
    injection hb2 with hb2
    injection hb2 with _ hb2
    exact absurd hb2 (by decide)
  have hm : r.m ≠ q := by
    obtain ⟨es, c, hmm⟩ := H.map.map
    intro e
    rw [e, hb2] at hmm
    cases hmm
  exact ⟨r, k, g, H.veer hi ht H2.shell hpq hm⟩
theorem RD.veer {N M p q i : Nat} {s s2 : S} {w w' : World} (h : RD N q s w) (hc : CD M p i s2 w) (hi : ∀ f ∈ s.files, FileM.valid f = true) (ht : Veer true M p w w') : RD N q s w' := by
  obtain ⟨r, k, g, H⟩ := hc
  obtain ⟨r2, H2⟩ := h
  have hb := H.box
  have hb2 := H2.box
  unfold KBox at hb
  unfold RBox at hb2
  have hpq : q ≠ p := by
    rintro rfl
    rw [hb] at hb2
    injection hb2 with hb2
    injection hb2 with _ hb2
    exact absurd hb2 (by decide)
  exact ⟨r2, H2.veer hi ht H.shell hpq hb (by decide)⟩
theorem RD.cells {N q : Nat} {s : S} {w : World} (h : RD N q s w) : q < w.heap.size ∧ w.cell? ⟨q, 8, none⟩ = some (.bool s.down) ∧ w.cell? ⟨q, 5, none⟩ = some (.int .i64 s.ops) := by
  obtain ⟨r, H⟩ := h
  obtain ⟨-, -, -, -, -, c5, -, -, c8⟩ := H.box.cells
  rw [H.ops] at c5
  rw [H.down] at c8
  exact ⟨H.box.lt, c8, c5⟩
theorem RD.init (room : Int) (w : World) (N : Nat) (hN : N ≤ w.heap.size) : RD N w.heap.size (init room) (w.alloc (.cells #[.int .i64 room, .slice none 0 0, .slice none 0 0, .slice none 0 0, .slice none 0 0, .int .i64 0, .int .i64 0, .int .i64 0, .bool false] 35)) := by
  refine ⟨⟨room, .slice none 0 0, .slice none 0 0, .slice none 0 0, .slice none 0 0, 0, 0, 0, false⟩, { box := heap_alloc_new w _, room := rfl, ops := rfl, trip := rfl, stop := rfl, down := rfl, dir := SeesD.zero _, files := ?_, base := hN }⟩
  exact ⟨[], ⟨rfl, fun k h => by simp at h⟩, ⟨rfl, .inl ⟨rfl, rfl⟩⟩⟩

/-- How far the law has come. -/
def DoesRel (N p q : Nat) (w1 : World) (i : Value) (n : Nat) (wr : World) : Prop :=
  ∃ (k : Nat) (s : S), k ≤ n ∧ i = .int .i64 (k : Int) ∧ Inv k s ∧ CD N p k s wr ∧ RD N q s wr ∧ Below N w1 wr

/-- The condition that a region's worlds meet may be narrowed on the way. -/
theorem wpAnyH_weak {P : Program} {ops : Array Oper} {Q : Exit → Act → World → Prop} {md : Region.Mode} {S S' : World → Prop} (hS : ∀ w, S' w → S w) : ∀ (fuel : Nat) (listed : Array Bool) (a : Act) (w : World), wpAnyH P md ops Q S' fuel listed a w → wpAnyH P md ops Q S fuel listed a w
  | 0, _, _, _, h => h
  | fuel + 1, _, _, _, h => ⟨h.1, fun i hi => wpOp_mono (fun a' w' h' => ⟨hS _ h'.1, wpAnyH_weak hS fuel _ a' w' h'.2⟩) (h.2 i hi)⟩

/-- Between the two acts, and behind both. -/
def UW (N p q k : Nat) (s s' : S) (w1 W : World) : Prop := CD N p (k + 1) s' W ∧ RD N q s W ∧ Below N w1 W
theorem UW.later {N p q k : Nat} {s s' : S} {w1 W W' : World} (h : UW N p q k s s' w1 W) (hb : Below W.heap.size W W') : UW N p q k s s' w1 W' :=
  ⟨h.1.later hb, h.2.1.later hb, h.2.2.trans (hb.mono h.2.1.baseW)⟩
theorem lite_ok {w : World} {u : AX} (h : AXok w u) (hl : lite u.a = true) : OkA u.a := by
  unfold lite at hl
  simp only [Bool.and_eq_true, decide_eq_true_eq] at hl
  exact ⟨hl.1, hl.2.1, hl.2.2.1, hl.2.2.2.2, h.p0, h.p1⟩

set_option maxHeartbeats 1000000 in
theorem does_one (N p q k : Nat) (s : S) (x : A) (Ad : Option Addr) (lb cb : Nat) (Ab : Option Addr) (nb cbb : Nat) (w1 w : World) (hC : CD N p k s w) (hR : RD N q s w) (hB : Below N w1 w) (hI : Inv k s) (hi : k ≤ 100) (hx : OkA x)
    (hb : ∀ W, Below N w1 W → SeesV W (.slice Ad lb cb) (bys x.b)) (hlb : x.b.length = lb) (hcb : lb ≤ cb) (ht : ∀ W, Below N w1 W → SeesV W (.slice Ab nb cbb) (bools x.bits)) (hnb : x.bits.length = nb) (hcbb : nb ≤ cbb) :
    Calls Tryz.prog 10 #[.pointer (some ⟨p, 0, none⟩), .agg #[.int .i64 x.kind, .string x.name, .string x.dst, .int .i64 x.p, .slice Ad lb cb, .slice Ab nb cbb]] w fun e W => e = .returned (.int .i64 (stepE s x)) ∧ UW N p q k s (stepS s x) w1 W := by
  refine (do_live N p k s x Ad lb cb Ab nb cbb w hC hI hi hx (hb w hB) hlb hcb (fun W h => ht W (hB.trans h)) hnb hcbb).mono ?_
  rintro e W ⟨er, rfl, rfl, hc, hv⟩
  exact ⟨rfl, hc, hR.veer hC hI.fine hv, hB.trans hv.below⟩
theorem does_two (N p q k : Nat) (s : S) (x : A) (Ad : Option Addr) (lb cb : Nat) (Ab : Option Addr) (nb cbb : Nat) (w1 w : World) (h : UW N p q k s (stepS s x) w1 w) (hI : Inv k s) (hi : k ≤ 100) (hx : OkA x)
    (hb : ∀ W, Below N w1 W → SeesV W (.slice Ad lb cb) (bys x.b)) (hlb : x.b.length = lb) (ht : ∀ W, Below N w1 W → SeesV W (.slice Ab nb cbb) (bools x.bits)) (hnb : x.bits.length = nb) (hcbb : nb ≤ cbb) :
    Calls Tryz.prog 11 #[.pointer (some ⟨q, 0, none⟩), .agg #[.int .i64 x.kind, .string x.name, .string x.dst, .int .i64 x.p, .slice Ad lb cb, .slice Ab nb cbb]] w fun e W => e = .returned (.int .i64 (stepE s x)) ∧ UW N p q k (stepS s x) (stepS s x) w1 W := by
  obtain ⟨hC, hR, hB⟩ := h
  refine (rdo_live N q k s x Ad lb cb Ab nb cbb w hR hI hi hx (hb w hB) hlb (fun W h => ht W (hB.trans h)) hnb hcbb).mono ?_
  rintro e W ⟨er, rfl, rfl, hr, hv⟩
  exact ⟨rfl, hC.veer hR (hI.step hx).fine hv, hr, hB.trans hv.below⟩

set_option maxHeartbeats 8000000 in
set_option maxRecDepth 100000 in
theorem does_walk (room : Int) (v : Value) (l : List AX) (w : World) (h : SeesX w v l) :
    Calls Tryz.prog 3 #[.int .i64 room, v] w fun e w' => e = .returned (.bool true) ∧ Below w.heap.size w w' := by
  have LI := Lib.hid (light_any v l w h)
  have AW := Lib.hid (fun W => kawake_any W)
  have HS := Lib.hid (fun W (hb : Below w.heap.size w W) => h.later hb)
  have SZ := Lib.hid (fun W => size_any room W)
  have NY := Lib.hid (fun W => new_yes room W)
  have NN := Lib.hid (fun W => new_no room W)
  obtain ⟨a, cap, rfl, -⟩ := h.row.form
  obtain ⟨n, hn⟩ : ∃ n, n = l.length := ⟨_, rfl⟩
  rw [← hn] at LI HS ⊢
  have HN := Lib.hid hn
  clear h hn
  go_enter Tryz.func3, Tryz.ntmps3
  go_wp2_with fail
  refine LI.out.mono ?_
  rintro e w1 ⟨rfl, hb⟩
  have B1 := Lib.hid hb
  have LT := Lib.hid (show light (l.map (·.a)) = (decide (n ≤ 40) && (l.map (·.a)).all lite) by unfold light; rw [List.length_map, HN.out])
  clear LI hb
  cases hl : light (l.map (·.a))
  case' false =>
    clear LT NY NN SZ HS HN hl
    go_wp2_with fail
    refine (AW.out _).mono ?_
    rintro e w2 ⟨rfl, hb⟩
    have B2 := Lib.hid (B1.out.trans (hb.mono B1.out.size))
    clear hb AW
    go_wp2_with fail
    go_ret
    exact ⟨rfl, B2.out⟩
  case' true =>
    have n40 : n ≤ 40 := by have := LT.out; rw [hl] at this; simp at this; exact this.1
    have LITE := Lib.hid (show ∀ u ∈ l, lite u.a = true from fun u hu => by
      have := LT.out
      rw [hl] at this
      simp at this
      exact this.2 u hu)
    clear LT hl
    cases hr : isB room
    case' false =>
      have NO := Lib.hid (NN.out w1 (isB_false hr))
      rw [hr] at SZ
      clear NY NN HS HN LITE hr
      go_wp2_with fail
      refine NO.out.mono ?_
      rintro e w' ⟨rfl, rfl⟩
      clear NO
      go_wp2_with fail
      refine (SZ.out _).mono ?_
      rintro e w' ⟨rfl, rfl⟩
      go_wp2_with fail
      refine (AW.out _).mono ?_
      rintro e w2 ⟨rfl, hb⟩
      have B2 := Lib.hid (B1.out.trans (hb.mono B1.out.size))
      clear hb AW SZ
      go_wp2_with fail
      go_ret
      exact ⟨rfl, B2.out⟩
    case' true =>
      have YES := Lib.hid (NY.out w1 (isB_true hr).1 (isB_true hr).2)
      have II := Lib.hid (init_inv (isB_true hr).1 (isB_true hr).2)
      rw [hr] at SZ
      clear NY NN hr
      go_wp2_with fail
      refine YES.out.mono ?_
      rintro e w2 ⟨rfl, hc, hb⟩
      have C2 := Lib.hid hc
      have B2 := Lib.hid hb
      clear YES hc hb
      go_wp2_with fail
      refine (SZ.out _).mono ?_
      rintro e w' ⟨rfl, rfl⟩
      clear SZ
      have R3 := Lib.hid (RD.init room w2 w1.heap.size B2.out.size)
      have B3 := Lib.hid (below_made w2 (.cells #[.int .i64 room, .slice none 0 0, .slice none 0 0, .slice none 0 0, .slice none 0 0, .int .i64 0, .int .i64 0, .int .i64 0, .bool false] 35))
      have C3 := Lib.hid (C2.out.later B3.out)
      have B4 := Lib.hid (B2.out.trans (B3.out.mono B2.out.size))
      clear C2
      go_wp2_with fail
      generalize w2.alloc (.cells #[.int .i64 room, .slice none 0 0, .slice none 0 0, .slice none 0 0, .slice none 0 0, .int .i64 0, .int .i64 0, .int .i64 0, .bool false] 35) = w3 at *
      have NW := Lib.hid (show w1.heap.size = w1.heap.size from rfl)
      generalize w2.heap.size = q at *
      obtain ⟨p, hp⟩ : ∃ p, p = w1.heap.size + 1 := ⟨_, rfl⟩
      rw [← hp] at C3 ⊢
      clear hp B2 B3 NW
      obtain ⟨N, hN⟩ : ∃ N, N = w1.heap.size := ⟨_, rfl⟩
      rw [← hN] at C3 R3 B4
      have HNN := Lib.hid hN
      clear hN
      have ST := Lib.hid (show DoesRel N p q w1 (.int .i64 0) n w3 from ⟨0, init room, Nat.zero_le _, rfl, II.out, C3.out, R3.out, B4.out⟩)
      clear C3 R3 B4 II
      go_loopw [7] (fun s7 wr => DoesRel N p q w1 s7 n wr) (fun s7 _ => n - (intOf s7).toNat)
      case atStart => exact ST.out
      case round =>
        obtain ⟨k, s, hk, rfl, hI, hC, hR, hB⟩ := hrel
        have HI := Lib.hid hI
        have HC := Lib.hid hC
        have HR := Lib.hid hR
        have HB := Lib.hid hB
        clear hI hC hR hB ST
        by_cases hlt : k < n
        · have hkl : k < l.length := by rw [← HN.out]; exact hlt
          have hlt' : (k : Int) < (n : Int) := by omega
          have hi : k ≤ 100 := by omega
          obtain ⟨g, off, Ad, cb, Ab, cbb, rfl, hg, x0, x1, x2, x3, x4, x5, hcb, hsb, hcbb, hst⟩ := (HS.out _ B1.out).cells hkl
          have HX := Lib.hid (lite_ok ((HS.out _ B1.out).ok _ (List.getElem_mem hkl)) (LITE.out _ (List.getElem_mem hkl)))
          obtain ⟨x, hxe⟩ : ∃ x, x = l[k].a := ⟨_, rfl⟩
          rw [← hxe] at x0 x1 x2 x3 x4 x5 hcb hsb hcbb hst HX
          clear hxe
          have LATE := Lib.hid (show ∀ W, Below N w1 W → Below w1.heap.size w1 W from fun W hB => by rw [← HNN.out]; exact hB)
          obtain ⟨lb, hlb⟩ : ∃ m, m = x.b.length := ⟨_, rfl⟩
          obtain ⟨nb, hnb⟩ : ∃ m, m = x.bits.length := ⟨_, rfl⟩
          rw [← hlb] at x4 hcb hsb
          rw [← hnb] at x5 hcbb hst
          have HSB := Lib.hid (show ∀ W, Below N w1 W → SeesV W (.slice Ad lb cb) (bys x.b) from fun W hB => hsb.later (LATE.out W hB))
          have HST := Lib.hid (show ∀ W, Below N w1 W → SeesV W (.slice Ab nb cbb) (bools x.bits) from fun W hB => hst.later (LATE.out W hB))
          have HCL := Lib.hid (show ∀ W, Below N w1 W → W.cell? ⟨g, off + k * 6, none⟩ = some (.int .i64 x.kind) ∧ W.cell? ⟨g, off + k * 6 + 1, none⟩ = some (.string x.name) ∧ W.cell? ⟨g, off + k * 6 + 2, none⟩ = some (.string x.dst) ∧ W.cell? ⟨g, off + k * 6 + 3, none⟩ = some (.int .i64 x.p) ∧ W.cell? ⟨g, off + k * 6 + 4, none⟩ = some (.slice Ad lb cb) ∧ W.cell? ⟨g, off + k * 6 + 5, none⟩ = some (.slice Ab nb cbb) from fun W hB => by
            have hB' := LATE.out W hB
            exact ⟨(hBcell hB' hg).trans x0, (hBcell hB' hg).trans x1, (hBcell hB' hg).trans x2, (hBcell hB' hg).trans x3, (hBcell hB' hg).trans x4, (hBcell hB' hg).trans x5⟩)
          have D1 := Lib.hid (fun W (hB : Below wr.heap.size wr W) => does_one N p q k s x Ad lb cb Ab nb cbb w1 W (HC.out.later hB) (HR.out.later hB) (HB.out.trans (hB.mono HR.out.baseW)) HI.out hi HX.out HSB.out hlb.symm hcb HST.out hnb.symm hcbb)
          have D2 := Lib.hid (fun W (h : UW N p q k s (stepS s x) w1 W) => does_two N p q k s x Ad lb cb Ab nb cbb w1 W h HI.out hi HX.out HSB.out hlb.symm HST.out hnb.symm hcbb)
          have I2 := Lib.hid (HI.out.step HX.out)
          generalize stepE s x = er at *
          generalize stepS s x = s2 at *
          have D3 := Lib.hid (show ∀ W, UW N p q k s2 s2 w1 W → Calls Tryz.prog 12 #[.pointer (some ⟨p, 0, none⟩)] W fun e W' => e = .returned (.bool s2.down) ∧ UW N p q k s2 s2 w1 W' from
            fun W h => (down_any N p (k + 1) s2 W h.1).mono fun e W' ⟨he, hb⟩ => ⟨he, h.later hb⟩)
          have D4 := Lib.hid (show ∀ W, UW N p q k s2 s2 w1 W → Calls Tryz.prog 13 #[.pointer (some ⟨p, 0, none⟩)] W fun e W' => e = .returned (.int .i64 s2.ops) ∧ UW N p q k s2 s2 w1 W' from
            fun W h => (ops_any N p (k + 1) s2 W h.1).mono fun e W' ⟨he, hb⟩ => ⟨he, h.later hb⟩)
          have NAM := Lib.hid (show (nms (if s2.down then [] else s2.dir.now)).length ≤ 1000000 by
            unfold nms
            split
            · simp
            · rw [List.length_map]; have := (DirM.valid_now I2.out.dirs).few; omega)
          have L5 := Lib.hid (show ∀ W, UW N p q k s2 s2 w1 W → Calls Tryz.prog 15 #[.pointer (some ⟨p, 0, none⟩)] W (LPost (if s2.down then [] else s2.dir.now) W) from
            fun W h => list_any N p (k + 1) s2 W h.1 I2.out)
          have L6 := Lib.hid (show ∀ W, UW N p q k s2 s2 w1 W → Calls Tryz.prog 16 #[.pointer (some ⟨q, 0, none⟩)] W (LPost (if s2.down then [] else s2.dir.now) W) from
            fun W h => rlist_any N q (k + 1) s2 W h.2.1 I2.out)
          unfold LPost at L5 L6
          generalize nms (if s2.down then [] else s2.dir.now) = nl at *
          obtain ⟨nn, hnn⟩ : ∃ m, m = (strs nl).length := ⟨_, rfl⟩
          have D5 := Lib.hid (show ∀ W, UW N p q k s2 s2 w1 W → Calls Tryz.prog 15 #[.pointer (some ⟨p, 0, none⟩)] W fun e W' => ∃ a c, e = .returned (.slice a nn c) ∧ SeesV W' (.slice a nn c) (strs nl) ∧ UW N p q k s2 s2 w1 W' from
            fun W h => (L5.out W h).mono fun e W' ⟨v, he, hv, hb⟩ => by
              obtain ⟨a, c, rfl, -⟩ := id hv
              rw [← hnn] at he hv
              exact ⟨a, c, he, hv, h.later hb⟩)
          have D6 := Lib.hid (show ∀ W a c, UW N p q k s2 s2 w1 W → SeesV W (.slice a nn c) (strs nl) → Calls Tryz.prog 16 #[.pointer (some ⟨q, 0, none⟩)] W fun e W' => ∃ a' c', e = .returned (.slice a' nn c') ∧ (SeesV W' (.slice a nn c) (strs nl) ∧ SeesV W' (.slice a' nn c') (strs nl)) ∧ UW N p q k s2 s2 w1 W' from
            fun W a c h hs => (L6.out W h).mono fun e W' ⟨v, he, hv, hb⟩ => by
              obtain ⟨a', c', rfl, -⟩ := id hv
              rw [← hnn] at he hv
              exact ⟨a', c', he, ⟨hs.later hb, hv⟩, h.later hb⟩)
          have D7 := Lib.hid (show ∀ W a c a' c', UW N p q k s2 s2 w1 W → SeesV W (.slice a nn c) (strs nl) ∧ SeesV W (.slice a' nn c') (strs nl) → Calls Tryz.prog 14 #[.slice a nn c, .slice a' nn c'] W fun e W' => e = .returned (.bool true) ∧ UW N p q k s2 s2 w1 W' from
            fun W a c a' c' h hs => (texts_same _ _ _ W hs.1 hs.2 NAM.out).mono fun e W' ⟨he, hb⟩ => ⟨he, h.later hb⟩)
          clear L5 L6 NAM
          have hi1 : k + 1 ≤ 100 := by omega
          obtain ⟨us, hus⟩ : ∃ u : Int, u = if s2.down then 0 else (used s2 : Int) := ⟨_, rfl⟩
          have HU0 := Lib.hid (show s2.down = true → us = 0 from fun h => by rw [hus, if_pos h])
          have D8 := Lib.hid (show ∀ W, UW N p q k s2 s2 w1 W → s2.down = false → Calls Tryz.prog 17 #[.pointer (some ⟨q, 0, none⟩)] W fun e W' => e = .returned (.int .i64 us) ∧ UW N p q k s2 s2 w1 W' from
            fun W h hd => (rused_any N q (k + 1) s2 W h.2.1 I2.out hi1).mono fun e W' ⟨he, hb⟩ => ⟨by rw [he, hus, hd]; rfl, h.later hb⟩)
          have D12 := Lib.hid (show ∀ W, UW N p q k s2 s2 w1 W → Calls Tryz.prog 21 #[.pointer (some ⟨p, 0, none⟩)] W fun e W' => e = .returned (.int .i64 us) ∧ UW N p q k s2 s2 w1 W' from
            fun W h => (used_any N p (k + 1) s2 W h.1 I2.out hi1).mono fun e W' ⟨he, hb⟩ => ⟨by rw [he, hus], h.later hb⟩)
          have L9 := Lib.hid (show ∀ W, UW N p q k s2 s2 w1 W → Calls Tryz.prog 18 #[.pointer (some ⟨p, 0, none⟩), .string x.name] W (RPost (if s2.down then [] else if has s2.dir.now x.name then (DiskM.file s2 x.name).now else []) (if s2.down then 9 else if has s2.dir.now x.name then 0 else 5) W) from
            fun W h => read_any N p (k + 1) s2 x.name W h.1 I2.out hi1)
          have L10 := Lib.hid (show ∀ W, UW N p q k s2 s2 w1 W → Calls Tryz.prog 19 #[.pointer (some ⟨q, 0, none⟩), .string x.name] W (RPost (if s2.down then [] else if has s2.dir.now x.name then (DiskM.file s2 x.name).now else []) (if s2.down then 9 else if has s2.dir.now x.name then 0 else 5) W) from
            fun W h => rread_any N q (k + 1) s2 x.name W h.2.1 I2.out hi1)
          unfold RPost at L9 L10
          generalize (if s2.down then [] else if has s2.dir.now x.name then (DiskM.file s2 x.name).now else []) = rl at *
          generalize (if s2.down then (9 : Int) else if has s2.dir.now x.name then 0 else 5) = re at *
          obtain ⟨nr, hnr⟩ : ∃ m, m = (bys rl).length := ⟨_, rfl⟩
          have D9 := Lib.hid (show ∀ W, UW N p q k s2 s2 w1 W → Calls Tryz.prog 18 #[.pointer (some ⟨p, 0, none⟩), .string x.name] W fun e W' => ∃ a c, e = .returned (.tuple #[.slice a nr c, .int .i64 re]) ∧ SeesV W' (.slice a nr c) (bys rl) ∧ UW N p q k s2 s2 w1 W' from
            fun W h => (L9.out W h).mono fun e W' ⟨v, he, hv, hb⟩ => by
              obtain ⟨a, c, rfl, -⟩ := id hv
              rw [← hnr] at he hv
              exact ⟨a, c, he, hv, h.later hb⟩)
          have D10 := Lib.hid (show ∀ W a c, UW N p q k s2 s2 w1 W → SeesV W (.slice a nr c) (bys rl) → Calls Tryz.prog 19 #[.pointer (some ⟨q, 0, none⟩), .string x.name] W fun e W' => ∃ a' c', e = .returned (.tuple #[.slice a' nr c', .int .i64 re]) ∧ (SeesV W' (.slice a nr c) (bys rl) ∧ SeesV W' (.slice a' nr c') (bys rl)) ∧ UW N p q k s2 s2 w1 W' from
            fun W a c h hs => (L10.out W h).mono fun e W' ⟨v, he, hv, hb⟩ => by
              obtain ⟨a', c', rfl, -⟩ := id hv
              rw [← hnr] at he hv
              exact ⟨a', c', he, ⟨hs.later hb, hv⟩, h.later hb⟩)
          have D11 := Lib.hid (show ∀ W a c a' c', UW N p q k s2 s2 w1 W → SeesV W (.slice a nr c) (bys rl) ∧ SeesV W (.slice a' nr c') (bys rl) → Calls Tryz.prog 20 #[.slice a nr c, .slice a' nr c'] W fun e W' => e = .returned (.bool true) ∧ UW N p q k s2 s2 w1 W' from
            fun W a c a' c' h hs => (bytes_same' _ _ _ W hs.1 hs.2).mono fun e W' ⟨he, hb⟩ => ⟨he, h.later hb⟩)
          clear L9 L10 hus
          obtain ⟨x0, x1, x2, x3, x4, x5⟩ := HCL.out _ HB.out
          have HCD := Lib.hid (show ∀ W, UW N p q k s2 s2 w1 W → (W.cell? ⟨g, off + k * 6, none⟩ = some (.int .i64 x.kind) ∧ W.cell? ⟨g, off + k * 6 + 1, none⟩ = some (.string x.name) ∧ W.cell? ⟨g, off + k * 6 + 2, none⟩ = some (.string x.dst) ∧ W.cell? ⟨g, off + k * 6 + 3, none⟩ = some (.int .i64 x.p) ∧ W.cell? ⟨g, off + k * 6 + 4, none⟩ = some (.slice Ad lb cb) ∧ W.cell? ⟨g, off + k * 6 + 5, none⟩ = some (.slice Ab nb cbb)) ∧ W.cell? ⟨q, 8, none⟩ = some (.bool s2.down) ∧ W.cell? ⟨q, 5, none⟩ = some (.int .i64 s2.ops) from
            fun W h => ⟨HCL.out W h.2.2, h.2.1.cells.2⟩)
          have KD : Below wr.heap.size wr wr.drew := below_drew _ (Nat.le_refl _)
          have HRB := Lib.hid (show N ≤ wr.heap.size from HR.out.baseW)
          have HOP0 := I2.out.ops0
          have HOP1 := I2.out.opsI
          clear hsb hst hcb hcbb hlb hnb hnn hnr HSB HST HC HR HI HX hg
          have KE : Below N w1 wr.drew := HB.out.trans (KD.mono HRB.out)
          go_wp2_with fail
          refine wp_region_held_drew (S := fun W => W.cell? ⟨g, off + k * 6, none⟩ = some (.int .i64 x.kind) ∧ W.cell? ⟨g, off + k * 6 + 1, none⟩ = some (.string x.name) ∧ W.cell? ⟨g, off + k * 6 + 2, none⟩ = some (.string x.dst) ∧ W.cell? ⟨g, off + k * 6 + 3, none⟩ = some (.int .i64 x.p) ∧ W.cell? ⟨g, off + k * 6 + 4, none⟩ = some (.slice Ad lb cb) ∧ W.cell? ⟨g, off + k * 6 + 5, none⟩ = some (.slice Ab nb cbb)) (by kernel_rfl) (HCL.out _ KE) (fun hHeld => ?_)
          refine wpAnyH_take (i := 0) (oi := ⟨some 45, _, _, _, _, _⟩) (v := .pointer (some ⟨p, 0, none⟩)) rfl (by kernel_rfl) (by kernel_rfl) (by kernel_rfl) (fun _ _ _ h => h) (Or.inl ⟨by rfl, ?_⟩) (by assumption) ?_
          · intro W hSw
            try dsimp only at hSw
            go_simp
          try simp only [Act.put, List.setIfInBounds_toArray, List.set_cons_zero, List.set_cons_succ]
          refine wpAnyH_take (i := 1) (oi := ⟨some 46, _, _, _, _, _⟩) (v := .slice (some ⟨g, off, none⟩) n cap) rfl (by kernel_rfl) (by kernel_rfl) (by kernel_rfl) (fun _ _ _ h => h) (Or.inl ⟨by rfl, ?_⟩) (by assumption) ?_
          · intro W hSw
            try dsimp only at hSw
            go_simp
          try simp only [Act.put, List.setIfInBounds_toArray, List.set_cons_zero, List.set_cons_succ]
          refine wpAnyH_take (i := 2) (oi := ⟨some 47, _, _, _, _, _⟩) (v := .int .i64 (k : Int)) rfl (by kernel_rfl) (by kernel_rfl) (by kernel_rfl) (fun _ _ _ h => h) (Or.inl ⟨by rfl, ?_⟩) (by assumption) ?_
          · intro W hSw
            try dsimp only at hSw
            go_simp
          try simp only [Act.put, List.setIfInBounds_toArray, List.set_cons_zero, List.set_cons_succ]
          refine wpAnyH_take (i := 3) (oi := ⟨some 48, _, _, _, _, _⟩) (v := .pointer (some ⟨g, off + k * 6, none⟩)) rfl (by kernel_rfl) (by kernel_rfl) (by kernel_rfl) (fun _ _ _ h => h) (Or.inl ⟨by rfl, ?_⟩) (by assumption) ?_
          · intro W hSw
            try dsimp only at hSw
            go_simp
          try simp only [Act.put, List.setIfInBounds_toArray, List.set_cons_zero, List.set_cons_succ]
          refine wpAnyH_take (i := 4) (oi := ⟨some 49, _, _, _, _, _⟩) (v := .agg #[.int .i64 x.kind, .string x.name, .string x.dst, .int .i64 x.p, .slice Ad lb cb, .slice Ab nb cbb]) rfl (by kernel_rfl) (by kernel_rfl) (by kernel_rfl) (fun _ _ _ h => h) (Or.inl ⟨by rfl, ?_⟩) (by assumption) ?_
          · intro W hSw
            try dsimp only at hSw
            go_simp
          try simp only [Act.put, List.setIfInBounds_toArray, List.set_cons_zero, List.set_cons_succ]
          refine wpAnyH_take (i := 6) (oi := ⟨some 51, _, _, _, _, _⟩) (v := .pointer (some ⟨q, 0, none⟩)) rfl (by kernel_rfl) (by kernel_rfl) (by kernel_rfl) (fun _ _ _ h => h) (Or.inl ⟨by rfl, ?_⟩) (by assumption) ?_
          · intro W hSw
            try dsimp only at hSw
            go_simp
          try simp only [Act.put, List.setIfInBounds_toArray, List.set_cons_zero, List.set_cons_succ]
          refine wpAnyH_take (i := 7) (oi := ⟨some 52, _, _, _, _, _⟩) (v := .slice (some ⟨g, off, none⟩) n cap) rfl (by kernel_rfl) (by kernel_rfl) (by kernel_rfl) (fun _ _ _ h => h) (Or.inl ⟨by rfl, ?_⟩) (by assumption) ?_
          · intro W hSw
            try dsimp only at hSw
            go_simp
          try simp only [Act.put, List.setIfInBounds_toArray, List.set_cons_zero, List.set_cons_succ]
          refine wpAnyH_take (i := 8) (oi := ⟨some 53, _, _, _, _, _⟩) (v := .int .i64 (k : Int)) rfl (by kernel_rfl) (by kernel_rfl) (by kernel_rfl) (fun _ _ _ h => h) (Or.inl ⟨by rfl, ?_⟩) (by assumption) ?_
          · intro W hSw
            try dsimp only at hSw
            go_simp
          try simp only [Act.put, List.setIfInBounds_toArray, List.set_cons_zero, List.set_cons_succ]
          refine wpAnyH_take (i := 9) (oi := ⟨some 54, _, _, _, _, _⟩) (v := .pointer (some ⟨g, off + k * 6, none⟩)) rfl (by kernel_rfl) (by kernel_rfl) (by kernel_rfl) (fun _ _ _ h => h) (Or.inl ⟨by rfl, ?_⟩) (by assumption) ?_
          · intro W hSw
            try dsimp only at hSw
            go_simp
          try simp only [Act.put, List.setIfInBounds_toArray, List.set_cons_zero, List.set_cons_succ]
          refine wpAnyH_take (i := 10) (oi := ⟨some 55, _, _, _, _, _⟩) (v := .agg #[.int .i64 x.kind, .string x.name, .string x.dst, .int .i64 x.p, .slice Ad lb cb, .slice Ab nb cbb]) rfl (by kernel_rfl) (by kernel_rfl) (by kernel_rfl) (fun _ _ _ h => h) (Or.inl ⟨by rfl, ?_⟩) (by assumption) ?_
          · intro W hSw
            try dsimp only at hSw
            go_simp
          try simp only [Act.put, List.setIfInBounds_toArray, List.set_cons_zero, List.set_cons_succ]
          refine wpAnyH_ready (rs := [5]) (by kernel_rfl) (by simp) ?_
          refine AllReadyH.cons (o := ⟨some 50, _, _, _, _, _⟩) rfl (fun K hK => ?_) AllReadyH.nil
          go_simp
          refine (D1.out _ KD).mono ?_
          rintro e w4 ⟨rfl, u4⟩
          refine hK.out _ _ (HCL.out _ u4.2.2) (fun hHeld => ?_)
          clear hK K
          try simp only [Act.put, List.setIfInBounds_toArray, List.set_cons_zero, List.set_cons_succ]
          refine wpAnyH_ready (rs := [11]) (by kernel_rfl) (by simp) ?_
          refine AllReadyH.cons (o := ⟨some 56, _, _, _, _, _⟩) rfl (fun K hK => ?_) AllReadyH.nil
          go_simp
          refine (D2.out _ u4).mono ?_
          rintro e w5 ⟨rfl, u5⟩
          refine hK.out _ _ (HCL.out _ u5.2.2) (fun hHeld => ?_)
          clear hK K
          try simp only [Act.put, List.setIfInBounds_toArray, List.set_cons_zero, List.set_cons_succ]
          clear hHeld u4
          refine wpAnyH_weak (S := _) (S' := fun W => (W.cell? ⟨g, off + k * 6, none⟩ = some (.int .i64 x.kind) ∧ W.cell? ⟨g, off + k * 6 + 1, none⟩ = some (.string x.name) ∧ W.cell? ⟨g, off + k * 6 + 2, none⟩ = some (.string x.dst) ∧ W.cell? ⟨g, off + k * 6 + 3, none⟩ = some (.int .i64 x.p) ∧ W.cell? ⟨g, off + k * 6 + 4, none⟩ = some (.slice Ad lb cb) ∧ W.cell? ⟨g, off + k * 6 + 5, none⟩ = some (.slice Ab nb cbb)) ∧ W.cell? ⟨q, 8, none⟩ = some (.bool s2.down) ∧ W.cell? ⟨q, 5, none⟩ = some (.int .i64 s2.ops)) (fun W h => h.1) _ _ _ _ ?_
          have hHeld := HCD.out _ u5
          refine wpAnyH_take (i := 12) (oi := ⟨some 57, _, _, _, _, _⟩) (v := .bool false) rfl (by kernel_rfl) (by kernel_rfl) (by kernel_rfl) (fun _ _ _ h => h) (Or.inl ⟨by rfl, ?_⟩) (by assumption) ?_
          · intro W hSw
            try dsimp only at hSw
            go_simp
          try simp only [Act.put, List.setIfInBounds_toArray, List.set_cons_zero, List.set_cons_succ]
          refine wpAnyH_take (i := 13) (oi := ⟨some 58, _, _, _, _, _⟩) (v := .bool false) rfl (by kernel_rfl) (by kernel_rfl) (by kernel_rfl) (fun _ _ _ h => h) (Or.inl ⟨by rfl, ?_⟩) (by assumption) ?_
          · intro W hSw
            try dsimp only at hSw
            go_simp
          try simp only [Act.put, List.setIfInBounds_toArray, List.set_cons_zero, List.set_cons_succ]
          refine wpAnyH_take (i := 14) (oi := ⟨some 59, _, _, _, _, _⟩) (v := .pointer (some ⟨p, 0, none⟩)) rfl (by kernel_rfl) (by kernel_rfl) (by kernel_rfl) (fun _ _ _ h => h) (Or.inl ⟨by rfl, ?_⟩) (by assumption) ?_
          · intro W hSw
            try dsimp only at hSw
            go_simp
          try simp only [Act.put, List.setIfInBounds_toArray, List.set_cons_zero, List.set_cons_succ]
          refine wpAnyH_take (i := 16) (oi := ⟨some 61, _, _, _, _, _⟩) (v := .pointer (some ⟨q, 0, none⟩)) rfl (by kernel_rfl) (by kernel_rfl) (by kernel_rfl) (fun _ _ _ h => h) (Or.inl ⟨by rfl, ?_⟩) (by assumption) ?_
          · intro W hSw
            try dsimp only at hSw
            go_simp
          try simp only [Act.put, List.setIfInBounds_toArray, List.set_cons_zero, List.set_cons_succ]
          refine wpAnyH_take (i := 17) (oi := ⟨some 62, _, _, _, _, _⟩) (v := .pointer (some ⟨q, 0, none⟩)) rfl (by kernel_rfl) (by kernel_rfl) (by kernel_rfl) (fun _ _ _ h => h) (Or.inl ⟨by rfl, ?_⟩) (by assumption) ?_
          · intro W hSw
            try dsimp only at hSw
            go_simp
          try simp only [Act.put, List.setIfInBounds_toArray, List.set_cons_zero, List.set_cons_succ]
          refine wpAnyH_take (i := 18) (oi := ⟨some 63, _, _, _, _, _⟩) (v := .pointer (some ⟨q, 8, none⟩)) rfl (by kernel_rfl) (by kernel_rfl) (by kernel_rfl) (fun _ _ _ h => h) (Or.inl ⟨by rfl, ?_⟩) (by assumption) ?_
          · intro W hSw
            try dsimp only at hSw
            go_simp
          try simp only [Act.put, List.setIfInBounds_toArray, List.set_cons_zero, List.set_cons_succ]
          refine wpAnyH_take (i := 19) (oi := ⟨some 64, _, _, _, _, _⟩) (v := .bool s2.down) rfl (by kernel_rfl) (by kernel_rfl) (by kernel_rfl) (fun _ _ _ h => h) (Or.inl ⟨by rfl, ?_⟩) (by assumption) ?_
          · intro W hSw
            try dsimp only at hSw
            go_simp
          try simp only [Act.put, List.setIfInBounds_toArray, List.set_cons_zero, List.set_cons_succ]
          refine wpAnyH_ready (rs := [15]) (by kernel_rfl) (by simp) ?_
          refine AllReadyH.cons (o := ⟨some 60, _, _, _, _, _⟩) rfl (fun K hK => ?_) AllReadyH.nil
          go_simp
          refine (D3.out _ u5).mono ?_
          rintro e w6 ⟨rfl, u6⟩
          refine hK.out _ _ (HCD.out _ u6) (fun hHeld => ?_)
          clear hK K
          try simp only [Act.put, List.setIfInBounds_toArray, List.set_cons_zero, List.set_cons_succ]
          refine wpAnyH_take (i := 20) (oi := ⟨some 65, _, _, _, _, _⟩) (v := .bool false) rfl (by kernel_rfl) (by kernel_rfl) (by kernel_rfl) (fun _ _ _ h => h) (Or.inl ⟨by rfl, ?_⟩) (by assumption) ?_
          · intro W hSw
            try dsimp only at hSw
            go_simp
          try simp only [Act.put, List.setIfInBounds_toArray, List.set_cons_zero, List.set_cons_succ]
          refine wpAnyH_take (i := 21) (oi := ⟨some 66, _, _, _, _, _⟩) (v := .bool false) rfl (by kernel_rfl) (by kernel_rfl) (by kernel_rfl) (fun _ _ _ h => h) (Or.inl ⟨by rfl, ?_⟩) (by assumption) ?_
          · intro W hSw
            try dsimp only at hSw
            go_simp
          try simp only [Act.put, List.setIfInBounds_toArray, List.set_cons_zero, List.set_cons_succ]
          refine wpAnyH_take (i := 22) (oi := ⟨some 67, _, _, _, _, _⟩) (v := .bool false) rfl (by kernel_rfl) (by kernel_rfl) (by kernel_rfl) (fun _ _ _ h => h) (Or.inl ⟨by rfl, ?_⟩) (by assumption) ?_
          · intro W hSw
            try dsimp only at hSw
            go_simp
          try simp only [Act.put, List.setIfInBounds_toArray, List.set_cons_zero, List.set_cons_succ]
          refine wpAnyH_take (i := 23) (oi := ⟨some 68, _, _, _, _, _⟩) (v := .pointer (some ⟨p, 0, none⟩)) rfl (by kernel_rfl) (by kernel_rfl) (by kernel_rfl) (fun _ _ _ h => h) (Or.inl ⟨by rfl, ?_⟩) (by assumption) ?_
          · intro W hSw
            try dsimp only at hSw
            go_simp
          try simp only [Act.put, List.setIfInBounds_toArray, List.set_cons_zero, List.set_cons_succ]
          refine wpAnyH_take (i := 25) (oi := ⟨some 70, _, _, _, _, _⟩) (v := .pointer (some ⟨q, 0, none⟩)) rfl (by kernel_rfl) (by kernel_rfl) (by kernel_rfl) (fun _ _ _ h => h) (Or.inl ⟨by rfl, ?_⟩) (by assumption) ?_
          · intro W hSw
            try dsimp only at hSw
            go_simp
          try simp only [Act.put, List.setIfInBounds_toArray, List.set_cons_zero, List.set_cons_succ]
          refine wpAnyH_take (i := 26) (oi := ⟨some 71, _, _, _, _, _⟩) (v := .pointer (some ⟨q, 0, none⟩)) rfl (by kernel_rfl) (by kernel_rfl) (by kernel_rfl) (fun _ _ _ h => h) (Or.inl ⟨by rfl, ?_⟩) (by assumption) ?_
          · intro W hSw
            try dsimp only at hSw
            go_simp
          try simp only [Act.put, List.setIfInBounds_toArray, List.set_cons_zero, List.set_cons_succ]
          refine wpAnyH_take (i := 27) (oi := ⟨some 72, _, _, _, _, _⟩) (v := .pointer (some ⟨q, 5, none⟩)) rfl (by kernel_rfl) (by kernel_rfl) (by kernel_rfl) (fun _ _ _ h => h) (Or.inl ⟨by rfl, ?_⟩) (by assumption) ?_
          · intro W hSw
            try dsimp only at hSw
            go_simp
          try simp only [Act.put, List.setIfInBounds_toArray, List.set_cons_zero, List.set_cons_succ]
          refine wpAnyH_take (i := 28) (oi := ⟨some 73, _, _, _, _, _⟩) (v := .int .i64 s2.ops) rfl (by kernel_rfl) (by kernel_rfl) (by kernel_rfl) (fun _ _ _ h => h) (Or.inl ⟨by rfl, ?_⟩) (by assumption) ?_
          · intro W hSw
            try dsimp only at hSw
            go_simp
          try simp only [Act.put, List.setIfInBounds_toArray, List.set_cons_zero, List.set_cons_succ]
          refine wpAnyH_ready (rs := [24]) (by kernel_rfl) (by simp) ?_
          refine AllReadyH.cons (o := ⟨some 69, _, _, _, _, _⟩) rfl (fun K hK => ?_) AllReadyH.nil
          go_simp
          refine (D4.out _ u6).mono ?_
          rintro e w7 ⟨rfl, u7⟩
          refine hK.out _ _ (HCD.out _ u7) (fun hHeld => ?_)
          clear hK K
          try simp only [Act.put, List.setIfInBounds_toArray, List.set_cons_zero, List.set_cons_succ]
          refine wpAnyH_take (i := 29) (oi := ⟨some 74, _, _, _, _, _⟩) (v := .bool false) rfl (by kernel_rfl) (by kernel_rfl) (by kernel_rfl) (fun _ _ _ h => h) (Or.inl ⟨by rfl, ?_⟩) (by assumption) ?_
          · intro W hSw
            try dsimp only at hSw
            go_simp
          try simp only [Act.put, List.setIfInBounds_toArray, List.set_cons_zero, List.set_cons_succ]
          refine wpAnyH_take (i := 30) (oi := ⟨some 75, _, _, _, _, _⟩) (v := .bool false) rfl (by kernel_rfl) (by kernel_rfl) (by kernel_rfl) (fun _ _ _ h => h) (Or.inl ⟨by rfl, ?_⟩) (by assumption) ?_
          · intro W hSw
            try dsimp only at hSw
            go_simp
          try simp only [Act.put, List.setIfInBounds_toArray, List.set_cons_zero, List.set_cons_succ]
          refine wpAnyH_take (i := 31) (oi := ⟨some 76, _, _, _, _, _⟩) (v := .bool false) rfl (by kernel_rfl) (by kernel_rfl) (by kernel_rfl) (fun _ _ _ h => h) (Or.inl ⟨by rfl, ?_⟩) (by assumption) ?_
          · intro W hSw
            try dsimp only at hSw
            go_simp
          try simp only [Act.put, List.setIfInBounds_toArray, List.set_cons_zero, List.set_cons_succ]
          refine wpAnyH_take (i := 32) (oi := ⟨some 77, _, _, _, _, _⟩) (v := .pointer (some ⟨p, 0, none⟩)) rfl (by kernel_rfl) (by kernel_rfl) (by kernel_rfl) (fun _ _ _ h => h) (Or.inl ⟨by rfl, ?_⟩) (by assumption) ?_
          · intro W hSw
            try dsimp only at hSw
            go_simp
          try simp only [Act.put, List.setIfInBounds_toArray, List.set_cons_zero, List.set_cons_succ]
          refine wpAnyH_take (i := 34) (oi := ⟨some 79, _, _, _, _, _⟩) (v := .pointer (some ⟨q, 0, none⟩)) rfl (by kernel_rfl) (by kernel_rfl) (by kernel_rfl) (fun _ _ _ h => h) (Or.inl ⟨by rfl, ?_⟩) (by assumption) ?_
          · intro W hSw
            try dsimp only at hSw
            go_simp
          try simp only [Act.put, List.setIfInBounds_toArray, List.set_cons_zero, List.set_cons_succ]
          refine wpAnyH_ready (rs := [33]) (by kernel_rfl) (by simp) ?_
          refine AllReadyH.cons (o := ⟨some 78, _, _, _, _, _⟩) rfl (fun K hK => ?_) AllReadyH.nil
          go_simp
          refine (D5.out _ u7).mono ?_
          rintro e w8 ⟨a8, k8, rfl, v8, u8⟩
          refine hK.out _ _ (HCD.out _ u8) (fun hHeld => ?_)
          clear hK K
          try simp only [Act.put, List.setIfInBounds_toArray, List.set_cons_zero, List.set_cons_succ]
          refine wpAnyH_ready (rs := [35]) (by kernel_rfl) (by simp) ?_
          refine AllReadyH.cons (o := ⟨some 80, _, _, _, _, _⟩) rfl (fun K hK => ?_) AllReadyH.nil
          go_simp
          refine (D6.out _ _ _ u8 v8).mono ?_
          rintro e w9 ⟨a9, k9, rfl, v9, u9⟩
          refine hK.out _ _ (HCD.out _ u9) (fun hHeld => ?_)
          clear hK K
          try simp only [Act.put, List.setIfInBounds_toArray, List.set_cons_zero, List.set_cons_succ]
          refine wpAnyH_ready (rs := [36]) (by kernel_rfl) (by simp) ?_
          refine AllReadyH.cons (o := ⟨some 81, _, _, _, _, _⟩) rfl (fun K hK => ?_) AllReadyH.nil
          go_simp
          refine (D7.out _ _ _ _ _ u9 v9).mono ?_
          rintro e w10 ⟨rfl, u10⟩
          refine hK.out _ _ (HCD.out _ u10) (fun hHeld => ?_)
          clear hK K
          try simp only [Act.put, List.setIfInBounds_toArray, List.set_cons_zero, List.set_cons_succ]
          refine wpAnyH_take (i := 37) (oi := ⟨some 82, _, _, _, _, _⟩) (v := .bool false) rfl (by kernel_rfl) (by kernel_rfl) (by kernel_rfl) (fun _ _ _ h => h) (Or.inl ⟨by rfl, ?_⟩) (by assumption) ?_
          · intro W hSw
            try dsimp only at hSw
            go_simp
          try simp only [Act.put, List.setIfInBounds_toArray, List.set_cons_zero, List.set_cons_succ]
          refine wpAnyH_take (i := 38) (oi := ⟨some 83, _, _, _, _, _⟩) (v := .bool false) rfl (by kernel_rfl) (by kernel_rfl) (by kernel_rfl) (fun _ _ _ h => h) (Or.inl ⟨by rfl, ?_⟩) (by assumption) ?_
          · intro W hSw
            try dsimp only at hSw
            go_simp
          try simp only [Act.put, List.setIfInBounds_toArray, List.set_cons_zero, List.set_cons_succ]
          refine wpAnyH_done (by kernel_rfl) ?_ _
          clear hHeld D1 D2 D3 D4 D5 D6 D7 x0 x1 x2 x3 x4 x5 KD KE u5 u6 u7 u8 v8 u9 v9
          cases hd : s2.down
          case' false =>
            obtain ⟨⟨-, x1, -⟩, c8, -⟩ := HCD.out _ u10
            rw [hd] at c8
            have UU := Lib.hid u10
            have HD := Lib.hid hd
            clear u10 hd
            go_wp2_with fail
            refine (D8.out _ UU.out HD.out).mono ?_
            rintro e w11 ⟨rfl, u11⟩
            obtain ⟨⟨-, x1, -⟩, -⟩ := HCD.out _ u11
            have U11 := Lib.hid u11
            clear UU u11 c8
          case' true =>
            obtain ⟨⟨-, x1, -⟩, c8, -⟩ := HCD.out _ u10
            rw [hd] at c8
            have U11 := Lib.hid u10
            have hz := HU0.out hd
            subst hz
            clear u10 hd
          all_goals
            go_wp2_with fail
            refine (D9.out _ U11.out).mono ?_
            rintro e w12 ⟨a12, k12, rfl, v12, u12⟩
            have V12 := Lib.hid v12
            have U12 := Lib.hid u12
            clear v12 u12 U11 x1
            obtain ⟨⟨-, x1, -⟩, -⟩ := HCD.out _ U12.out
            go_wp2_with fail
            refine (D10.out _ _ _ U12.out V12.out).mono ?_
            rintro e w13 ⟨a13, k13, rfl, v13, u13⟩
            have V13 := Lib.hid v13
            have U13 := Lib.hid u13
            clear v13 u13 U12 V12 x1
            go_wp2_with fail
            refine (D11.out _ _ _ _ _ U13.out V13.out).mono ?_
            rintro e w14 ⟨rfl, u14⟩
            have U14 := Lib.hid u14
            clear u14 U13 V13
            go_wp2_with fail
            refine (D12.out _ U14.out).mono ?_
            rintro e w15 ⟨rfl, u15⟩
            have U15 := Lib.hid u15
            clear u15 U14
            go_wp2_with fail
            go_roundw
            case rel => exact ⟨k + 1, s2, by omega, by go_num, I2.out, U15.out.1, U15.out.2.1, U15.out.2.2⟩
            case measure => simp [intOf]; omega
        · have hlt' : ¬ (k : Int) < (n : Int) := by omega
          go_wp2_with fail
          refine (AW.out _).mono ?_
          rintro e w4 ⟨rfl, hb⟩
          have B5 := Lib.hid (B1.out.trans ((show Below w1.heap.size w1 _ by rw [← HNN.out]; exact HB.out).mono B1.out.size))
          have B6 := Lib.hid (B5.out.trans (hb.mono B5.out.size))
          clear hb AW HI HC HR HB B5
          go_wp2_with fail
          go_ret
          exact ⟨rfl, B6.out⟩
end Go.Proofs.YtaklilhnikmmfaaGreat
