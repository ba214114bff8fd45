/-
  A disk in memory; the function literals that Create, alter, rename and SyncDir hand to perform.
-/
import Derived.Test.YtaklilhnikmmfaaGreatDiskPerf
import Derived.RegionTactic
import Derived.BigRegion
import Derived.StillTailTactics
namespace Go.Proofs.YtaklilhnikmmfaaGreat
open Go.RowKit StrM BlockM FileM DirM DiskM

/-- A file whose list of pieces is a slice within its capacity. -/
def Fit (v : Value) : Prop := ∀ A B a n c, v = .agg #[A, B, .slice a n c] → n ≤ c
def SeesG (w : World) (v : Value) (f : Fl) : Prop := SeesF w v f ∧ Fit v
theorem SeesG.veer {mp : Bool} {N p : Nat} {w w' : World} {v : Value} {f : Fl} (h : SeesG w v f) (hv : FileM.valid f = true) (ht : Veer mp N p w w') (hs : Shell w p) : SeesG w' v f := ⟨h.1.veer hv ht hs, h.2⟩
theorem SeesG.later {w w' : World} {v : Value} {f : Fl} (h : SeesG w v f) (hb : Below w.heap.size w w') : SeesG w' v f := ⟨h.1.later hb, h.2⟩
theorem SeesG.of_nil {w : World} {v : Value} {f : Fl} (h : SeesF w v f) (hp : f.pend = []) : SeesG w v f := by
  refine ⟨h, fun A B a n c e => ?_⟩
  obtain ⟨A0, c0, A1, c1, A2, c2, e', -⟩ := h.slices
  rw [e', hp] at e
  injection e with e
  injection e with e
  injection e with _ e
  injection e with _ e
  injection e with e _
  injection e with _ e _
  rw [← e]; exact Nat.zero_le _
theorem SeesG.zero (w : World) : SeesG w zF zf := SeesG.of_nil (SeesF.zero w) rfl

/-- A disk in memory: its block, its map of at most k stores, its values. -/
structure Held (w : World) (N p i : Nat) (s : S) (r : Raw) (k : Nat) (g : Int → Option Value) : Prop where
  box : KBox w p r
  room : r.room = s.room
  last : r.last = (s.files.length : Int)
  ops : r.ops = s.ops
  trip : r.trip = s.trip
  stop : r.stop = s.stop
  down : r.down = s.down
  dir : SeesD w (.agg #[r.N, r.S, r.V]) s.dir
  map : MapAt w r.m k g
  few : k ≤ 300 + i
  some : ∀ n, alive s.dir n → (g n).isSome = true
  file : ∀ n v, g n = Option.some v → 1 ≤ n ∧ n ≤ (s.files.length : Int) ∧ SeesG w v (fl s.files n)
  baseP : N ≤ p
  baseM : N ≤ r.m
def CD (N p i : Nat) (s : S) (w : World) : Prop := ∃ r k g, Held w N p i s r k g

theorem Held.ne {w : World} {N p i : Nat} {s : S} {r : Raw} {k : Nat} {g : Int → Option Value} (h : Held w N p i s r k g) : r.m ≠ p := by
  obtain ⟨es, c, hm⟩ := h.map.map
  have hb := h.box
  unfold KBox at hb
  intro e
  rw [e, hb] at hm
  cases hm
theorem Held.shell {w : World} {N p i : Nat} {s : S} {r : Raw} {k : Nat} {g : Int → Option Value} (h : Held w N p i s r k g) : Shell w p := h.box.shell h.dir
/-- What else is read stays. -/
theorem Held.veer {w w' : World} {N p q i : Nat} {s : S} {r : Raw} {k : Nat} {g : Int → Option Value} (h : Held w N p i s r k g) (hi : ∀ f ∈ s.files, FileM.valid f = true) (ht : Veer false N q w w') (hs : Shell w q) (hp : p ≠ q) (hm : r.m ≠ q) : Held w' N p i s r k g :=
  { h with
    box := h.box.block ((ht.keep p _ h.box hp (by simp)).trans (Eq.symm h.box))
    dir := h.dir.veer ht hs
    map := h.map.veer ht hm
    file := fun n v hv => by
      obtain ⟨h1, h2, h3⟩ := h.file n v hv
      exact ⟨h1, h2, h3.veer (fl_valid hi n) ht hs⟩ }
theorem Held.later {w w' : World} {N p i : Nat} {s : S} {r : Raw} {k : Nat} {g : Int → Option Value} (h : Held w N p i s r k g) (hb : Below w.heap.size w w') : Held w' N p i s r k g :=
  { h with
    box := h.box.later hb
    dir := h.dir.later hb
    map := h.map.later hb
    file := fun n v hv => by
      obtain ⟨h1, h2, h3⟩ := h.file n v hv
      exact ⟨h1, h2, h3.later hb⟩ }

theorem grown_cell {w1 w2 : World} {m b o : Nat} {v : Value} (hg : w1.grownBy w2 (some m)) (hm : ∃ es c, w1.heap[m]? = some (.map es c)) (hv : w1.cell? ⟨b, o, none⟩ = some v) : w2.cell? ⟨b, o, none⟩ = some v := by
  have hlt : b < w1.heap.size := by
    simp only [World.cell?] at hv
    by_cases g : b < w1.heap.size
    · exact g
    · simp [g] at hv
  have hbm : b ≠ m := by
    rintro rfl
    obtain ⟨es, c, hm⟩ := hm
    simp [World.cell?, hm] at hv
  exact (World.cell?_of_block (a := ⟨b, o, none⟩) (hg.block b hlt (by simpa using hbm))).trans hv

set_option maxHeartbeats 2000000 in
set_option maxRecDepth 100000 in
theorem create1_any (x y z p k : Nat) (A B C : Value) (n : Int) (r : Raw) (g : Int → Option Value) (W : World) (N : Nat) (hK : KBox W p r) (hM : MapAt W r.m k g) (hne : r.m ≠ p) (hN : N ≤ p) (hNm : N ≤ r.m)
    (x0 : W.cell? ⟨x, 0, none⟩ = some A) (x1 : W.cell? ⟨x, 1, none⟩ = some B) (x2 : W.cell? ⟨x, 2, none⟩ = some C) (y0 : W.cell? ⟨y, 0, none⟩ = some (.pointer (some ⟨p, 0, none⟩))) (z0 : W.cell? ⟨z, 0, none⟩ = some (.int .i64 n))
    (hy : y ≠ p) (hz : z ≠ p) (hA : ∃ a b c, A = .slice a b c) (hB : ∃ a b c, B = .slice a b c) (hC : ∃ a b c, C = .slice a b c)
    (n0 : 0 ≤ n) (n1 : n ≤ 1000000) (hk : k ≤ 100000) :
    Calls Tryz.prog 50 #[.pointer (some ⟨x, 0, none⟩), .pointer (some ⟨y, 0, none⟩), .pointer (some ⟨z, 0, none⟩)] W fun e w' =>
      e = .returned (.tuple #[]) ∧ KBox w' p { r with N := A, S := B, V := C, last := n } ∧ MapAt w' r.m (k + 1) (upd g n zF) ∧ Veer true N p W w' := by
  obtain ⟨a0, b0, c0, rfl⟩ := hA
  obtain ⟨a1, b1, d1, rfl⟩ := hB
  obtain ⟨a2, b2, d2, rfl⟩ := hC
  obtain ⟨-, e1, e2, e3, -⟩ := hK.cells
  have f1 := hK.soft 1
  have f2 := hK.soft 2
  have f3 := hK.soft 3
  have K1 := Lib.hid (hK.setN (.slice a0 b0 c0) (.slice a1 b1 d1) (.slice a2 b2 d2))
  have V1 := Lib.hid ((((Veer.refl true N p W).set hN 1 (.slice a0 b0 c0)).set hN 2 (.slice a1 b1 d1)).set hN 3 (.slice a2 b2 d2))
  have M1 := Lib.hid (((hM.set (i := 1) (v := .slice a0 b0 c0) hne).set (i := 2) (v := .slice a1 b1 d1) hne).set (i := 3) (v := .slice a2 b2 d2) hne)
  have Y1 := Lib.hid (V1.out.cell y0 hy)
  have Z1 := Lib.hid (V1.out.cell z0 hz)
  obtain ⟨room, N0, S0, V0, m, last, ops, trip, stop, dn⟩ := r
  dsimp only at *
  have HM := Lib.hid hNm
  have HP := Lib.hid hN
  have HE := Lib.hid hne
  have HW := Lib.hid (show N ≤ (((W.setCell ⟨p, 1, none⟩ (.slice a0 b0 c0)).setCell ⟨p, 2, none⟩ (.slice a1 b1 d1)).setCell ⟨p, 3, none⟩ (.slice a2 b2 d2)).heap.size from Nat.le_trans hN (Nat.le_of_lt K1.out.lt))
  clear hK hM hN hNm hy hz hne
  go_enter Tryz.func50, Tryz.ntmps50
  go_wp2_with fail
  generalize (((W.setCell ⟨p, 1, none⟩ (.slice a0 b0 c0)).setCell ⟨p, 2, none⟩ (.slice a1 b1 d1)).setCell ⟨p, 3, none⟩ (.slice a2 b2 d2)) = w1 at *
  have y1 := Y1.out
  have z1 := Z1.out
  obtain ⟨-, -, -, -, c4, -⟩ := K1.out.cells
  dsimp only at c4
  go_still_tail 6, (by kernel_rfl)
  change wpList _ _ _ _ _ w1.drew
  obtain ⟨w2, hrun, hM2, hG2⟩ := (show MapAt w1.drew m k g from M1.out).store n zF (by omega) (by omega) (by omega)
  have V2 := Lib.hid (V1.out.drew.grown hG2 HM.out HW.out (show ∃ es c, w1.drew.heap[m]? = _ from M1.out.map))
  have G2 := Lib.hid hG2
  have M2 := Lib.hid hM2
  have K2 := Lib.hid ((show KBox w1.drew p _ from K1.out).block (hG2.block p K1.out.lt (by have := HE.out; simp; exact fun e => this e.symm)))
  have y2 := grown_cell hG2 M1.out.map y1
  have z2 := grown_cell hG2 M1.out.map z1
  obtain ⟨-, -, -, -, -, c5, -⟩ := K2.out.cells
  dsimp only at c5
  have f5 := K2.out.soft 5
  have KF := Lib.hid (K2.out.setLast n)
  have VF := Lib.hid (V2.out.set HP.out 5 (.int .i64 n))
  have MF := Lib.hid (M2.out.set (i := 5) (v := .int .i64 n) HE.out)
  unfold zF at hrun
  clear hG2 hM2 y1 z1 c4
  go_wp2_with fail
  exact bodyPost_end (results_none rfl _ _ _) rfl ⟨rfl, KF.out, MF.out, VF.out⟩

set_option maxHeartbeats 2000000 in
set_option maxRecDepth 100000 in
theorem alter1_any (x y z p k : Nat) (A B C : Value) (n : Int) (r : Raw) (g : Int → Option Value) (W : World) (N : Nat) (hK : KBox W p r) (hM : MapAt W r.m k g) (hne : r.m ≠ p) (hN : N ≤ p) (hNm : N ≤ r.m)
    (x0 : W.cell? ⟨x, 0, none⟩ = some A) (x1 : W.cell? ⟨x, 1, none⟩ = some B) (x2 : W.cell? ⟨x, 2, none⟩ = some C) (y0 : W.cell? ⟨y, 0, none⟩ = some (.pointer (some ⟨p, 0, none⟩))) (z0 : W.cell? ⟨z, 0, none⟩ = some (.int .i64 n))
    (n0 : 0 ≤ n) (n1 : n ≤ 1000000) (hk : k ≤ 100000) :
    Calls Tryz.prog 81 #[.pointer (some ⟨x, 0, none⟩), .pointer (some ⟨y, 0, none⟩), .pointer (some ⟨z, 0, none⟩)] W fun e w' =>
      e = .returned (.tuple #[]) ∧ KBox w' p r ∧ MapAt w' r.m (k + 1) (upd g n (.agg #[A, B, C])) ∧ Veer true N p W w' := by
  obtain ⟨-, -, -, -, c4, -⟩ := hK.cells
  obtain ⟨w2, hrun, hM2, hG2⟩ := (show MapAt W.drew r.m k g from hM).store n (.agg #[A, B, C]) (by omega) (by omega) (by omega)
  have V2 := Lib.hid ((Veer.refl true N p W).drew.grown hG2 hNm (Nat.le_trans hN (Nat.le_of_lt hK.lt)) (show ∃ es c, W.drew.heap[r.m]? = _ from hM.map))
  have M2 := Lib.hid hM2
  have K2 := Lib.hid ((show KBox W.drew p _ from hK).block (hG2.block p hK.lt (by simp; exact fun e => hne e.symm)))
  generalize r.m = m at *
  clear hM2 hG2 hK hM hNm hne hN
  go_enter Tryz.func81, Tryz.ntmps81
  go_wp2_with fail
  go_still_tail 6, (by kernel_rfl)
  change wpList _ _ _ _ _ W.drew
  go_wp2_with fail
  exact bodyPost_end (results_none rfl _ _ _) rfl ⟨rfl, K2.out, M2.out, V2.out⟩

set_option maxHeartbeats 2000000 in
set_option maxRecDepth 100000 in
theorem rename1_any (x y p : Nat) (A B C : Value) (r : Raw) (W : World) (N : Nat) (hK : KBox W p r) (hN : N ≤ p)
    (x0 : W.cell? ⟨x, 0, none⟩ = some A) (x1 : W.cell? ⟨x, 1, none⟩ = some B) (x2 : W.cell? ⟨x, 2, none⟩ = some C) (y0 : W.cell? ⟨y, 0, none⟩ = some (.pointer (some ⟨p, 0, none⟩)))
    (hA : ∃ a b c, A = .slice a b c) (hB : ∃ a b c, B = .slice a b c) (hC : ∃ a b c, C = .slice a b c) :
    Calls Tryz.prog 84 #[.pointer (some ⟨x, 0, none⟩), .pointer (some ⟨y, 0, none⟩)] W fun e w' =>
      e = .returned (.tuple #[]) ∧ w' = (((W.setCell ⟨p, 1, none⟩ A).setCell ⟨p, 2, none⟩ B).setCell ⟨p, 3, none⟩ C) ∧ KBox w' p { r with N := A, S := B, V := C } ∧ Veer false N p W w' := by
  obtain ⟨a0, b0, c0, rfl⟩ := hA
  obtain ⟨a1, b1, d1, rfl⟩ := hB
  obtain ⟨a2, b2, d2, rfl⟩ := hC
  obtain ⟨-, e1, e2, e3, -⟩ := hK.cells
  have f1 := hK.soft 1
  have f2 := hK.soft 2
  have f3 := hK.soft 3
  have K1 := Lib.hid (hK.setN (.slice a0 b0 c0) (.slice a1 b1 d1) (.slice a2 b2 d2))
  have V1 := Lib.hid ((((Veer.refl false N p W).set hN 1 (.slice a0 b0 c0)).set hN 2 (.slice a1 b1 d1)).set hN 3 (.slice a2 b2 d2))
  clear hK hN
  go_enter Tryz.func84, Tryz.ntmps84
  go_wp2_with fail
  exact bodyPost_end (results_none rfl _ _ _) rfl ⟨rfl, rfl, K1.out, V1.out⟩

set_option maxHeartbeats 2000000 in
set_option maxRecDepth 100000 in
theorem sync1_any (v : Value) (f : Fl) (w : World) (hs : SeesF w v f) (hz : Sz f) : Calls Tryz.prog 55 #[v] w (NPost (syn f) 0 w) := by
  obtain ⟨A0, c0, A1, c1, A2, c2, rfl, -⟩ := hs.slices
  have FS := Lib.hid (fun W (hb : Below w.heap.size w W) => fsync_any _ f W (hs.later hb) hz)
  generalize f.now.length = n0 at *
  generalize f.sure.length = n1 at *
  generalize f.pend.length = n2 at *
  have B0 := Lib.hid (((Below.refl w.heap.size w).alloc (Nat.le_refl _) (.cells #[.slice A0 n0 c0, .slice A1 n1 c1, .slice A2 n2 c2] 70)).alloc (by simp) (.cells #[.slice none 0 0, .slice none 0 0, .slice none 0 0] 70))
  have Y0 := Lib.hid (FBox.made (w.alloc (.cells #[.slice A0 n0 c0, .slice A1 n1 c1, .slice A2 n2 c2] 70)) (.slice none 0 0) (.slice none 0 0) (.slice none 0 0))
  clear hs hz
  unfold FPost at FS
  go_enter Tryz.func55, Tryz.ntmps55
  go_wp2_with fail
  refine (FS.out _ B0.out).mono ?_
  rintro e w1 ⟨v1, rfl, s1, hb1⟩
  obtain ⟨D0, d0, D1, d1, D2, d2, rfl, -⟩ := s1.slices
  have B1 := Lib.hid (B0.out.trans (hb1.mono B0.out.size))
  have Y1 := Lib.hid (Y0.out.later hb1)
  have e1 : (w.alloc (.cells #[.slice A0 n0 c0, .slice A1 n1 c1, .slice A2 n2 c2] 70)).heap.size = w.heap.size + 1 := by simp
  rw [e1] at Y1
  have S1 := Lib.hid s1
  generalize (syn f).now.length = m0 at *
  generalize (syn f).sure.length = m1 at *
  generalize (syn f).pend.length = m2 at *
  obtain ⟨y0, y1, y2⟩ := Y1.out.cells
  obtain ⟨z0, z1, z2⟩ := Y1.out.soft
  have YF := Lib.hid (Y1.out.set (.slice D0 m0 d0) (.slice D1 m1 d1) (.slice D2 m2 d2))
  have BF := Lib.hid (fset_below B1.out (show w.heap.size ≤ w.heap.size + 1 by omega) (.slice D0 m0 d0) (.slice D1 m1 d1) (.slice D2 m2 d2))
  have SF := Lib.hid (S1.out.fset Y1.out (.slice D0 m0 d0) (.slice D1 m1 d1) (.slice D2 m2 d2))
  clear s1 hb1 FS B0 Y0 e1
  go_wp2_with fail
  change bodyPost _ _ _ _ _ (fset w1 (w.heap.size + 1) (.slice D0 m0 d0) (.slice D1 m1 d1) (.slice D2 m2 d2))
  generalize fset w1 (w.heap.size + 1) (.slice D0 m0 d0) (.slice D1 m1 d1) (.slice D2 m2 d2) = w9 at *
  clear y0 y1 y2
  obtain ⟨y0, y1, y2⟩ := YF.out.cells
  exact bodyPost_ret (by simp [results, Tryz.results55, go_sem, y0, y1, y2]) rfl ⟨_, rfl, SF.out, BF.out⟩
end Go.Proofs.YtaklilhnikmmfaaGreat
