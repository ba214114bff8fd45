/-
  The walk of settle.
-/
import Derived.Test.YtaklilhnikmmfaaGreatDiskWrite
namespace Go.Proofs.YtaklilhnikmmfaaGreat
open Go.RowKit StrM BlockM FileM DirM DiskM

/-- The values of the nodes in a list. -/
def sub (g : Int → Option Value) (l : List E) : Int → Option Value := fun n => if l.any (fun e => decide (e.node = n)) then g n else none
theorem sub_nil (g : Int → Option Value) : sub g [] = fun _ => none := by funext n; simp [sub]
theorem sub_next {g : Int → Option Value} {l : List E} {j : Nat} (hj : j < l.length) {v : Value} (hv : g l[j].node = some v) : upd (sub g (l.take j)) l[j].node v = sub g (l.take (j + 1)) := by
  funext n
  unfold upd sub
  rw [List.take_succ_eq_append_getElem hj, List.any_append]
  by_cases h : n = l[j].node
  · subst h
    simp [hv]
  · have h' : ¬ l[j].node = n := fun e => h e.symm
    simp [h, h']

set_option maxHeartbeats 4000000 in
set_option maxRecDepth 100000 in
theorem settle_any (N p k : Nat) (r : Raw) (g : Int → Option Value) (l : List E) (a0 a1 a2 : Option Addr) (n0 c0 n1 c1 n2 c2 : Nat) (w : World) (hK : KBox w p r) (hM : MapAt w r.m k g) (hN : N ≤ p) (hne : r.m ≠ p)
    (hl : SeesE w (.slice a0 n0 c0) l) (hn : n0 ≤ 100) (hg : ∀ e ∈ l, ∃ v, g e.node = some v) (hb : ∀ e ∈ l, 1 ≤ e.node ∧ e.node ≤ 1000000) :
    Calls Tryz.prog 42 #[.pointer (some ⟨p, 0, none⟩), .agg #[.slice a0 n0 c0, .slice a1 n1 c1, .slice a2 n2 c2]] w fun e w' =>
      e = .returned (.tuple #[]) ∧ ∃ m2, w.heap.size ≤ m2 ∧ KBox w' p { r with N := .slice a0 n0 c0, S := .slice a1 n1 c1, V := .slice a2 n2 c2, m := m2 } ∧ MapAt w' m2 n0 (sub g l) ∧ Veer false N p w w' := by
  have EN := Lib.hid (show n0 = l.length by
    obtain ⟨_, _, e, _⟩ := SeesN.form hl
    injection e)
  have B1 := Lib.hid (below_made w (.cells #[.slice a0 n0 c0, .slice a1 n1 c1, .slice a2 n2 c2] 32))
  have X1 := Lib.hid (Blk.made w #[.slice a0 n0 c0, .slice a1 n1 c1, .slice a2 n2 c2] 32)
  have BM := Lib.hid (below_made (w.alloc (.cells #[.slice a0 n0 c0, .slice a1 n1 c1, .slice a2 n2 c2] 32)) (.map #[] 0))
  have M0 := Lib.hid (MapAt.made (w.alloc (.cells #[.slice a0 n0 c0, .slice a1 n1 c1, .slice a2 n2 c2] 32)))
  have S0 := Lib.hid (show (w.alloc (.cells #[.slice a0 n0 c0, .slice a1 n1 c1, .slice a2 n2 c2] 32)).heap.size = w.heap.size + 1 by simp)
  rw [S0.out] at M0
  have SE := Lib.hid (fun W (hb : Below w.heap.size w W) => hl.later hb)
  have KX := Lib.hid (fun W (hb : Below w.heap.size w W) => hK.later hb)
  have MX := Lib.hid (fun W (hb : Below w.heap.size w W) => hM.later hb)
  have HG := Lib.hid hg
  have HB := Lib.hid hb
  have HP := Lib.hid hK.lt
  have HM := Lib.hid hM.lt
  have HN := Lib.hid hN
  have HE := Lib.hid hne
  have hmm := @run_makeMap Tryz.prog
  obtain ⟨room, N0, S0', V0, mm, last, ops, trip, stop, dn⟩ := r
  dsimp only at *
  clear hK hM hN hne hl hg hb
  go_enter Tryz.func42, Tryz.ntmps42
  go_wp2_with fail
  have W1 := Lib.hid (B1.out.trans (BM.out.mono B1.out.size))
  have X2 := Lib.hid (X1.out.later BM.out)
  clear X1 BM B1 S0
  generalize (w.alloc (.cells #[.slice a0 n0 c0, .slice a1 n1 c1, .slice a2 n2 c2] 32)).alloc (.map #[] 0) = w0 at *
  go_loopw [11] (fun s11 wr => ∃ j : Nat, j ≤ n0 ∧ s11 = .int .i64 (j : Int) ∧ MapAt wr (w.heap.size + 1) j (sub g (l.take j)) ∧ Blk wr w.heap.size #[.slice a0 n0 c0, .slice a1 n1 c1, .slice a2 n2 c2] 32 ∧ Below w.heap.size w wr) (fun s11 _ => n0 - (intOf s11).toNat)
  case atStart => exact ⟨0, Nat.zero_le _, rfl, by rw [List.take_zero, sub_nil]; exact M0.out, X2.out, W1.out⟩
  case round =>
    obtain ⟨j, hj, rfl, hm, hx, hB⟩ := hrel
    have HB' := Lib.hid hB
    have MJ := Lib.hid hm
    have XJ := Lib.hid hx
    clear hm hx hB M0 X2 W1
    by_cases hlt : j < n0
    · have hkl : j < l.length := by rw [← EN.out]; exact hlt
      obtain ⟨gb, off, rfl, hgb, hc1, hc2⟩ := (SE.out _ HB'.out).cells hkl
      obtain ⟨v, hv⟩ := HG.out _ (List.getElem_mem hkl)
      obtain ⟨b1, b2⟩ := HB.out _ (List.getElem_mem hkl)
      have SN := Lib.hid (sub_next hkl hv)
      have LK := Lib.hid (fun W hW => (MX.out _ HB'.out).look l[j].node (by omega) (by omega) W hW)
      rw [hv] at LK
      dsimp only [Option.getD] at LK
      generalize l[j].node = nd at *
      generalize l[j].name = nm at *
      have BA := Lib.hid (below_made wr (.cells #[.string nm, .int .i64 nd] 67))
      have E1 := Lib.hid (Blk.made wr #[.string nm, .int .i64 nd] 67)
      have X1 := Lib.hid (XJ.out.later BA.out)
      have M1 := Lib.hid (MJ.out.later BA.out)
      have B1 := Lib.hid (HB'.out.trans (BA.out.mono HB'.out.size))
      have LM := Lib.hid (show mm < wr.heap.size from Nat.lt_of_lt_of_le HM.out HB'.out.size)
      have LX := Lib.hid (fun W (hW : W.heap[mm]? = (wr.alloc (.cells #[.string nm, .int .i64 nd] 67)).heap[mm]?) => LK.out W (hW.trans (Below.heap_alloc wr _ _ LM.out)))
      have LT := Lib.hid MJ.out.lt
      clear hv LK
      go_wp2_with fail
      obtain ⟨t, ht⟩ : ∃ t, t = wr.heap.size := ⟨_, rfl⟩
      rw [← ht] at E1 LT ⊢
      clear ht
      generalize wr.alloc (.cells #[.string nm, .int .i64 nd] 67) = w1 at *
      obtain ⟨-, -, -, -, x4, -⟩ := (KX.out _ B1.out).cells
      dsimp only at x4
      have y1 : w1.cell? ⟨t, 1, none⟩ = some (.int .i64 nd) := E1.out.cell rfl
      have l0 := LX.out w1 rfl
      have l1 := LX.out w1.drew rfl
      have l2 := fun n => LX.out (w1.drewN n) rfl
      go_still_tail 10, (by kernel_rfl)
      change wpList _ _ _ _ _ w1.drew
      obtain ⟨w2, hrun, hM2, hG2⟩ := (show MapAt w1.drew (w.heap.size + 1) j (sub g (l.take j)) from M1.out).store nd v (by omega) (by omega) (by omega)
      have M2 := Lib.hid (show MapAt w2 (w.heap.size + 1) (j + 1) (sub g (l.take (j + 1))) by rw [← SN.out]; exact hM2)
      have B2 := Lib.hid (show Below w.heap.size w w2 from (show Below w.heap.size w w1.drew from B1.out.drew).grown hG2 B1.out.size (fun k hk => by cases hk; omega))
      have X3 := Lib.hid (show Blk w2 w.heap.size _ _ from (hG2.block w.heap.size X1.out.lt (by simp)).trans X1.out)
      clear hM2 hG2 x4 y1 l0 l1 l2 hc1 hc2
      go_wp2_with fail
      go_roundw
      case rel => exact ⟨j + 1, by omega, by go_num, M2.out, X3.out, B2.out⟩
      case measure => simp [intOf]; omega
    · have KW := Lib.hid (KX.out _ HB'.out)
      have MF := Lib.hid (show MapAt wr (w.heap.size + 1) n0 (sub g l) by
        have := MJ.out
        rw [show l.take j = l from List.take_of_length_le (by rw [← EN.out]; omega), show j = n0 by omega] at this
        exact this)
      have K3 := Lib.hid ((KW.out.setN (.slice a0 n0 c0) (.slice a1 n1 c1) (.slice a2 n2 c2)).setM (w.heap.size + 1))
      have hqp : w.heap.size + 1 ≠ p := by have := HP.out; omega
      have M3 := Lib.hid (((((MF.out.set (i := 1) (v := .slice a0 n0 c0) hqp).set (i := 2) (v := .slice a1 n1 c1) hqp).set (i := 3) (v := .slice a2 n2 c2) hqp).set (i := 4) (v := .map (some (w.heap.size + 1))) hqp))
      have V3 := Lib.hid ((((((Veer.of_below (mp := false) (N := N) (p := p) HB'.out (Nat.le_trans HN.out (Nat.le_of_lt HP.out))).set HN.out 1 (.slice a0 n0 c0)).set HN.out 2 (.slice a1 n1 c1)).set HN.out 3 (.slice a2 n2 c2)).set HN.out 4 (.map (some (w.heap.size + 1)))))
      obtain ⟨-, y1, y2, y3, y4, -⟩ := KW.out.cells
      dsimp only at y1 y2 y3 y4
      have f1 := KW.out.soft 1
      have f2 := KW.out.soft 2
      have f3 := KW.out.soft 3
      have f4 := KW.out.soft 4
      have x0 : wr.cell? ⟨w.heap.size, 0, none⟩ = some (.slice a0 n0 c0) := XJ.out.cell rfl
      have x1 : wr.cell? ⟨w.heap.size, 1, none⟩ = some (.slice a1 n1 c1) := XJ.out.cell rfl
      have x2 : wr.cell? ⟨w.heap.size, 2, none⟩ = some (.slice a2 n2 c2) := XJ.out.cell rfl
      clear hqp
      go_wp2_with fail
      exact bodyPost_end (results_none rfl _ _ _) rfl ⟨rfl, w.heap.size + 1, by omega, K3.out, M3.out, V3.out⟩
end Go.Proofs.YtaklilhnikmmfaaGreat
