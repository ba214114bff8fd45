/-
  The walk of the reference's List.
-/
import Derived.Test.YtaklilhnikmmfaaGreatDiskRefUsed
namespace Go.Proofs.YtaklilhnikmmfaaGreat
open Go.RowKit StrM BlockM FileM DirM DiskM

set_option maxHeartbeats 4000000 in
set_option maxRecDepth 100000 in
theorem rlist_any (N q i : Nat) (s : S) (w : World) (h : RD N q s w) (hI : Inv i s) :
    Calls Tryz.prog 16 #[.pointer (some ⟨q, 0, none⟩)] w (LPost (if s.down then [] else s.dir.now) w) := by
  obtain ⟨r, H⟩ := h
  have HH := Lib.hid (fun W (hb : Below w.heap.size w W) => H.later hb)
  obtain ⟨A0, n0, c0, A1, n1, c1, A2, n2, c2, f0, f1, f2, en, -⟩ := H.entries
  have EN := Lib.hid en
  have NL := Lib.hid (show n0 ≤ 100 by rw [en]; exact (DirM.valid_now hI.dirs).few)
  have n0l := NL.out
  have SE := Lib.hid (show ∀ W, Below w.heap.size w W → SeesE W (.slice A0 n0 c0) s.dir.now from fun W hb => by
    have := (H.later hb).dir
    rw [f0] at this
    obtain ⟨_, _, _, e, h1, -⟩ := this
    injection e with e
    injection e with e
    injection e with e _
    rw [e]; exact h1)
  have F0 := Lib.hid f0
  have O0 := Lib.hid (own_made w 9)
  have B0 := Lib.hid (below_made w (.cells #[] 9))
  unfold LPost
  cases hd : s.down
  case' true =>
    have HD := Lib.hid hd
    simp only [if_true]
    clear H hI f0 f1 f2 en hd
    go_enter Tryz.func16, Tryz.ntmps16
    go_wp2_with fail
    go_loopw [3, 4] (fun s3 s4 wr => s4 = .int .i64 0 ∧ s3 = .slice (some ⟨w.heap.size, 0, none⟩) 0 0 ∧ SeesV wr (.slice (some ⟨w.heap.size, 0, none⟩) 0 0) (strs (nms [])) ∧ Below w.heap.size w wr) (fun _ _ _ => 0)
    case atStart => exact ⟨rfl, rfl, SeesV.of_own O0.out, B0.out⟩
    case round =>
      obtain ⟨rfl, rfl, hS, hB⟩ := hrel
      have HB := Lib.hid hB
      have HS := Lib.hid hS
      have H2 := HH.out _ HB.out
      obtain ⟨-, x1, -, -, -, -, -, -, x8⟩ := H2.box.cells
      rw [F0.out] at x1
      rw [H2.down, HD.out] at x8
      clear hB hS H2
      by_cases hlt : 0 < n0
      · have hlt' : (0 : Int) < (n0 : Int) := by omega
        go_wp2_with fail
        go_ret
        exact ⟨_, rfl, HS.out, HB.out⟩
      · have e0 : n0 = 0 := by omega
        subst e0
        go_wp2_with fail
        go_ret
        exact ⟨_, rfl, HS.out, HB.out⟩
  case' false =>
    have HD := Lib.hid hd
    simp only [Bool.false_eq_true, if_false]
    generalize s.dir.now = l at *
    clear H hI f0 f1 f2 en hd
    go_enter Tryz.func16, Tryz.ntmps16
    go_wp2_with fail
    go_loopw [3, 4] (fun s3 s4 wr => ∃ j : Nat, j ≤ n0 ∧ s4 = .int .i64 (j : Int) ∧ wr.ownsRow w.heap.size 9 1 s3 j (strs (nms (l.take j))) ∧ Below w.heap.size w wr) (fun _ s4 _ => n0 - (intOf s4).toNat)
    case atStart => exact ⟨0, Nat.zero_le _, rfl, by simpa [nms, strs] using O0.out, B0.out⟩
    case round =>
      obtain ⟨j, hj, rfl, hO, hB⟩ := hrel
      have HB := Lib.hid hB
      have HO := Lib.hid hO
      have H2 := HH.out _ HB.out
      obtain ⟨-, x1, -, -, -, -, -, -, x8⟩ := H2.box.cells
      rw [F0.out] at x1
      rw [H2.down, HD.out] at x8
      clear hB hO H2
      by_cases hlt : j < n0
      · have hkl : j < l.length := by rw [← EN.out]; exact hlt
        obtain ⟨gb, off, rfl, hg, hc1, hc2⟩ := (SE.out _ HB.out).cells hkl
        have NX := Lib.hid (nms_next hkl)
        generalize l[j].node = nd at *
        generalize l[j].name = nm at *
        have hsz := HB.out.size
        obtain ⟨A, cap, rfl, -⟩ := own_slice HO.out
        have q1 : (j + 1) * 16 ≤ 140737488355328 := by omega
        have q2 : j + 1 ≤ maxLen := by unfold maxLen; omega
        go_wp2_with (at_builtin; refine append_one oneString rfl _ _ rfl w.heap.size _ _ _ rfl HO.out (.string nm) rfl (by simp [Act.eval]) q1 q2 hsz ?_; intro v2 w2 ho2 hb2)
        have O2 := Lib.hid (show w2.ownsRow w.heap.size 9 1 v2 (j + 1) (strs (nms (l.take (j + 1)))) by rw [NX.out]; exact ho2)
        have B2 := Lib.hid (HB.out.trans hb2)
        clear ho2 hb2 HO NX x1 x8
        go_wp2_with fail
        go_roundw
        case rel => exact ⟨j + 1, by omega, by go_num, O2.out, B2.out⟩
        case measure => simp [intOf]; omega
      · have hlt' : ¬ (j : Int) < (n0 : Int) := by omega
        have HX := Lib.hid (show SeesV wr _ (strs (nms l)) from by
          have := SeesV.of_own HO.out
          rw [show j = l.length by rw [← EN.out]; omega, List.take_length] at this
          exact this)
        go_wp2_with fail
        go_ret
        exact ⟨_, rfl, HX.out, HB.out⟩
end Go.Proofs.YtaklilhnikmmfaaGreat
