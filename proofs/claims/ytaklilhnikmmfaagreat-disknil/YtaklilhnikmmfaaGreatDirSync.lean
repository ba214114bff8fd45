/-
  The walks of Sync and Crash.
-/
import Derived.Test.YtaklilhnikmmfaaGreatDirDo
namespace Go.Proofs.YtaklilhnikmmfaaGreat
open Go.RowKit StrM DirM

theorem dsyn_no {d : D} (h : valid d = false) : syn d = zd := by unfold syn; rw [h]; rfl
theorem dsyn_ok {d : D} (h : valid d = true) : syn d = ⟨d.now, d.now, []⟩ := by unfold syn; rw [h]; rfl
theorem dcr_no {d : D} (h : valid d = false) (n : Int) : cr d n = zd := by unfold cr; rw [h]; rfl
theorem dcr_ok {d : D} (h : valid d = true) (n : Int) : cr d n = ⟨crL d n, crL d n, []⟩ := by unfold cr; rw [h]; rfl

theorem ops_elem : Tryz.prog.underlying 30 = some (.slice (Tryz.prog.elem 30)) := by kernel_rfl
theorem ops_size (W : World) : (sizeOf (Tryz.prog.elem 30)).run Tryz.prog W = .ok 4 W := by kernel_rfl
theorem cut_ops (A : Option Addr) (n c k : Nat) (hk : k ≤ c) (W : World) : (Instr.sliceAt 30 (.slice A n c) none (some (.int .i64 (k : Int))) none).run Tryz.prog W = .ok (.slice A k c) W := by
  rw [run_sliceAt_slice W _ _ _ _ _ ops_elem, run_slice_h W _ A n c ops_elem .i64 _ (by omega) (by omega), ops_size]
  simp only [Result.andThen, Int.toNat_natCast]
  cases A <;> simp [sliced, Addr.add]

set_option maxHeartbeats 2000000 in
set_option maxRecDepth 100000 in
theorem dsync_any (v : Value) (d : D) (w : World) (hs : SeesD w v d) (hp : d.pend.length ≤ 1000000) : Calls Tryz.prog 58 #[v] w (DPost (syn d) w) := by
  obtain ⟨A0, c0, A1, c1, A2, c2, rfl, h0, h1, h2⟩ := hs.slices
  have RI := Lib.hid (fun W (hb : Below w.heap.size w W) => dright_any _ d W (hs.later hb) hp)
  have SE := Lib.hid (fun W (hb : Below w.heap.size w W) (hv : valid d = true) => dsettled_any _ d.now W (h0.later hb) (by have := (valid_now hv).few; omega))
  unfold DPost at SE ⊢
  generalize d.now.length = n0 at *
  generalize d.sure.length = n1 at *
  generalize d.pend.length = n2 at *
  have B0 := Lib.hid ((below_made w (.cells #[.slice A0 n0 c0, .slice A1 n1 c1, .slice A2 n2 c2] 32)).alloc (below_made w _).size (.cells #[.slice none 0 0, .slice none 0 0, .slice none 0 0] 32))
  have X0 := Lib.hid ((DBox.made w (.slice A0 n0 c0) (.slice A1 n1 c1) (.slice A2 n2 c2)).later (below_made _ (.cells #[.slice none 0 0, .slice none 0 0, .slice none 0 0] 32)))
  have Y0 := Lib.hid (show DBox _ (w.heap.size + 1) _ _ _ by simpa using DBox.made (w.alloc (.cells #[.slice A0 n0 c0, .slice A1 n1 c1, .slice A2 n2 c2] 32)) (.slice none 0 0) (.slice none 0 0) (.slice none 0 0))
  clear hs h0 h1 h2 hp
  go_enter Tryz.func58, Tryz.ntmps58
  go_wp2_with fail
  refine (RI.out _ B0.out).mono ?_
  rintro e w1 ⟨rfl, hb1⟩
  have B1 := Lib.hid (B0.out.trans (hb1.mono B0.out.size))
  have X1 := Lib.hid (X0.out.later hb1)
  have Y1 := Lib.hid (Y0.out.later hb1)
  clear hb1 X0 Y0 B0
  cases hv : valid d with
  | false =>
    have HF := Lib.hid (dsyn_no hv)
    obtain ⟨y0, y1, y2⟩ := Y1.out.cells
    obtain ⟨z0, z1, z2⟩ := Y1.out.soft
    have YF := Lib.hid (Y1.out.set (.slice none 0 0) (.slice none 0 0) (.slice none 0 0))
    have BF := Lib.hid (dset_below B1.out (show w.heap.size ≤ w.heap.size + 1 by omega) (.slice none 0 0) (.slice none 0 0) (.slice none 0 0))
    clear hv SE
    go_wp2_with fail
    change bodyPost _ _ _ _ _ (dset w1 (w.heap.size + 1) (.slice none 0 0) (.slice none 0 0) (.slice none 0 0))
    generalize dset w1 (w.heap.size + 1) (.slice none 0 0) (.slice none 0 0) (.slice none 0 0) = w9 at *
    obtain ⟨y0, y1, y2⟩ := YF.out.cells
    exact bodyPost_ret (by simp [results, Tryz.results58, go_sem, y0, y1, y2]; rfl) rfl ⟨_, rfl, by rw [HF.out]; exact SeesD.zero _, BF.out⟩
  | true =>
    have HF := Lib.hid (dsyn_ok hv)
    obtain ⟨x0, x1, x2⟩ := X1.out.cells
    have SE := Lib.hid (fun W hb => SE.out W hb hv)
    clear hv
    go_wp2_with fail
    refine (SE.out _ B1.out).mono ?_
    rintro e w2 ⟨v2, rfl, s2, hb2⟩
    rw [← HF.out] at s2
    obtain ⟨B0, d0, B1', d1, B2', d2, rfl, -⟩ := s2.slices
    have B2 := Lib.hid (B1.out.trans (hb2.mono B1.out.size))
    have Y2 := Lib.hid (Y1.out.later hb2)
    have S2 := Lib.hid s2
    obtain ⟨y0, y1, y2⟩ := Y2.out.cells
    obtain ⟨z0, z1, z2⟩ := Y2.out.soft
    clear hb2 s2 HF
    generalize (syn d).now.length = m0 at *
    generalize (syn d).sure.length = m1 at *
    generalize (syn d).pend.length = m2 at *
    have YF := Lib.hid (Y2.out.set (.slice B0 m0 d0) (.slice B1' m1 d1) (.slice B2' m2 d2))
    have HF2 := Lib.hid (show SeesD (dset w2 (w.heap.size + 1) (.slice B0 m0 d0) (.slice B1' m1 d1) (.slice B2' m2 d2)) (.agg #[.slice B0 m0 d0, .slice B1' m1 d1, .slice B2' m2 d2]) (syn d) ∧ Below w.heap.size w (dset w2 (w.heap.size + 1) (.slice B0 m0 d0) (.slice B1' m1 d1) (.slice B2' m2 d2)) from
      ⟨S2.out.dset Y2.out _ _ _, dset_below B2.out (by omega) _ _ _⟩)
    go_wp2_with fail
    change bodyPost _ _ _ _ _ (dset w2 (w.heap.size + 1) (.slice B0 m0 d0) (.slice B1' m1 d1) (.slice B2' m2 d2))
    generalize dset w2 (w.heap.size + 1) (.slice B0 m0 d0) (.slice B1' m1 d1) (.slice B2' m2 d2) = w9 at *
    obtain ⟨y0, y1, y2⟩ := YF.out.cells
    exact bodyPost_ret (by simp [results, Tryz.results58, go_sem, y0, y1, y2]) rfl ⟨_, rfl, HF2.out.1, HF2.out.2⟩

theorem perf_cut {d : D} {n : Int} (hv : valid d = true) : (all d.sure (d.pend.take (cnt n d.pend.length))) = (crL d n, 0) ∧ (crL d n).length ≤ 1000000 := by
  obtain ⟨h1, h2⟩ := valid_pre hv (cnt n d.pend.length)
  exact ⟨by rw [← h1]; rfl, by have := h2.few; unfold crL; omega⟩

set_option maxHeartbeats 4000000 in
set_option maxRecDepth 100000 in
theorem dcrash_any (v : Value) (d : D) (n : Int) (w : World) (hs : SeesD w v d) (hp : d.pend.length ≤ 1000000) : Calls Tryz.prog 43 #[v, .int .i64 n] w (DPost (cr d n) w) := by
  obtain ⟨A0, c0, A1, c1, A2, c2, rfl, h0, h1, h2⟩ := hs.slices
  have hc2 : d.pend.length ≤ c2 := by obtain ⟨a, cap, e, hn⟩ := SeesN.form h2; injection e with _ _ e; omega
  have RI := Lib.hid (fun W (hb : Below w.heap.size w W) => dright_any _ d W (hs.later hb) hp)
  have PE := Lib.hid (fun W (hb : Below w.heap.size w W) (hv : valid d = true) => performed_any _ _ d.sure (d.pend.take (cnt n d.pend.length)) W (h1.later hb) ((h2.later hb).cut (cnt_le n _)) (valid_iff.1 hv).1 (by rw [List.length_take]; omega))
  have SE := Lib.hid (fun W u (h : SeesE W u (crL d n)) (hl : (crL d n).length ≤ 1000000) => dsettled_any u (crL d n) W h hl)
  have PC := Lib.hid (fun hv => perf_cut (d := d) (n := n) hv)
  unfold PerfPost at PE
  unfold DPost at SE ⊢
  have VN := Lib.hid (fun h => dcr_no (d := d) h n)
  have VO := Lib.hid (fun h => dcr_ok (d := d) h n)
  generalize crL d n = C at *
  generalize d.now.length = n0 at *
  generalize d.sure.length = n1 at *
  obtain ⟨n2, hn2⟩ : ∃ n2, n2 = d.pend.length := ⟨_, rfl⟩
  rw [← hn2] at RI PE PC hc2 ⊢
  obtain ⟨k, hk⟩ : ∃ k, k = cnt n n2 := ⟨_, rfl⟩
  rw [← hk] at PE PC
  have hki : (k : Int) = min (max n 0) (n2 : Int) := by rw [hk]; exact cnt_int n n2
  have hkn : k ≤ n2 := by rw [hk]; exact cnt_le n n2
  obtain ⟨m, hm⟩ : ∃ m : Nat, (m : Int) = max n 0 := ⟨(max n 0).toNat, by omega⟩
  have hmax : ∀ W, (Builtin.max_ #[3, 3] 3 #[.int .i64 n, .int .i64 0]).run Tryz.prog W = .ok (.int .i64 (m : Int)) W := by
    intro W
    rw [run_max_int2, hm]
    congr 2
    split <;> omega
  have hmin : ∀ W, (Builtin.min_ #[3, 3] 3 #[.int .i64 (m : Int), .int .i64 (n2 : Int)]).run Tryz.prog W = .ok (.int .i64 (k : Int)) W := by
    intro W
    rw [run_min_int2]
    congr 2
    split <;> omega
  have CU := fun W => cut_ops A2 n2 c2 k (by omega) W
  have B0 := Lib.hid ((below_made w (.cells #[.slice A0 n0 c0, .slice A1 n1 c1, .slice A2 n2 c2] 32)).alloc (below_made w _).size (.cells #[.slice none 0 0, .slice none 0 0, .slice none 0 0] 32))
  have X0 := Lib.hid ((DBox.made w (.slice A0 n0 c0) (.slice A1 n1 c1) (.slice A2 n2 c2)).later (below_made _ (.cells #[.slice none 0 0, .slice none 0 0, .slice none 0 0] 32)))
  have Y0 := Lib.hid (show DBox _ (w.heap.size + 1) _ _ _ by simpa using DBox.made (w.alloc (.cells #[.slice A0 n0 c0, .slice A1 n1 c1, .slice A2 n2 c2] 32)) (.slice none 0 0) (.slice none 0 0) (.slice none 0 0))
  clear hs h0 h1 h2 hp hn2 hk hki hm
  go_enter Tryz.func43, Tryz.ntmps43
  go_wp2_with fail
  refine (RI.out _ B0.out).mono ?_
  rintro e w1 ⟨rfl, hb1⟩
  have B1 := Lib.hid (B0.out.trans (hb1.mono B0.out.size))
  have X1 := Lib.hid (X0.out.later hb1)
  have Y1 := Lib.hid (Y0.out.later hb1)
  clear hb1 X0 Y0 B0
  cases hv : valid d with
  | false =>
    have HF := Lib.hid (VN.out hv)
    obtain ⟨y0, y1, y2⟩ := Y1.out.cells
    obtain ⟨z0, z1, z2⟩ := Y1.out.soft
    have YF := Lib.hid (Y1.out.set (.slice none 0 0) (.slice none 0 0) (.slice none 0 0))
    have BF := Lib.hid (dset_below B1.out (show w.heap.size ≤ w.heap.size + 1 by omega) (.slice none 0 0) (.slice none 0 0) (.slice none 0 0))
    clear hv SE PE PC VN VO
    go_wp2_with fail
    change bodyPost _ _ _ _ _ (dset w1 (w.heap.size + 1) (.slice none 0 0) (.slice none 0 0) (.slice none 0 0))
    generalize dset w1 (w.heap.size + 1) (.slice none 0 0) (.slice none 0 0) (.slice none 0 0) = w9 at *
    obtain ⟨y0, y1, y2⟩ := YF.out.cells
    exact bodyPost_ret (by simp [results, Tryz.results43, go_sem, y0, y1, y2]; rfl) rfl ⟨_, rfl, by rw [HF.out]; exact SeesD.zero _, BF.out⟩
  | true =>
    have HF := Lib.hid (VO.out hv)
    obtain ⟨pc, pl⟩ := PC.out hv
    have PX := Lib.hid (show ∀ W (hb : Below w.heap.size w W), Calls Tryz.prog 69 #[.slice A1 n1 c1, .slice A2 k c2] W fun e w' => ∃ v, e = .returned (.tuple #[v, .int .i64 0]) ∧ SeesE w' v C ∧ Below W.heap.size W w' from fun W hb => by
      have h := PE.out W hb hv
      rw [pc] at h
      refine h.mono ?_
      rintro e w' ⟨v, he, ho, hb⟩
      exact ⟨v, he, SeesE.of_own ho, hb⟩)
    have HL := Lib.hid pl
    have BD := Lib.hid B1.out.drew
    have XD := Lib.hid (X1.out.later (below_drew _ (Nat.le_refl _)))
    have YD := Lib.hid (Y1.out.later (below_drew _ (Nat.le_refl _)))
    obtain ⟨x0, x1, x2⟩ := X1.out.cells
    clear hv VN VO PE PC pc pl
    go_wp2_with fail
    go_region_held3 (fun W => W.cell? ⟨w.heap.size, 0, none⟩ = some (.slice A0 n0 c0) ∧ W.cell? ⟨w.heap.size, 1, none⟩ = some (.slice A1 n1 c1) ∧ W.cell? ⟨w.heap.size, 2, none⟩ = some (.slice A2 n2 c2))
      (first | exact XD.out.cells | exact hX3.cells)
      (first
        | (go_at_call 69; (with_reducible refine (PX.out _ BD.out).mono ?_); rintro e w3 ⟨v3, rfl, s3, b3⟩; have hX3 := XD.out.later b3; have hB3 := BD.out.trans (b3.mono BD.out.size)))
    all_goals
      have S3 := Lib.hid s3
      have B3 := Lib.hid hB3
      have Y3 := Lib.hid (YD.out.later b3)
      have SX := Lib.hid (SE.out _ _ S3.out HL.out)
      clear s3 b3 hX3 hB3 x0 x1 x2
      go_wp2_with fail
      refine SX.out.mono ?_
      rintro e w4 ⟨v4, rfl, s4, hb4⟩
      rw [← HF.out] at s4
      obtain ⟨E0, e0, E1, e1, E2, e2, rfl, -⟩ := s4.slices
      have B4 := Lib.hid (B3.out.trans (hb4.mono B3.out.size))
      have Y4 := Lib.hid (Y3.out.later hb4)
      have S4 := Lib.hid s4
      obtain ⟨y0, y1, y2⟩ := Y4.out.cells
      obtain ⟨z0, z1, z2⟩ := Y4.out.soft
      clear hb4 s4 HF SX
      generalize (cr d n).now.length = m0 at *
      generalize (cr d n).sure.length = m1 at *
      generalize (cr d n).pend.length = m2 at *
      have YF := Lib.hid (Y4.out.set (.slice E0 m0 e0) (.slice E1 m1 e1) (.slice E2 m2 e2))
      have HF2 := Lib.hid (show SeesD (dset w4 (w.heap.size + 1) (.slice E0 m0 e0) (.slice E1 m1 e1) (.slice E2 m2 e2)) (.agg #[.slice E0 m0 e0, .slice E1 m1 e1, .slice E2 m2 e2]) (cr d n) ∧ Below w.heap.size w (dset w4 (w.heap.size + 1) (.slice E0 m0 e0) (.slice E1 m1 e1) (.slice E2 m2 e2)) from
        ⟨S4.out.dset Y4.out _ _ _, dset_below B4.out (by omega) _ _ _⟩)
      go_wp2_with fail
      change bodyPost _ _ _ _ _ (dset w4 (w.heap.size + 1) (.slice E0 m0 e0) (.slice E1 m1 e1) (.slice E2 m2 e2))
      generalize dset w4 (w.heap.size + 1) (.slice E0 m0 e0) (.slice E1 m1 e1) (.slice E2 m2 e2) = w9 at *
      obtain ⟨y0, y1, y2⟩ := YF.out.cells
      exact bodyPost_ret (by simp [results, Tryz.results43, go_sem, y0, y1, y2]) rfl ⟨_, rfl, HF2.out.1, HF2.out.2⟩
end Go.Proofs.YtaklilhnikmmfaaGreat
