/-
  The walks of the reference's Sync and Crash.
-/
import Derived.Test.YtbpdlfcghlopmaaDirRefRight
namespace Go.Proofs.Ytbpdlfcghlopmaa
open Go.RowKit StrM DirM

set_option maxHeartbeats 2000000 in
set_option maxRecDepth 100000 in
theorem rdsync_any (v : Value) (d : D) (w : World) (hs : SeesD w v d) (hz : Sz d) : Calls Try.prog 17 #[v] w (DPost (syn d) w) := by
  obtain ⟨A0, c0, A1, c1, A2, c2, rfl, h0, h1, h2⟩ := hs.slices
  have RI := Lib.hid (fun W (hb : Below w.heap.size w W) => rdright_any _ d W (hs.later hb) hz)
  have S0 := Lib.hid h0
  unfold DPost
  generalize d.now.length = n0 at *
  generalize d.sure.length = n1 at *
  generalize d.pend.length = n2 at *
  have B0 := Lib.hid ((below_made w (.cells #[.slice A0 n0 c0, .slice A1 n1 c1, .slice A2 n2 c2] 25)).alloc (below_made w _).size (.cells #[.slice none 0 0, .slice none 0 0, .slice none 0 0] 25))
  have X0 := Lib.hid ((DBox.made w (.slice A0 n0 c0) (.slice A1 n1 c1) (.slice A2 n2 c2)).later (below_made _ (.cells #[.slice none 0 0, .slice none 0 0, .slice none 0 0] 25)))
  have Y0 := Lib.hid (show DBox _ (w.heap.size + 1) _ _ _ by simpa using DBox.made (w.alloc (.cells #[.slice A0 n0 c0, .slice A1 n1 c1, .slice A2 n2 c2] 25)) (.slice none 0 0) (.slice none 0 0) (.slice none 0 0))
  clear hs h0 h1 h2 hz
  go_enter Try.func17, Try.ntmps17
  go_wp2_with fail
  refine (RI.out _ B0.out).mono ?_
  rintro e w1 ⟨rfl, hb1⟩
  have B1 := Lib.hid (B0.out.trans (hb1.mono B0.out.size))
  have X1 := Lib.hid (X0.out.later hb1)
  have Y1 := Lib.hid (Y0.out.later hb1)
  clear hb1 X0 Y0 B0
  obtain ⟨y0, y1, y2⟩ := Y1.out.cells
  obtain ⟨z0, z1, z2⟩ := Y1.out.soft
  cases hv : valid d with
  | false =>
    have HF := Lib.hid (syn_no hv)
    have YF := Lib.hid (Y1.out.set (.slice none 0 0) (.slice none 0 0) (.slice none 0 0))
    have BF := Lib.hid (dset_below B1.out (show w.heap.size ≤ w.heap.size + 1 by omega) (.slice none 0 0) (.slice none 0 0) (.slice none 0 0))
    clear hv
    go_wp2_with fail
    change bodyPost _ _ _ _ _ (dset w1 (w.heap.size + 1) (.slice none 0 0) (.slice none 0 0) (.slice none 0 0))
    generalize dset w1 (w.heap.size + 1) (.slice none 0 0) (.slice none 0 0) (.slice none 0 0) = w9 at *
    clear y0 y1 y2
    obtain ⟨y0, y1, y2⟩ := YF.out.cells
    exact bodyPost_ret (by simp [results, Try.results17, go_sem, y0, y1, y2]; rfl) rfl ⟨_, rfl, by rw [HF.out]; exact SeesD.zero _, BF.out⟩
  | true =>
    have HF := Lib.hid (syn_ok hv)
    obtain ⟨x0, x1, x2⟩ := X1.out.cells
    have YF := Lib.hid (Y1.out.set (.slice A0 n0 c0) (.slice A0 n0 c0) (.slice none 0 0))
    have HF2 := Lib.hid (show SeesD (dset w1 (w.heap.size + 1) (.slice A0 n0 c0) (.slice A0 n0 c0) (.slice none 0 0)) (.agg #[.slice A0 n0 c0, .slice A0 n0 c0, .slice none 0 0]) (syn d) ∧ Below w.heap.size w (dset w1 (w.heap.size + 1) (.slice A0 n0 c0) (.slice A0 n0 c0) (.slice none 0 0)) from
      ⟨by rw [HF.out]; exact ⟨_, _, _, rfl, (S0.out.later B1.out).dset Y1.out _ _ _, (S0.out.later B1.out).dset Y1.out _ _ _, seesO_nil _⟩, dset_below B1.out (by omega) _ _ _⟩)
    clear hv
    go_wp2_with fail
    change bodyPost _ _ _ _ _ (dset w1 (w.heap.size + 1) (.slice A0 n0 c0) (.slice A0 n0 c0) (.slice none 0 0))
    generalize dset w1 (w.heap.size + 1) (.slice A0 n0 c0) (.slice A0 n0 c0) (.slice none 0 0) = w9 at *
    clear y0 y1 y2
    obtain ⟨y0, y1, y2⟩ := YF.out.cells
    exact bodyPost_ret (by simp [results, Try.results17, go_sem, y0, y1, y2]) rfl ⟨_, rfl, HF2.out.1, HF2.out.2⟩

set_option maxHeartbeats 8000000 in
set_option maxRecDepth 100000 in
theorem rdcrash_any (v : Value) (d : D) (n : Int) (w : World) (hs : SeesD w v d) (hz : Sz d) : Calls Try.prog 19 #[v, .int .i64 n] w (DPost (cr d n) w) := by
  obtain ⟨A0, c0, A1, c1, A2, c2, rfl, h0, h1, h2⟩ := hs.slices
  have hc2 : d.pend.length ≤ c2 := by obtain ⟨a, cap, e, hn⟩ := SeesN.form h2; injection e with _ _ e; omega
  have RI := Lib.hid (fun W (hb : Below w.heap.size w W) => rdright_any _ d W (hs.later hb) hz)
  have PE := Lib.hid (fun W (hb : Below w.heap.size w W) => rall_any _ _ d.sure (d.pend.take (cnt n d.pend.length)) W (h1.later hb) ((h2.later hb).cut (cnt_le n _)) hz.sure (by rw [List.length_take]; have := hz.pend; omega) (fun o ho => hz.ops o (List.mem_of_mem_take ho)))
  have PC := Lib.hid (fun hv => perf_cut (d := d) (n := n) hv)
  have HPB := Lib.hid hz.pend
  unfold DPost
  have VN := Lib.hid (fun h => cr_no (d := d) h n)
  have VO := Lib.hid (fun h => cr_ok (d := d) h n)
  generalize crL d n = C at *
  generalize d.now.length = n0 at *
  generalize d.sure.length = n1 at *
  obtain ⟨n2, hn2⟩ : ∃ n2, n2 = d.pend.length := ⟨_, rfl⟩
  rw [← hn2] at RI PE PC hc2 HPB ⊢
  obtain ⟨k, hk⟩ : ∃ k, k = cnt n n2 := ⟨_, rfl⟩
  rw [← hk] at PE PC
  have hki : (k : Int) = min (max n 0) (n2 : Int) := by rw [hk]; exact cnt_int n n2
  have hkn : k ≤ n2 := by rw [hk]; exact cnt_le n n2
  have CU := fun W => cut_ops A2 n2 c2 k (by omega) W
  have B0 := Lib.hid ((below_made w (.cells #[.slice A0 n0 c0, .slice A1 n1 c1, .slice A2 n2 c2] 25)).alloc (below_made w _).size (.cells #[.slice none 0 0, .slice none 0 0, .slice none 0 0] 25))
  have X0 := Lib.hid ((DBox.made w (.slice A0 n0 c0) (.slice A1 n1 c1) (.slice A2 n2 c2)).later (below_made _ (.cells #[.slice none 0 0, .slice none 0 0, .slice none 0 0] 25)))
  have Y0 := Lib.hid (show DBox _ (w.heap.size + 1) _ _ _ by simpa using DBox.made (w.alloc (.cells #[.slice A0 n0 c0, .slice A1 n1 c1, .slice A2 n2 c2] 25)) (.slice none 0 0) (.slice none 0 0) (.slice none 0 0))
  clear hs h0 h1 h2 hz hn2 hk
  go_enter Try.func19, Try.ntmps19
  go_wp2_with fail
  refine (RI.out _ B0.out).mono ?_
  rintro e w1 ⟨rfl, hb1⟩
  have B1 := Lib.hid (B0.out.trans (hb1.mono B0.out.size))
  have X1 := Lib.hid (X0.out.later hb1)
  have Y1 := Lib.hid (Y0.out.later hb1)
  clear hb1 X0 Y0 B0
  cases hv : valid d with
  | false =>
    have HF := Lib.hid (VN.out hv)
    obtain ⟨y0, y1, y2⟩ := Y1.out.cells
    obtain ⟨z0, z1, z2⟩ := Y1.out.soft
    have YF := Lib.hid (Y1.out.set (.slice none 0 0) (.slice none 0 0) (.slice none 0 0))
    have BF := Lib.hid (dset_below B1.out (show w.heap.size ≤ w.heap.size + 1 by omega) (.slice none 0 0) (.slice none 0 0) (.slice none 0 0))
    clear hv PE PC VN VO
    go_wp2_with fail
    change bodyPost _ _ _ _ _ (dset w1 (w.heap.size + 1) (.slice none 0 0) (.slice none 0 0) (.slice none 0 0))
    generalize dset w1 (w.heap.size + 1) (.slice none 0 0) (.slice none 0 0) (.slice none 0 0) = w9 at *
    obtain ⟨y0, y1, y2⟩ := YF.out.cells
    exact bodyPost_ret (by simp [results, Try.results19, go_sem, y0, y1, y2]; rfl) rfl ⟨_, rfl, by rw [HF.out]; exact SeesD.zero _, BF.out⟩
  | true =>
    have HF := Lib.hid (VO.out hv)
    obtain ⟨pc, pl⟩ := PC.out hv
    have PX := Lib.hid (show ∀ W (hb : Below w.heap.size w W), Calls Try.prog 30 #[.slice A1 n1 c1, .slice A2 k c2] W fun e w' => ∃ A c, e = .returned (.tuple #[.slice A C.length c, .bool true]) ∧ SeesE w' (.slice A C.length c) C ∧ Below W.heap.size W w' from fun W hb => by
      have h := PE.out W hb
      rw [pc] at h
      refine h.mono ?_
      rintro e w' ⟨v, he, ho, hb⟩
      obtain ⟨A, c, rfl, -⟩ := SeesN.form ho
      exact ⟨A, c, he, ho, hb⟩)
    have BD := Lib.hid B1.out.drew
    have XD := Lib.hid (X1.out.later (below_drew _ (Nat.le_refl _)))
    have YD := Lib.hid (Y1.out.later (below_drew _ (Nat.le_refl _)))
    obtain ⟨x0, x1, x2⟩ := X1.out.cells
    generalize C.length = m at *
    clear hv VN VO PE PC pc pl
    have hcase : (n < 0 ∧ k = 0) ∨ (0 ≤ n ∧ (n2 : Int) < n ∧ k = n2) ∨ (0 ≤ n ∧ n ≤ n2 ∧ n = (k : Int)) := by omega
    rcases hcase with ⟨a1, a2⟩ | ⟨a1, a2, a3⟩ | ⟨a1, a2, a3⟩
    · have CV := fun W => by
        have h := CU W
        rw [show (k : Int) = 0 by omega] at h
        exact h
      clear CU a2 hkn hki
      go_wp2_with fail
      go_region_held3 (fun W => W.cell? ⟨w.heap.size, 0, none⟩ = some (.slice A0 n0 c0) ∧ W.cell? ⟨w.heap.size, 1, none⟩ = some (.slice A1 n1 c1) ∧ W.cell? ⟨w.heap.size, 2, none⟩ = some (.slice A2 n2 c2))
        (first | exact XD.out.cells | exact hX3.cells)
        (first
          | (go_at_call 30; (with_reducible refine (PX.out _ BD.out).mono ?_); rintro e w3 ⟨D3, d3, rfl, s3, b3⟩; have hX3 := XD.out.later b3; have hB3 := BD.out.trans (b3.mono BD.out.size)))
      all_goals
        have B3 := Lib.hid hB3
        have Y3 := Lib.hid (YD.out.later b3)
        obtain ⟨y0, y1, y2⟩ := Y3.out.cells
        obtain ⟨z0, z1, z2⟩ := Y3.out.soft
        have YF := Lib.hid (Y3.out.set (.slice D3 m d3) (.slice D3 m d3) (.slice none 0 0))
        have HF2 := Lib.hid (show SeesD (dset w3 (w.heap.size + 1) (.slice D3 m d3) (.slice D3 m d3) (.slice none 0 0)) (.agg #[.slice D3 m d3, .slice D3 m d3, .slice none 0 0]) (cr d n) ∧ Below w.heap.size w (dset w3 (w.heap.size + 1) (.slice D3 m d3) (.slice D3 m d3) (.slice none 0 0)) from
          ⟨by rw [HF.out]; exact ⟨_, _, _, rfl, s3.dset Y3.out _ _ _, s3.dset Y3.out _ _ _, seesO_nil _⟩, dset_below B3.out (by omega) _ _ _⟩)
        clear s3 b3 hX3 hB3 x0 x1 x2
        go_wp2_with fail
        change bodyPost _ _ _ _ _ (dset w3 (w.heap.size + 1) (.slice D3 m d3) (.slice D3 m d3) (.slice none 0 0))
        generalize dset w3 (w.heap.size + 1) (.slice D3 m d3) (.slice D3 m d3) (.slice none 0 0) = w9 at *
        clear y0 y1 y2
        obtain ⟨y0, y1, y2⟩ := YF.out.cells
        exact bodyPost_ret (by simp [results, Try.results19, go_sem, y0, y1, y2]) rfl ⟨_, rfl, HF2.out.1, HF2.out.2⟩
    · have CV := fun W => by
        have h := CU W
        rw [show (k : Int) = (n2 : Int) by omega] at h
        exact h
      have a1' : decide (n < 0) = false := by simp; omega
      have hcn : n2 ≤ c2 := hc2
      clear CU a1 a3 hkn hki
      go_wp2_with fail
      go_region_held3 (fun W => W.cell? ⟨w.heap.size, 0, none⟩ = some (.slice A0 n0 c0) ∧ W.cell? ⟨w.heap.size, 1, none⟩ = some (.slice A1 n1 c1) ∧ W.cell? ⟨w.heap.size, 2, none⟩ = some (.slice A2 n2 c2))
        (first | exact XD.out.cells | exact hX3.cells)
        (first
          | (go_at_call 30; (with_reducible refine (PX.out _ BD.out).mono ?_); rintro e w3 ⟨D3, d3, rfl, s3, b3⟩; have hX3 := XD.out.later b3; have hB3 := BD.out.trans (b3.mono BD.out.size)))
      all_goals
        have B3 := Lib.hid hB3
        have Y3 := Lib.hid (YD.out.later b3)
        obtain ⟨y0, y1, y2⟩ := Y3.out.cells
        obtain ⟨z0, z1, z2⟩ := Y3.out.soft
        have YF := Lib.hid (Y3.out.set (.slice D3 m d3) (.slice D3 m d3) (.slice none 0 0))
        have HF2 := Lib.hid (show SeesD (dset w3 (w.heap.size + 1) (.slice D3 m d3) (.slice D3 m d3) (.slice none 0 0)) (.agg #[.slice D3 m d3, .slice D3 m d3, .slice none 0 0]) (cr d n) ∧ Below w.heap.size w (dset w3 (w.heap.size + 1) (.slice D3 m d3) (.slice D3 m d3) (.slice none 0 0)) from
          ⟨by rw [HF.out]; exact ⟨_, _, _, rfl, s3.dset Y3.out _ _ _, s3.dset Y3.out _ _ _, seesO_nil _⟩, dset_below B3.out (by omega) _ _ _⟩)
        clear s3 b3 hX3 hB3 x0 x1 x2
        go_wp2_with fail
        change bodyPost _ _ _ _ _ (dset w3 (w.heap.size + 1) (.slice D3 m d3) (.slice D3 m d3) (.slice none 0 0))
        generalize dset w3 (w.heap.size + 1) (.slice D3 m d3) (.slice D3 m d3) (.slice none 0 0) = w9 at *
        clear y0 y1 y2
        obtain ⟨y0, y1, y2⟩ := YF.out.cells
        exact bodyPost_ret (by simp [results, Try.results19, go_sem, y0, y1, y2]) rfl ⟨_, rfl, HF2.out.1, HF2.out.2⟩
    · have CV := fun W => by
        have h := CU W
        rw [← a3] at h
        exact h
      have a1' : decide (n < 0) = false := by simp; omega
      have a2' : decide ((n2 : Int) < n) = false := by simp; omega
      clear CU a3 hkn hki
      go_wp2_with fail
      go_region_held3 (fun W => W.cell? ⟨w.heap.size, 0, none⟩ = some (.slice A0 n0 c0) ∧ W.cell? ⟨w.heap.size, 1, none⟩ = some (.slice A1 n1 c1) ∧ W.cell? ⟨w.heap.size, 2, none⟩ = some (.slice A2 n2 c2))
        (first | exact XD.out.cells | exact hX3.cells)
        (first
          | (go_at_call 30; (with_reducible refine (PX.out _ BD.out).mono ?_); rintro e w3 ⟨D3, d3, rfl, s3, b3⟩; have hX3 := XD.out.later b3; have hB3 := BD.out.trans (b3.mono BD.out.size)))
      all_goals
        have B3 := Lib.hid hB3
        have Y3 := Lib.hid (YD.out.later b3)
        obtain ⟨y0, y1, y2⟩ := Y3.out.cells
        obtain ⟨z0, z1, z2⟩ := Y3.out.soft
        have YF := Lib.hid (Y3.out.set (.slice D3 m d3) (.slice D3 m d3) (.slice none 0 0))
        have HF2 := Lib.hid (show SeesD (dset w3 (w.heap.size + 1) (.slice D3 m d3) (.slice D3 m d3) (.slice none 0 0)) (.agg #[.slice D3 m d3, .slice D3 m d3, .slice none 0 0]) (cr d n) ∧ Below w.heap.size w (dset w3 (w.heap.size + 1) (.slice D3 m d3) (.slice D3 m d3) (.slice none 0 0)) from
          ⟨by rw [HF.out]; exact ⟨_, _, _, rfl, s3.dset Y3.out _ _ _, s3.dset Y3.out _ _ _, seesO_nil _⟩, dset_below B3.out (by omega) _ _ _⟩)
        clear s3 b3 hX3 hB3 x0 x1 x2
        go_wp2_with fail
        change bodyPost _ _ _ _ _ (dset w3 (w.heap.size + 1) (.slice D3 m d3) (.slice D3 m d3) (.slice none 0 0))
        generalize dset w3 (w.heap.size + 1) (.slice D3 m d3) (.slice D3 m d3) (.slice none 0 0) = w9 at *
        clear y0 y1 y2
        obtain ⟨y0, y1, y2⟩ := YF.out.cells
        exact bodyPost_ret (by simp [results, Try.results19, go_sem, y0, y1, y2]) rfl ⟨_, rfl, HF2.out.1, HF2.out.2⟩
end Go.Proofs.Ytbpdlfcghlopmaa
