/-
  The walk of alter.
-/
import Derived.Test.YtaklilhnikmmfaaGreatDiskPut
namespace Go.Proofs.YtaklilhnikmmfaaGreat
open Go.RowKit StrM BlockM FileM DirM DiskM

/-- What a function that alters a file returns. -/
def APost (er : Int) (nf : Fl) (w : World) (e : Ending) (w' : World) : Prop := ∃ v f', e = .returned (.tuple #[v, .int .i64 er]) ∧ SeesG w' v f' ∧ (er = 0 → f' = nf) ∧ Below w.heap.size w w'

set_option maxHeartbeats 4000000 in
set_option maxRecDepth 100000 in
theorem alter_any (N p i : Nat) (s : S) (nm : ByteArray) (f : Nat) (cs : Array Value) (er : Int) (nf : Fl) (w : World) (h : CD N p i s w) (hI : Inv i s) (hi : i ≤ 100) (hnf : FileM.valid nf = true)
    (he : ∀ u W, (callFunc f (#[u] ++ cs)).run Tryz.prog W = .ok (.enter f (#[u] ++ cs)) W)
    (HF : s.down = false → has s.dir.now nm = true → ∀ W u, Below w.heap.size w W → SeesG W u (file s nm) → Calls Tryz.prog f (#[u] ++ cs) W (APost er nf W)) :
    Calls Tryz.prog 51 #[.pointer (some ⟨p, 0, none⟩), .string nm, .func (.func f) #[] cs] w (KEnd N p (i + 1) (fE s nm er) (fS s nm er nf) w) := by
  obtain ⟨r, k, g, H⟩ := h
  have B0 := Lib.hid ((Below.refl w.heap.size w).alloc (Nat.le_refl _) (.cells #[.pointer (some ⟨p, 0, none⟩)] 25))
  have Y0 := Lib.hid (Blk.made w #[.pointer (some ⟨p, 0, none⟩)] 25)
  have H0 := Lib.hid (H.later B0.out)
  have HP := Lib.hid (show p < w.heap.size from H.box.lt)
  have HN := Lib.hid H.baseW
  have DN := Lib.hid H.down
  have HH := Lib.hid (fun W (hb : Below w.heap.size w W) => H.later hb)
  have HI := Lib.hid hI
  have HFF := Lib.hid HF
  have HNF := Lib.hid hnf
  obtain ⟨q1, q2, q3, q4⟩ := H.perf hI hi
  have AT := Lib.hid (fun hd => attempt_down p r _ H0.out.box hd q1 q2)
  have AU := Lib.hid (fun hd => attempt_up p r _ H0.out.box hd)
  clear H hI q1 q2 q3 q4 HF hnf
  cases hd : r.down with
  | true =>
    have AV := Lib.hid (AT.out hd)
    have HE := Lib.hid (show KEnd N p (i + 1) (fE s nm er) (fS s nm er nf) w (.returned (.int .i64 9)) _ from by
      have e : s.down = true := by rw [← DN.out]; exact hd
      rw [fE, fS, if_pos e, if_pos e]
      exact KEnd.down H0.out HI.out B0.out HN.out)
    clear AU AT hd
    go_enter Tryz.func51, Tryz.ntmps51
    go_wp2_with fail
    refine AV.out.mono ?_
    rintro e w1 ⟨rfl, rfl⟩
    generalize World.setCell _ ⟨p, 6, none⟩ _ = w2 at *
    go_wp2_with fail
    go_ret
    exact HE.out
  | false =>
    have AV := Lib.hid (AU.out hd)
    have DF := Lib.hid (show s.down = false by rw [← DN.out]; exact hd)
    have HD := Lib.hid hd
    have FI := Lib.hid (find_any _ s.dir nm _ H0.out.dir (by have := (DirM.valid_now HI.out.dirs).few; omega))
    have e0 : fv s.dir.now nm = node s nm := rfl
    rw [e0] at FI
    obtain ⟨⟨A0, n0, c0, f0⟩, ⟨A1, n1, c1, f1⟩, ⟨A2, n2, c2, f2⟩⟩ := H0.out.dir.form
    have KX := Lib.hid H0.out.box
    obtain ⟨room, N0, S0, V0, mm, last, ops, trip, stop, dn⟩ := r
    dsimp only at f0 f1 f2 KX HD
    subst f0 f1 f2
    clear AT AU hd DN H0 e0
    go_enter Tryz.func51, Tryz.ntmps51
    go_wp2_with fail
    refine AV.out.mono ?_
    rintro e w1 ⟨rfl, rfl⟩
    generalize World.alloc _ _ = w0 at *
    obtain ⟨-, x1, x2, x3, -⟩ := KX.out.cells
    dsimp only at x1 x2 x3
    have y0 := Y0.out.cell (i := 0) rfl
    have BW := Lib.hid B0.out.size
    clear AV
    go_wp2_with fail
    refine FI.out.mono ?_
    rintro e w1 ⟨rfl, hb1⟩
    have B1 := Lib.hid (B0.out.trans (hb1.mono BW.out))
    have Y1 := Lib.hid (Y0.out.later hb1)
    clear hb1 FI x1 x2 x3 y0
    cases hh : has s.dir.now nm with
    | false =>
      have HE := Lib.hid (show ∀ W, Below w.heap.size w W → KEnd N p (i + 1) (fE s nm er) (fS s nm er nf) w (.returned (.int .i64 5)) W from fun W hb => by
        rw [fE, fS, DF.out, hh]
        exact KEnd.same (HH.out _ hb) hb HN.out)
      have BZ := Lib.hid (B1.out.trans ((below_made w1 (.cells #[.int .i64 (node s nm)] 3)).mono B1.out.size))
      have HZ := Lib.hid (HE.out _ BZ.out)
      generalize node s nm = nd at *
      clear hh HE
      go_wp2_with fail
      generalize World.alloc _ _ = w5 at *
      go_ret
      exact HZ.out
    | true =>
      have NA := Lib.hid (show alive s.dir (node s nm) by
        obtain ⟨k, hk, _, hn, _⟩ := av_has hh
        unfold DiskM.node
        rw [← hn]
        exact now_alive HI.out.dirs _ (List.getElem_mem hk))
      obtain ⟨a0, d0, a1, m1, d1, a2, m2, d2, hgn, hF, hn1, hn2, hcap⟩ := (HH.out _ B1.out).node HI.out NA.out
      have GF := Lib.hid (SeesG.mk' hF hcap)
      have EF := Lib.hid (show fE s nm er = (if er = 0 then hit s else er) ∧ fS s nm er nf = (if er = 0 then (if hit s = 0 then setF s nm nf else ticked s) else s) by
        rw [fE, fS, DF.out, hh]; exact ⟨rfl, rfl⟩)
      have ES := Lib.hid (show ¬ er = 0 → ∀ W, Below w.heap.size w W → KEnd N p (i + 1) (fE s nm er) (fS s nm er nf) w (.returned (.int .i64 er)) W from fun h W hb => by
        rw [EF.out.1, EF.out.2, if_neg h, if_neg h]
        exact KEnd.same (HH.out _ hb) hb HN.out)
      have RP := Lib.hid (show er = 0 → ∀ w3 q z A B C, Below w.heap.size w w3 → SeesG w3 (.agg #[A, B, C]) nf → Blk w3 q #[A, B, C] 70 → Blk w3 w.heap.size #[.pointer (some ⟨p, 0, none⟩)] 25 → Blk w3 z #[.int .i64 (node s nm)] 3 → q ≠ p → z ≠ p →
          Calls Tryz.prog 49 #[.pointer (some ⟨p, 0, none⟩), .func (.func 81) #[] #[.pointer (some ⟨q, 0, none⟩), .pointer (some ⟨w.heap.size, 0, none⟩), .pointer (some ⟨z, 0, none⟩)]] w3 (KEnd N p (i + 1) (fE s nm er) (fS s nm er nf) w) from fun h w3 q z A B C hb hD hq hy hz hqp hzp => by
        have := alter_perf (HH.out _ (Below.refl _ _)) HI.out hi HD.out hh HNF.out hb hD hq hy hz hqp (by have := HP.out; omega) hzp
        rw [EF.out.1, EF.out.2, if_pos h, if_pos h]
        exact this)
      have CH := Lib.hid (fun W (hb : Below w1.heap.size w1 W) => HFF.out DF.out hh W _ (B1.out.trans (hb.mono B1.out.size)) (GF.out.later hb))
      have LK := Lib.hid (fun W hW => (HH.out _ B1.out).map.look (node s nm) (by omega) (by omega) W hW)
      have LM := Lib.hid (HH.out _ B1.out).map.lt
      rw [hgn] at LK
      dsimp only [Option.getD] at LK LM
      have K1 := Lib.hid (HH.out _ B1.out).box
      have ed : fl s.files (node s nm) = file s nm := rfl
      rw [ed] at CH LK GF
      generalize (file s nm).now.length = m0 at *
      have BZ := Lib.hid (below_made w1 (.cells #[.int .i64 (node s nm)] 3))
      have ZB := Lib.hid (Blk.made w1 #[.int .i64 (node s nm)] 3)
      generalize node s nm = nd at *
      unfold APost at CH
      clear hh hgn hF hn1 hn2 hcap NA EF ed GF
      go_wp2_with fail
      have HZ := Lib.hid (show p < w1.heap.size by have := HP.out; have := B1.out.size; omega)
      have Y5 := Lib.hid (Y1.out.later BZ.out)
      have K5 := Lib.hid (K1.out.later BZ.out)
      have B5 := Lib.hid (B1.out.trans (BZ.out.mono B1.out.size))
      have LL := Lib.hid (show ∀ W, Below (w1.alloc (.cells #[.int .i64 nd] 3)).heap.size (w1.alloc (.cells #[.int .i64 nd] 3)) W → (Instr.lookup 57 (.map (some mm)) (.int .i64 nd) false).run Tryz.prog W = .ok (.agg #[.slice a0 m0 d0, .slice a1 m1 d1, .slice a2 m2 d2]) W from
        fun W hB => LK.out W ((hB.block _ (Nat.lt_of_lt_of_le LM.out BZ.out.size)).trans (BZ.out.block _ LM.out)))
      have CX := Lib.hid (show ∀ W, Below (w1.alloc (.cells #[.int .i64 nd] 3)).heap.size _ W → Calls Tryz.prog f (#[.agg #[.slice a0 m0 d0, .slice a1 m1 d1, .slice a2 m2 d2]] ++ cs) W fun e W' => ∃ B0 c0 q0 B1 c1 q1 B2 c2 q2 f', e = .returned (.tuple #[.agg #[.slice B0 q0 c0, .slice B1 q1 c1, .slice B2 q2 c2], .int .i64 er]) ∧ SeesG W' (.agg #[.slice B0 q0 c0, .slice B1 q1 c1, .slice B2 q2 c2]) f' ∧ (er = 0 → f' = nf) ∧ Below W.heap.size W W' ∧ Below (w1.alloc (.cells #[.int .i64 nd] 3)).heap.size _ W' from
        fun W hB => (CH.out W (BZ.out.trans (hB.mono BZ.out.size))).mono fun e W' ⟨v, f', h1, h2, h3, h4⟩ => by
          obtain ⟨B0, c0, B1, c1, B2, c2, rfl, -⟩ := h2.1.slices
          exact ⟨_, _, _, _, _, _, _, _, _, f', h1, h2, h3, h4, hB.trans (h4.mono hB.size)⟩)
      obtain ⟨z, hz⟩ : ∃ z, z = w1.heap.size := ⟨_, rfl⟩
      rw [← hz] at ZB HZ ⊢
      clear hz
      generalize w1.alloc (.cells #[.int .i64 nd] 3) = w5 at *
      have HC := Lib.hid (show ∀ W, Below w5.heap.size w5 W → W.cell? ⟨w.heap.size, 0, none⟩ = some (.pointer (some ⟨p, 0, none⟩)) ∧ W.cell? ⟨p, 4, none⟩ = some (.map (some mm)) ∧ W.cell? ⟨z, 0, none⟩ = some (.int .i64 nd) ∧ (Instr.lookup 57 (.map (some mm)) (.int .i64 nd) false).run Tryz.prog W = .ok (.agg #[.slice a0 m0 d0, .slice a1 m1 d1, .slice a2 m2 d2]) W from
        fun W hB => ⟨(Y5.out.later hB).cell rfl, (K5.out.later hB).cells.2.2.2.2.1, (ZB.out.later hB).cell rfl, LL.out W hB⟩)
      have BW5 := Lib.hid B5.out.size
      have KD : Below w5.heap.size w5 w5.drew := below_drew _ (Nat.le_refl _)
      have KA : Below w5.heap.size w5 (w5.alloc (.cells #[.slice none 0 0, .slice none 0 0, .slice none 0 0] 70)).drew := (below_made w5 _).drew
      have GA := Lib.hid (show FBox (w5.alloc (.cells #[.slice none 0 0, .slice none 0 0, .slice none 0 0] 70)).drew w5.heap.size _ _ _ from (FBox.made w5 (.slice none 0 0) (.slice none 0 0) (.slice none 0 0)).later (below_drew _ (Nat.le_refl _)))
      obtain ⟨x0, x1, x2, x3⟩ := HC.out _ (Below.refl _ _)
      clear LK LL CH LM BZ K1 Y1
      go_region_held3 (fun W => W.cell? ⟨w.heap.size, 0, none⟩ = some (.pointer (some ⟨p, 0, none⟩)) ∧ W.cell? ⟨p, 4, none⟩ = some (.map (some mm)) ∧ W.cell? ⟨z, 0, none⟩ = some (.int .i64 nd) ∧ (Instr.lookup 57 (.map (some mm)) (.int .i64 nd) false).run Tryz.prog W = .ok (.agg #[.slice a0 m0 d0, .slice a1 m1 d1, .slice a2 m2 d2]) W)
        (first | exact HC.out _ KD | exact HC.out _ KA | exact HC.out _ k2 | exact HC.out _ (k2.alloc k2.size _) | exact HC.out _ (fset_below k2 (Nat.le_refl _) _ _ _) | exact HC.out _ (fset_below (k2.alloc k2.size _) k2.size _ _ _))
        (first
          | ((with_reducible refine (CX.out _ (by assumption)).mono ?_); rintro e w2 ⟨B0', c0', q0, B1', c1', q1, B2', c2', q2, f', rfl, s2, f2, b2, k2⟩; (try (have GX := GA.out.later b2; obtain ⟨y0, y1, y2⟩ := GX.cells; obtain ⟨z0, z1, z2⟩ := GX.soft))))
      have b3 := below_made w2 (.cells #[.slice B0' q0 c0', .slice B1' q1 c1', .slice B2' q2 c2'] 70)
      have S3 := Lib.hid (s2.later b3)
      have B3 := Lib.hid (k2.trans (b3.mono k2.size))
      have G3 := Lib.hid (FBox.made w2 (.slice B0' q0 c0') (.slice B1' q1 c1') (.slice B2' q2 c2'))
      have lq := k2.size
      have F3 := Lib.hid f2
      clear s2 b2 k2 b3 f2
      generalize w2.alloc (.cells #[.slice B0' q0 c0', .slice B1' q1 c1', .slice B2' q2 c2'] 70) = w3 at *
      generalize w2.heap.size = q at *
      rotate_left
      iterate 2
        change Exit.then _ _ _ _ (fset w2 w5.heap.size (.slice B0' q0 c0') (.slice B1' q1 c1') (.slice B2' q2 c2'))
        have S3 := Lib.hid (show SeesG (fset w2 w5.heap.size (.slice B0' q0 c0') (.slice B1' q1 c1') (.slice B2' q2 c2')) _ f' from ⟨s2.1.fset GX (.slice B0' q0 c0') (.slice B1' q1 c1') (.slice B2' q2 c2'), s2.2⟩)
        have B3 := Lib.hid (fset_below k2 (Nat.le_refl _) (.slice B0' q0 c0') (.slice B1' q1 c1') (.slice B2' q2 c2'))
        have G3 := Lib.hid (GX.set (.slice B0' q0 c0') (.slice B1' q1 c1') (.slice B2' q2 c2'))
        have F3 := Lib.hid f2
        clear s2 b2 k2 GX y0 y1 y2 z0 z1 z2 f2
        generalize fset w2 w5.heap.size (.slice B0' q0 c0') (.slice B1' q1 c1') (.slice B2' q2 c2') = w3 at *
        obtain ⟨q, hq⟩ : ∃ q, q = w5.heap.size := ⟨_, rfl⟩
        rw [← hq] at G3 ⊢
        have lq : w5.heap.size ≤ q := by omega
        clear hq
        rotate_left
      all_goals
        have Y3 := Lib.hid (Y5.out.later B3.out)
        have Z3 := Lib.hid (ZB.out.later B3.out)
        have BB := Lib.hid (B5.out.trans (B3.out.mono BW5.out))
        have HQ := Lib.hid (show q ≠ p by have := HP.out; have := BW5.out; omega)
        have HQZ := Lib.hid (show z ≠ p by have := HZ.out; omega)
        clear x0 x1 x2 x3 KD KA
        obtain ⟨x0, -⟩ := HC.out _ B3.out
        by_cases h0 : er = 0
        · have RQ := Lib.hid (RP.out h0 w3 q z _ _ _ BB.out (by have := S3.out; rw [F3.out h0] at this; exact this) G3.out Y3.out Z3.out HQ.out HQZ.out)
          have d0 : (er == 0) = true := by simpa using h0
          clear RP ES CX HC he h0
          go_wp2_with fail
          refine RQ.out.mono ?_
          rintro e w4 ⟨rfl, hk4⟩
          have HK4 := Lib.hid hk4
          clear hk4 RQ
          go_wp2_with fail
          go_ret
          exact ⟨rfl, HK4.out⟩
        · have EQ := Lib.hid (ES.out h0 w3 BB.out)
          have he' : decide (er = 0) = false := by simpa using h0
          clear RP ES CX HC he
          go_wp2_with fail
          go_ret
          exact EQ.out
end Go.Proofs.YtaklilhnikmmfaaGreat
