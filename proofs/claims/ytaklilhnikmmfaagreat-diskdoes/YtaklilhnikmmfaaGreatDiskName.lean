/-
  The walks of rename, Move and Remove.
-/
import Derived.Test.YtaklilhnikmmfaaGreatDiskAct
namespace Go.Proofs.YtaklilhnikmmfaaGreat
open Go.RowKit StrM BlockM FileM DirM DiskM

theorem KEnd.down {w W : World} {N p i k : Nat} {s : S} {r : Raw} {g : Int → Option Value} (h : Held W N p i s r k g) (hI : Inv i s) (hb : Below w.heap.size w W) (hN : N ≤ w.heap.size) :
    KEnd N p (i + 1) 9 (low s) w (.returned (.int .i64 9)) (W.setCell ⟨p, 6, none⟩ (.int .i64 (r.ops + 1))) :=
  ⟨rfl, h.low hI.fine, (Veer.of_below hb hN).set h.baseP 6 _⟩
theorem KEnd.same {w W : World} {N p i k : Nat} {s : S} {r : Raw} {g : Int → Option Value} {er : Int} (h : Held W N p i s r k g) (hb : Below w.heap.size w W) (hN : N ≤ w.heap.size) : KEnd N p (i + 1) er s w (.returned (.int .i64 er)) W :=
  ⟨rfl, CD.mono ⟨r, k, g, h⟩ (Nat.le_succ i), Veer.of_below hb hN⟩

set_option maxHeartbeats 4000000 in
set_option maxRecDepth 100000 in
theorem rename_any (N p i : Nat) (s : S) (o : O) (w : World) (h : CD N p i s w) (hI : Inv i s) (hi : i ≤ 100) (hk : ¬ o.kind = 1) :
    Calls Tryz.prog 59 #[.pointer (some ⟨p, 0, none⟩), .agg #[.int .i64 o.kind, .string o.name, .string o.dst, .int .i64 o.node]] w (KEnd N p (i + 1) (dirE s o) (dirS s o) w) := by
  obtain ⟨r, k, g, H⟩ := h
  have B0 := Lib.hid (((Below.refl w.heap.size w).alloc (Nat.le_refl _) (.cells #[.pointer (some ⟨p, 0, none⟩)] 25)).alloc (by simp) (.cells #[.int .i64 o.kind, .string o.name, .string o.dst, .int .i64 o.node] 65))
  have Y0 := Lib.hid ((Blk.made w #[.pointer (some ⟨p, 0, none⟩)] 25).later (below_made _ (.cells #[.int .i64 o.kind, .string o.name, .string o.dst, .int .i64 o.node] 65)))
  have O0 := Lib.hid (Blk.made (w.alloc (.cells #[.pointer (some ⟨p, 0, none⟩)] 25)) #[.int .i64 o.kind, .string o.name, .string o.dst, .int .i64 o.node] 65)
  have e1 : (w.alloc (.cells #[.pointer (some ⟨p, 0, none⟩)] 25)).heap.size = w.heap.size + 1 := by simp
  rw [e1] at O0
  clear e1
  have H0 := Lib.hid (H.later B0.out)
  have HP := Lib.hid (show p < w.heap.size from H.box.lt)
  have HN := Lib.hid H.baseW
  have DN := Lib.hid H.down
  have HH := Lib.hid H
  have HI := Lib.hid hI
  have HK := Lib.hid hk
  obtain ⟨q1, q2, q3, q4⟩ := H.perf hI hi
  have AT := Lib.hid (fun hd => attempt_down p r _ H0.out.box hd q1 q2)
  have AU := Lib.hid (fun hd => attempt_up p r _ H0.out.box hd)
  clear H hI q1 q2 q3 q4 hk
  cases hd : r.down with
  | true =>
    have AT := Lib.hid (AT.out hd)
    have HE := Lib.hid (show KEnd N p (i + 1) (dirE s o) (dirS s o) w (.returned (.int .i64 9)) _ from by
      have e : s.down = true := by rw [← DN.out]; exact hd
      rw [dirE, dirS, if_pos e, if_pos e]
      exact KEnd.down H0.out HI.out B0.out HN.out)
    clear AU hd
    go_enter Tryz.func59, Tryz.ntmps59
    go_wp2_with fail
    refine AT.out.mono ?_
    rintro e w1 ⟨rfl, rfl⟩
    generalize World.setCell _ ⟨p, 6, none⟩ _ = w2 at *
    go_wp2_with fail
    go_ret
    exact HE.out
  | false =>
    have AV := Lib.hid (AU.out hd)
    have DF := Lib.hid (show s.down = false by rw [← DN.out]; exact hd)
    have HD := Lib.hid hd
    have eo : opOf s o = o := by unfold opOf; rw [if_neg HK.out]
    obtain ⟨er, her⟩ : ∃ er, er = doE s.dir o := ⟨_, rfl⟩
    have ES := Lib.hid (show ¬ er = 0 → ∀ W, Below w.heap.size w W → KEnd N p (i + 1) (dirE s o) (dirS s o) w (.returned (.int .i64 er)) W from fun h W hb => by
      rw [dirE, dirS, DF.out, eo, ← her, if_neg h, if_neg h]
      exact KEnd.same (HH.out.later hb) hb HN.out)
    have RP := Lib.hid (show er = 0 → ∀ w3 q A B C, Below w.heap.size w w3 → SeesD w3 (.agg #[A, B, C]) (doD s.dir o) → Blk w3 q #[A, B, C] 32 → Blk w3 w.heap.size #[.pointer (some ⟨p, 0, none⟩)] 25 → q ≠ p →
        Calls Tryz.prog 49 #[.pointer (some ⟨p, 0, none⟩), .func (.func 84) #[] #[.pointer (some ⟨q, 0, none⟩), .pointer (some ⟨w.heap.size, 0, none⟩)]] w3 (KEnd N p (i + 1) (dirE s o) (dirS s o) w) from fun h w3 q A B C hb hD hq hy hqp => by
      have := rename_perf HH.out HI.out hi HD.out HK.out (by rw [eo, ← her]; exact h) hb (by rw [eo]; exact hD) hq hy hqp (by have := HP.out; omega)
      rw [dirE, dirS, DF.out, eo, ← her, if_pos h, if_pos h]
      simpa using this)
    obtain ⟨⟨A0, n0, c0, f0⟩, ⟨A1, n1, c1, f1⟩, ⟨A2, n2, c2, f2⟩⟩ := H0.out.dir.form
    have DO := Lib.hid (show ∀ W, Below _ _ W → Calls Tryz.prog 48 #[.agg #[.slice A0 n0 c0, .slice A1 n1 c1, .slice A2 n2 c2], .agg #[.int .i64 o.kind, .string o.name, .string o.dst, .int .i64 o.node]] W fun e W' => ∃ Z0 d0 Z1 d1 Z2 d2, e = .returned (.tuple #[.agg #[.slice Z0 (doD s.dir o).now.length d0, .slice Z1 (doD s.dir o).sure.length d1, .slice Z2 (doD s.dir o).pend.length d2], .int .i64 (doE s.dir o)]) ∧ SeesD W' (.agg #[.slice Z0 (doD s.dir o).now.length d0, .slice Z1 (doD s.dir o).sure.length d1, .slice Z2 (doD s.dir o).pend.length d2]) (doD s.dir o) ∧ Below W.heap.size W W' ∧ Below _ _ W' from
      fun W hB => (ddo_any _ s.dir o W (by rw [← f0, ← f1, ← f2]; exact (H0.out.later hB).dir) (by have := HI.out.pend; omega)).mono fun e W' ⟨v, he, hs, hb⟩ => by
        obtain ⟨Z0, d0, Z1, d1, Z2, d2, rfl, -, -, -⟩ := hs.slices
        exact ⟨Z0, d0, Z1, d1, Z2, d2, he, hs, hb, hB.trans (hb.mono hB.size)⟩)
    rw [← her] at DO
    generalize (doD s.dir o).now.length = m0 at *
    generalize (doD s.dir o).sure.length = m1 at *
    generalize (doD s.dir o).pend.length = m2 at *
    have KX := Lib.hid H0.out.box
    obtain ⟨room, N0, S0, V0, mm, last, ops, trip, stop, dn⟩ := r
    dsimp only at f0 f1 f2
    subst f0 f1 f2
    clear AT hd DN her eo H0 AU
    go_enter Tryz.func59, Tryz.ntmps59
    go_wp2_with fail
    refine AV.out.mono ?_
    rintro e w1 ⟨rfl, rfl⟩
    generalize World.alloc _ _ = w0 at *
    have BW := Lib.hid B0.out.size
    have HC := Lib.hid (show ∀ W, Below w0.heap.size w0 W → W.cell? ⟨w.heap.size, 0, none⟩ = some (.pointer (some ⟨p, 0, none⟩)) ∧ W.cell? ⟨p, 1, none⟩ = some (.slice A0 n0 c0) ∧ W.cell? ⟨p, 2, none⟩ = some (.slice A1 n1 c1) ∧ W.cell? ⟨p, 3, none⟩ = some (.slice A2 n2 c2) ∧ W.cell? ⟨w.heap.size + 1, 0, none⟩ = some (.int .i64 o.kind) ∧ W.cell? ⟨w.heap.size + 1, 1, none⟩ = some (.string o.name) ∧ W.cell? ⟨w.heap.size + 1, 2, none⟩ = some (.string o.dst) ∧ W.cell? ⟨w.heap.size + 1, 3, none⟩ = some (.int .i64 o.node) from
      fun W hB => ⟨(Y0.out.later hB).cell rfl, (KX.out.later hB).cells.2.1, (KX.out.later hB).cells.2.2.1, (KX.out.later hB).cells.2.2.2.1, (O0.out.later hB).cell rfl, (O0.out.later hB).cell rfl, (O0.out.later hB).cell rfl, (O0.out.later hB).cell rfl⟩)
    have KD : Below w0.heap.size w0 w0.drew := below_drew _ (Nat.le_refl _)
    have KA : Below w0.heap.size w0 (w0.alloc (.cells #[.slice none 0 0, .slice none 0 0, .slice none 0 0] 32)).drew := (below_made w0 _).drew
    have GA := Lib.hid (show DBox (w0.alloc (.cells #[.slice none 0 0, .slice none 0 0, .slice none 0 0] 32)).drew w0.heap.size _ _ _ from (DBox.made w0 (.slice none 0 0) (.slice none 0 0) (.slice none 0 0)).later (below_drew _ (Nat.le_refl _)))
    obtain ⟨x0, x1, x2, x3, x4, x5, x6, x7⟩ := HC.out _ (Below.refl _ _)
    go_wp2_with fail
    go_region_held3 (fun W => W.cell? ⟨w.heap.size, 0, none⟩ = some (.pointer (some ⟨p, 0, none⟩)) ∧ W.cell? ⟨p, 1, none⟩ = some (.slice A0 n0 c0) ∧ W.cell? ⟨p, 2, none⟩ = some (.slice A1 n1 c1) ∧ W.cell? ⟨p, 3, none⟩ = some (.slice A2 n2 c2) ∧ W.cell? ⟨w.heap.size + 1, 0, none⟩ = some (.int .i64 o.kind) ∧ W.cell? ⟨w.heap.size + 1, 1, none⟩ = some (.string o.name) ∧ W.cell? ⟨w.heap.size + 1, 2, none⟩ = some (.string o.dst) ∧ W.cell? ⟨w.heap.size + 1, 3, none⟩ = some (.int .i64 o.node))
      (first | exact HC.out _ KD | exact HC.out _ KA | exact HC.out _ k2 | exact HC.out _ (k2.alloc k2.size _) | exact HC.out _ (dset_below k2 (Nat.le_refl _) _ _ _) | exact HC.out _ (dset_below (k2.alloc k2.size _) k2.size _ _ _))
      (first
        | (go_at_call 48; (with_reducible refine (DO.out _ (by assumption)).mono ?_); rintro e w2 ⟨Z0, d0, Z1, d1, Z2, d2, rfl, s2, b2, k2⟩; (try (have GX := GA.out.later b2; obtain ⟨y0, y1, y2⟩ := GX.cells; obtain ⟨z0, z1, z2⟩ := GX.soft))))
    have b3 := below_made w2 (.cells #[.slice Z0 m0 d0, .slice Z1 m1 d1, .slice Z2 m2 d2] 32)
    have S3 := Lib.hid (s2.later b3)
    have B3 := Lib.hid (k2.trans (b3.mono k2.size))
    have G3 := Lib.hid (DBox.made w2 (.slice Z0 m0 d0) (.slice Z1 m1 d1) (.slice Z2 m2 d2))
    have lq := k2.size
    clear s2 b2 k2 b3
    generalize w2.alloc (.cells #[.slice Z0 m0 d0, .slice Z1 m1 d1, .slice Z2 m2 d2] 32) = w3 at *
    generalize w2.heap.size = q at *
    rotate_left
    change Exit.then _ _ _ _ (dset w2 w0.heap.size (.slice Z0 m0 d0) (.slice Z1 m1 d1) (.slice Z2 m2 d2))
    have S3 := Lib.hid (s2.dset GX (.slice Z0 m0 d0) (.slice Z1 m1 d1) (.slice Z2 m2 d2))
    have B3 := Lib.hid (dset_below k2 (Nat.le_refl _) (.slice Z0 m0 d0) (.slice Z1 m1 d1) (.slice Z2 m2 d2))
    have G3 := Lib.hid (GX.set (.slice Z0 m0 d0) (.slice Z1 m1 d1) (.slice Z2 m2 d2))
    clear s2 b2 k2 GX y0 y1 y2 z0 z1 z2
    generalize dset w2 w0.heap.size (.slice Z0 m0 d0) (.slice Z1 m1 d1) (.slice Z2 m2 d2) = w3 at *
    obtain ⟨q, hq⟩ : ∃ q, q = w0.heap.size := ⟨_, rfl⟩
    rw [← hq] at G3 ⊢
    have lq : w0.heap.size ≤ q := by omega
    clear hq
    all_goals
      have Y3 := Lib.hid (Y0.out.later B3.out)
      have BB := Lib.hid (B0.out.trans (B3.out.mono BW.out))
      have HQ := Lib.hid (show q ≠ p by have := HP.out; have := BW.out; omega)
      clear x0 x1 x2 x3 x4 x5 x6 x7 KD KA
      obtain ⟨x0, -⟩ := HC.out _ B3.out
      by_cases he : er = 0
      · have RQ := Lib.hid (RP.out he w3 q _ _ _ BB.out S3.out G3.out Y3.out HQ.out)
        subst he
        clear RP ES DO HC AV
        go_wp2_with fail
        refine RQ.out.mono ?_
        rintro e w4 ⟨rfl, hk4⟩
        have HK4 := Lib.hid hk4
        clear hk4 RQ
        go_wp2_with fail
        go_ret
        exact ⟨rfl, HK4.out⟩
      · have EQ := Lib.hid (ES.out he w3 BB.out)
        have he' : decide (er = 0) = false := by simpa using he
        clear RP ES DO HC AV
        go_wp2_with fail
        go_ret
        exact EQ.out
end Go.Proofs.YtaklilhnikmmfaaGreat
