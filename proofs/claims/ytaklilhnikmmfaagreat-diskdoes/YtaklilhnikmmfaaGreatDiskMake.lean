/-
  The walk of Create.
-/
import Derived.Test.YtaklilhnikmmfaaGreatDiskName
namespace Go.Proofs.YtaklilhnikmmfaaGreat
open Go.RowKit StrM BlockM FileM DirM DiskM

set_option maxHeartbeats 4000000 in
set_option maxRecDepth 100000 in
theorem create_any (N p i : Nat) (s : S) (nm : ByteArray) (w : World) (h : CD N p i s w) (hI : Inv i s) (hi : i ≤ 100) :
    Calls Tryz.prog 23 #[.pointer (some ⟨p, 0, none⟩), .string nm] w (KEnd N p (i + 1) (dirE s ⟨1, nm, ⟨#[]⟩, 0⟩) (dirS s ⟨1, nm, ⟨#[]⟩, 0⟩) w) := by
  obtain ⟨r, k, g, H⟩ := h
  have B0 := Lib.hid ((Below.refl w.heap.size w).alloc (Nat.le_refl _) (.cells #[.pointer (some ⟨p, 0, none⟩)] 25))
  have Y0 := Lib.hid (Blk.made w #[.pointer (some ⟨p, 0, none⟩)] 25)
  have W0 := Lib.hid (show (w.alloc (.cells #[.pointer (some ⟨p, 0, none⟩)] 25)).heap.size = w.heap.size + 1 by simp)
  have H0 := Lib.hid (H.later B0.out)
  have HP := Lib.hid (show p < w.heap.size from H.box.lt)
  have HN := Lib.hid H.baseW
  have DN := Lib.hid H.down
  have HH := Lib.hid H
  have HI := Lib.hid hI
  obtain ⟨q1, q2, q3, q4⟩ := H.perf hI hi
  have AT := Lib.hid (fun hd => attempt_down p r _ H0.out.box hd q1 q2)
  have AU := Lib.hid (fun hd => attempt_up p r _ H0.out.box hd)
  clear H hI q1 q2 q3 q4
  cases hd : r.down with
  | true =>
    have AV := Lib.hid (AT.out hd)
    have HE := Lib.hid (show KEnd N p (i + 1) (dirE s ⟨1, nm, ⟨#[]⟩, 0⟩) (dirS s ⟨1, nm, ⟨#[]⟩, 0⟩) w (.returned (.int .i64 9)) _ from by
      have e : s.down = true := by rw [← DN.out]; exact hd
      rw [dirE, dirS, if_pos e, if_pos e]
      exact KEnd.down H0.out HI.out B0.out HN.out)
    clear AU AT hd W0
    go_enter Tryz.func23, Tryz.ntmps23
    go_wp2_with fail
    refine AV.out.mono ?_
    rintro e w1 ⟨rfl, rfl⟩
    generalize World.setCell _ ⟨p, 6, none⟩ _ = w2 at *
    go_wp2_with fail
    go_ret
    exact HE.out
  | false =>
    have AV := Lib.hid (AU.out hd)
    have DF := Lib.hid (show s.down = false by rw [← DN.out]; exact hd)
    have HD := Lib.hid hd
    have l0 : 0 ≤ r.last := by rw [HH.out.last]; omega
    have l1 : r.last ≤ 1000 := by rw [HH.out.last]; have := HI.out.few; omega
    obtain ⟨o, ho⟩ : ∃ o : O, o = ⟨1, nm, ⟨#[]⟩, 0⟩ := ⟨_, rfl⟩
    obtain ⟨o', ho'⟩ : ∃ o' : O, o' = ⟨1, nm, ⟨#[]⟩, r.last + 1⟩ := ⟨_, rfl⟩
    have ok : o.kind = 1 := by rw [ho]
    have eo : opOf s o = o' := by rw [ho, ho', opOf, if_pos rfl, HH.out.last]
    rw [← ho]
    obtain ⟨er, her⟩ : ∃ er, er = doE s.dir o' := ⟨_, rfl⟩
    have ES := Lib.hid (show ¬ er = 0 → ∀ W, Below w.heap.size w W → KEnd N p (i + 1) (dirE s o) (dirS s o) w (.returned (.int .i64 er)) W from fun h W hb => by
      rw [dirE, dirS, DF.out, eo, ← her, if_neg h, if_neg h]
      exact KEnd.same (HH.out.later hb) hb HN.out)
    have RP := Lib.hid (show er = 0 → ∀ w3 q z A B C, Below w.heap.size w w3 → SeesD w3 (.agg #[A, B, C]) (doD s.dir o') → Blk w3 q #[A, B, C] 32 → Blk w3 w.heap.size #[.pointer (some ⟨p, 0, none⟩)] 25 → Blk w3 z #[.int .i64 (r.last + 1)] 3 → q ≠ p → z ≠ p →
        Calls Tryz.prog 49 #[.pointer (some ⟨p, 0, none⟩), .func (.func 50) #[] #[.pointer (some ⟨q, 0, none⟩), .pointer (some ⟨w.heap.size, 0, none⟩), .pointer (some ⟨z, 0, none⟩)]] w3 (KEnd N p (i + 1) (dirE s o) (dirS s o) w) from fun h w3 q z A B C hb hD hq hy hz hqp hzp => by
      have := create_perf HH.out HI.out hi HD.out ok (by rw [eo, ← her]; exact h) hb (by rw [eo]; exact hD) hq hy hz hqp (by have := HP.out; omega) hzp
      rw [dirE, dirS, DF.out, eo, ← her, if_pos h, if_pos h]
      simpa using this)
    obtain ⟨⟨A0, n0, c0, f0⟩, ⟨A1, n1, c1, f1⟩, ⟨A2, n2, c2, f2⟩⟩ := H0.out.dir.form
    have DO := Lib.hid (show ∀ W, Below _ _ W → Calls Tryz.prog 48 #[.agg #[.slice A0 n0 c0, .slice A1 n1 c1, .slice A2 n2 c2], .agg #[.int .i64 1, .string nm, .string ⟨#[]⟩, .int .i64 (r.last + 1)]] W fun e W' => ∃ B0 d0 B1 d1 B2 d2, e = .returned (.tuple #[.agg #[.slice B0 (doD s.dir o').now.length d0, .slice B1 (doD s.dir o').sure.length d1, .slice B2 (doD s.dir o').pend.length d2], .int .i64 (doE s.dir o')]) ∧ SeesD W' (.agg #[.slice B0 (doD s.dir o').now.length d0, .slice B1 (doD s.dir o').sure.length d1, .slice B2 (doD s.dir o').pend.length d2]) (doD s.dir o') ∧ Below W.heap.size W W' ∧ Below _ _ W' from
      fun W hB => by
        have := ddo_any (.agg #[.slice A0 n0 c0, .slice A1 n1 c1, .slice A2 n2 c2]) s.dir o' W (by rw [← f0, ← f1, ← f2]; exact (H0.out.later hB).dir) (by have := HI.out.pend; omega)
        rw [ho'] at this ⊢
        refine this.mono fun e W' ⟨v, he, hs, hb⟩ => ?_
        obtain ⟨B0, d0, B1, d1, B2, d2, rfl, -, -, -⟩ := hs.slices
        exact ⟨B0, d0, B1, d1, B2, d2, he, hs, hb, hB.trans (hb.mono hB.size)⟩)
    rw [← her] at DO
    generalize (doD s.dir o').now.length = m0 at *
    generalize (doD s.dir o').sure.length = m1 at *
    generalize (doD s.dir o').pend.length = m2 at *
    have KX := Lib.hid H0.out.box
    obtain ⟨room, N0, S0, V0, mm, last, ops, trip, stop, dn⟩ := r
    dsimp only at f0 f1 f2 l0 l1 DO RP KX HD
    subst f0 f1 f2
    clear AT hd DN her eo H0 AU ho ho' ok
    go_enter Tryz.func23, Tryz.ntmps23
    go_wp2_with fail
    refine AV.out.mono ?_
    rintro e w1 ⟨rfl, rfl⟩
    generalize World.alloc _ _ = w0 at *
    obtain ⟨-, -, -, -, -, c5, -⟩ := KX.out.cells
    dsimp only at c5
    have y0 := Y0.out.cell (i := 0) rfl
    have BW := Lib.hid B0.out.size
    have BZ := Lib.hid (below_made w0 (.cells #[.int .i64 (last + 1)] 3))
    have ZB := Lib.hid (Blk.made w0 #[.int .i64 (last + 1)] 3)
    clear AV
    go_wp2_with fail
    have HZ := Lib.hid (show p < w0.heap.size by have := HP.out; have := BW.out; omega)
    have Y5 := Lib.hid (Y0.out.later BZ.out)
    have K5 := Lib.hid (KX.out.later BZ.out)
    have B5 := Lib.hid (B0.out.trans (BZ.out.mono BW.out))
    have DX := Lib.hid (show ∀ W, Below _ _ W → _ from fun W hB => DO.out W (BZ.out.trans (hB.mono BZ.out.size)))
    have LZ := Lib.hid BZ.out.size
    obtain ⟨z, hz⟩ : ∃ z, z = w0.heap.size := ⟨_, rfl⟩
    rw [← hz] at ZB HZ LZ ⊢
    clear hz
    generalize w0.alloc (.cells #[.int .i64 (last + 1)] 3) = w5 at *
    clear c5 y0
    have HC := Lib.hid (show ∀ W, Below w5.heap.size w5 W → W.cell? ⟨w.heap.size, 0, none⟩ = some (.pointer (some ⟨p, 0, none⟩)) ∧ W.cell? ⟨p, 1, none⟩ = some (.slice A0 n0 c0) ∧ W.cell? ⟨p, 2, none⟩ = some (.slice A1 n1 c1) ∧ W.cell? ⟨p, 3, none⟩ = some (.slice A2 n2 c2) ∧ W.cell? ⟨z, 0, none⟩ = some (.int .i64 (last + 1)) from
      fun W hB => ⟨(Y5.out.later hB).cell rfl, (K5.out.later hB).cells.2.1, (K5.out.later hB).cells.2.2.1, (K5.out.later hB).cells.2.2.2.1, (ZB.out.later hB).cell rfl⟩)
    have BW5 := Lib.hid B5.out.size
    have KD : Below w5.heap.size w5 w5.drew := below_drew _ (Nat.le_refl _)
    have KA : Below w5.heap.size w5 (w5.alloc (.cells #[.slice none 0 0, .slice none 0 0, .slice none 0 0] 32)).drew := (below_made w5 _).drew
    have GA := Lib.hid (show DBox (w5.alloc (.cells #[.slice none 0 0, .slice none 0 0, .slice none 0 0] 32)).drew w5.heap.size _ _ _ from (DBox.made w5 (.slice none 0 0) (.slice none 0 0) (.slice none 0 0)).later (below_drew _ (Nat.le_refl _)))
    obtain ⟨x0, x1, x2, x3, x4⟩ := HC.out _ (Below.refl _ _)
    have DY := Lib.hid (show ∀ W, Below w5.heap.size w5 W → Calls Tryz.prog 48 #[.agg #[.slice A0 n0 c0, .slice A1 n1 c1, .slice A2 n2 c2], .agg #[.int .i64 1, .string nm, .string ⟨#[]⟩, .int .i64 (last + 1)]] W fun e W' => ∃ Z0 d0 Z1 d1 Z2 d2, e = .returned (.tuple #[.agg #[.slice Z0 m0 d0, .slice Z1 m1 d1, .slice Z2 m2 d2], .int .i64 er]) ∧ SeesD W' (.agg #[.slice Z0 m0 d0, .slice Z1 m1 d1, .slice Z2 m2 d2]) (doD s.dir o') ∧ Below W.heap.size W W' ∧ Below w5.heap.size w5 W' from
      fun W hB => (DX.out W hB).mono fun e W' ⟨Z0, d0, Z1, d1, Z2, d2, h1, h2, h3, _⟩ => ⟨Z0, d0, Z1, d1, Z2, d2, h1, h2, h3, hB.trans (h3.mono hB.size)⟩)
    clear DX DO
    go_region_held3 (fun W => W.cell? ⟨w.heap.size, 0, none⟩ = some (.pointer (some ⟨p, 0, none⟩)) ∧ W.cell? ⟨p, 1, none⟩ = some (.slice A0 n0 c0) ∧ W.cell? ⟨p, 2, none⟩ = some (.slice A1 n1 c1) ∧ W.cell? ⟨p, 3, none⟩ = some (.slice A2 n2 c2) ∧ W.cell? ⟨z, 0, none⟩ = some (.int .i64 (last + 1)))
      (first | exact HC.out _ KD | exact HC.out _ KA | exact HC.out _ k2 | exact HC.out _ (k2.alloc k2.size _) | exact HC.out _ (dset_below k2 (Nat.le_refl _) _ _ _) | exact HC.out _ (dset_below (k2.alloc k2.size _) k2.size _ _ _))
      (first
        | (go_at_call 48; (with_reducible refine (DY.out _ (by assumption)).mono ?_); rintro e w2 ⟨Z0, d0, Z1, d1, Z2, d2, rfl, s2, b2, k2⟩; (try (have GX := GA.out.later b2; obtain ⟨y0, y1, y2⟩ := GX.cells; obtain ⟨z0, z1, z2⟩ := GX.soft))))
    have b3 := below_made w2 (.cells #[.slice Z0 m0 d0, .slice Z1 m1 d1, .slice Z2 m2 d2] 32)
    have S3 := Lib.hid (s2.later b3)
    have B3 := Lib.hid (k2.trans (b3.mono k2.size))
    have G3 := Lib.hid (DBox.made w2 (.slice Z0 m0 d0) (.slice Z1 m1 d1) (.slice Z2 m2 d2))
    have lq := k2.size
    clear s2 b2 k2 b3
    generalize w2.alloc (.cells #[.slice Z0 m0 d0, .slice Z1 m1 d1, .slice Z2 m2 d2] 32) = w3 at *
    generalize w2.heap.size = q at *
    rotate_left
    change Exit.then _ _ _ _ (dset w2 w5.heap.size (.slice Z0 m0 d0) (.slice Z1 m1 d1) (.slice Z2 m2 d2))
    have S3 := Lib.hid (s2.dset GX (.slice Z0 m0 d0) (.slice Z1 m1 d1) (.slice Z2 m2 d2))
    have B3 := Lib.hid (dset_below k2 (Nat.le_refl _) (.slice Z0 m0 d0) (.slice Z1 m1 d1) (.slice Z2 m2 d2))
    have G3 := Lib.hid (GX.set (.slice Z0 m0 d0) (.slice Z1 m1 d1) (.slice Z2 m2 d2))
    clear s2 b2 k2 GX y0 y1 y2 z0 z1 z2
    generalize dset w2 w5.heap.size (.slice Z0 m0 d0) (.slice Z1 m1 d1) (.slice Z2 m2 d2) = w3 at *
    obtain ⟨q, hq⟩ : ∃ q, q = w5.heap.size := ⟨_, rfl⟩
    rw [← hq] at G3 ⊢
    have lq : w5.heap.size ≤ q := by omega
    clear hq
    all_goals
      have Y3 := Lib.hid (Y5.out.later B3.out)
      have Z3 := Lib.hid (ZB.out.later B3.out)
      have BB := Lib.hid (B5.out.trans (B3.out.mono BW5.out))
      have HQ := Lib.hid (show q ≠ p by have := HP.out; have := BW5.out; omega)
      have HQZ := Lib.hid (show z ≠ p by have := HZ.out; omega)
      clear x0 x1 x2 x3 x4 KD KA
      obtain ⟨x0, -⟩ := HC.out _ B3.out
      by_cases he : er = 0
      · have RQ := Lib.hid (RP.out he w3 q z _ _ _ BB.out S3.out G3.out Y3.out Z3.out HQ.out HQZ.out)
        subst he
        clear RP ES DY HC
        go_wp2_with fail
        refine RQ.out.mono ?_
        rintro e w4 ⟨rfl, hk4⟩
        have HK4 := Lib.hid hk4
        clear hk4 RQ
        go_wp2_with fail
        go_ret
        exact ⟨rfl, HK4.out⟩
      · have EQ := Lib.hid (ES.out he w3 BB.out)
        have he' : decide (er = 0) = false := by simpa using he
        clear RP ES DY HC
        go_wp2_with fail
        go_ret
        exact EQ.out
end Go.Proofs.YtaklilhnikmmfaaGreat
