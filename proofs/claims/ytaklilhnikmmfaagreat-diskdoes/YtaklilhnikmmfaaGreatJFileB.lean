/-
  Joined: FileRight FileCopies FileWrite FileSync FileSame.
-/
import Derived.Test.YtaklilhnikmmfaaGreatJFileA
import Derived.Laws.OwnMore
import Derived.Test.YtaklilhnikmmfaaGreatJBlock
/-
  The walks of file.Right and of the reference's Right.
-/
namespace Go.Proofs.YtaklilhnikmmfaaGreat
open Go.RowKit StrM BlockM FileM

/-- A file that is not too great for the walks. -/
structure Sz (f : Fl) : Prop where
  now : f.now.length ≤ 100000
  sure : f.sure.length ≤ 100000
  pend : f.pend.length ≤ 900000
  places : ∀ x ∈ f.pend, x.p ≤ 9223372036854775807

set_option maxHeartbeats 2000000 in
set_option maxRecDepth 100000 in
theorem fright_any (v : Value) (f : Fl) (w : World) (hs : SeesF w v f) (hz : Sz f) : Calls Tryz.prog 74 #[v] w fun e w' => e = .returned (.bool (valid f)) ∧ Below w.heap.size w w' := by
  obtain ⟨A0, c0, A1, c1, A2, c2, rfl, h0, h1, h2⟩ := hs.slices
  have SP := Lib.hid (fun W (hb : Below w.heap.size w W) => spoiled_any _ f.pend W (h2.later hb) hz.places (by have := hz.pend; omega))
  have LA := Lib.hid (fun W (hb : Below w.heap.size w W) => lay_any A1 f.sure.length c1 f.sure _ f.pend W rfl hz.sure (h1.later hb) (h2.later hb) hz.places (by have := hz.pend; omega))
  have EQ := Lib.hid (fun W v2 (hb : Below w.heap.size w W) (h : SeesV W v2 (bys (lay f.sure f.pend))) => equal_any _ v2 f.now (lay f.sure f.pend) W (h0.later hb) h)
  have V1 := Lib.hid (valid_long (f := f))
  have V2 := Lib.hid (valid_bad (f := f))
  have V3 := Lib.hid (valid_eq (f := f))
  generalize decide (f.now = lay f.sure f.pend) = eq at *
  unfold LayPost at LA
  generalize lay f.sure f.pend = L at *
  generalize f.pend.all ok = good at *
  generalize f.now.length = n0 at *
  generalize f.sure.length = n1 at *
  generalize f.pend.length = n2 at *
  generalize valid f = va at *
  have X0 := Lib.hid (FBox.made w (.slice A0 n0 c0) (.slice A1 n1 c1) (.slice A2 n2 c2))
  have B0 := Lib.hid (below_made w (.cells #[.slice A0 n0 c0, .slice A1 n1 c1, .slice A2 n2 c2] 70))
  clear hs h0 h1 h2 hz
  by_cases hl : n1 ≤ 65536
  · have hl' : decide ((65536 : Int) < (n1 : Int)) = false := by simp; omega
    have V3' := Lib.hid (V3.out hl)
    clear hl
    go_enter Tryz.func74, Tryz.ntmps74
    go_wp2_with fail
    refine (SP.out _ B0.out).mono ?_
    rintro e w1 ⟨rfl, hb⟩
    have B1 := Lib.hid (B0.out.trans (hb.mono B0.out.size))
    have X1 := Lib.hid (X0.out.later hb)
    clear hb
    cases good with
    | false =>
      have HV := Lib.hid (V2.out rfl)
      clear V1 V2 V3 V3'
      go_wp2_with fail
      go_ret
      exact ⟨ret_bool HV.out.symm, B1.out⟩
    | true =>
      have HV := Lib.hid (V3'.out rfl)
      obtain ⟨x0, x1, x2⟩ := X1.out.cells
      have BD := Lib.hid B1.out.drew
      have XD := Lib.hid (X1.out.later (below_drew _ (Nat.le_refl _)))
      clear V1 V2 V3 V3'
      go_wp2_with fail
      go_region_held3 (fun W => W.cell? ⟨w.heap.size, 0, none⟩ = some (.slice A0 n0 c0) ∧ W.cell? ⟨w.heap.size, 1, none⟩ = some (.slice A1 n1 c1) ∧ W.cell? ⟨w.heap.size, 2, none⟩ = some (.slice A2 n2 c2))
        (first | go_keep | exact XD.out.cells | exact hX.cells)
        (first
          | (go_at_call 76; with_reducible refine (LA.out _ BD.out).mono ?_; rintro e w2 ⟨v2, rfl, s2, b2⟩; have hX := XD.out.later b2; have hB := BD.out.trans (b2.mono BD.out.size))
          | (go_at_call 98; with_reducible refine (EQ.out _ _ hB s2).mono ?_; rintro e w3 ⟨rfl, rfl⟩))
      all_goals
        have B2 := Lib.hid hB
        clear hB hX b2 s2
        go_wp2_with fail
        go_ret
        exact ⟨ret_bool HV.out, B2.out⟩
  · have hl' : (65536 : Int) < (n1 : Int) := by omega
    have HV := Lib.hid (V1.out hl)
    clear hl V1 V2 V3
    go_enter Tryz.func74, Tryz.ntmps74
    go_wp2_with fail
    go_ret
    exact ⟨ret_bool HV.out.symm, B0.out⟩

set_option maxHeartbeats 4000000 in
set_option maxRecDepth 100000 in
theorem rfright_any (v : Value) (f : Fl) (w : World) (hs : SeesF w v f) (hz : Sz f) : Calls Tryz.prog 87 #[v] w fun e w' => e = .returned (.bool (valid f)) ∧ Below w.heap.size w w' := by
  obtain ⟨A0, c0, A1, c1, A2, c2, rfl, h0, h1, h2⟩ := hs.slices
  have HS := Lib.hid (fun W (hb : Below w.heap.size w W) => h2.later hb)
  have LA := Lib.hid (fun W (hb : Below w.heap.size w W) => rlay_any A1 f.sure.length c1 f.sure _ f.pend W rfl hz.sure (h1.later hb) (h2.later hb) hz.places (by have := hz.pend; omega))
  have TN := Lib.hid (fun W (hb : Below w.heap.size w W) => run_text_sees (h0.later hb))
  have V1 := Lib.hid (valid_long (f := f))
  have V2 := Lib.hid (valid_bad (f := f))
  have V3 := Lib.hid (valid_eq (f := f))
  have HPP := Lib.hid hz.places
  obtain ⟨n0, hn0⟩ : ∃ n, n = f.now.length := ⟨_, rfl⟩
  obtain ⟨n1, hn1⟩ : ∃ n, n = f.sure.length := ⟨_, rfl⟩
  obtain ⟨n2, hn2⟩ : ∃ n, n = f.pend.length := ⟨_, rfl⟩
  have HN2 := Lib.hid hn2
  have hm2 : n2 ≤ 900000 := by rw [hn2]; exact hz.pend
  rw [← hn0] at TN ⊢
  rw [← hn1] at LA V1 V3 ⊢
  rw [← hn2] at LA HS ⊢
  have X0 := Lib.hid (FBox.made w (.slice A0 n0 c0) (.slice A1 n1 c1) (.slice A2 n2 c2))
  have B0 := Lib.hid (below_made w (.cells #[.slice A0 n0 c0, .slice A1 n1 c1, .slice A2 n2 c2] 70))
  clear hs h0 h1 h2 hz hn0 hn1 hn2
  unfold LayPost at LA
  go_enter Tryz.func87, Tryz.ntmps87
  go_wp2_with fail
  go_loopw [3] (fun i wr => ∃ k : Nat, k ≤ n2 ∧ i = .int .i64 (k : Int) ∧ (f.pend.take k).all ok = true ∧ Below (w.heap.size + 1) (w.alloc (.cells #[.slice A0 n0 c0, .slice A1 n1 c1, .slice A2 n2 c2] 70)) wr) (fun i _ => n2 - (intOf i).toNat)
  case atStart => exact ⟨0, Nat.zero_le _, rfl, rfl, Below.refl _ _⟩
  case round =>
    obtain ⟨k, hk, rfl, hall, hB⟩ := hrel
    have hB' : Below (w.alloc (.cells #[.slice A0 n0 c0, .slice A1 n1 c1, .slice A2 n2 c2] 70)).heap.size (w.alloc (.cells #[.slice A0 n0 c0, .slice A1 n1 c1, .slice A2 n2 c2] 70)) wr := by simpa using hB
    have HA := Lib.hid hall
    have HB := Lib.hid hB'
    have B1 := Lib.hid (B0.out.trans (hB'.mono B0.out.size))
    have X1 := Lib.hid (X0.out.later hB')
    obtain ⟨x0, x1, x2⟩ := X1.out.cells
    clear hall hB hB'
    by_cases hlt : k < n2
    · have hkl : k < f.pend.length := by rw [← HN2.out]; exact hlt
      have hs2 := HS.out _ B1.out
      obtain ⟨g, off, A3, bc, rfl, hg, hc1, hc2, -⟩ := hs2.cells hkl
      have hpk := HPP.out _ (List.getElem_mem hkl)
      have hoe := ok_eq f.pend[k]
      have hnext : ok f.pend[k] = true → (f.pend.take (k + 1)).all ok = true := by
        intro h
        rw [List.take_succ_eq_append_getElem hkl, List.all_append, HA.out]; simp [h]
      have hbad : ok f.pend[k] = false → f.pend.all ok = false := by
        intro h
        rw [List.all_eq_false]
        exact ⟨_, List.getElem_mem hkl, by simp [h]⟩
      generalize f.pend[k] = u at *
      obtain ⟨p, b⟩ := u
      simp only at hc1 hc2 hpk hoe
      obtain ⟨bl, hbl⟩ : ∃ bl, bl = b.length := ⟨_, rfl⟩
      rw [← hbl] at hc2 hoe
      have LI := Lib.hid (fun w => rbright_any p A3 bl bc w hpk)
      rw [← hoe] at LI
      clear hs2
      cases ho : ok ⟨p, b⟩ with
      | false =>
        rw [ho] at LI
        have HX := Lib.hid (V2.out (hbad ho))
        clear hnext hbad hoe hbl ho hpk
        go_wp2_with fail
        refine (LI.out _).mono ?_
        rintro e w2 ⟨rfl, hb⟩
        have B2 := Lib.hid (B1.out.trans (hb.mono B1.out.size))
        clear hb
        go_wp2_with fail
        go_ret
        exact ⟨ret_bool HX.out.symm, B2.out⟩
      | true =>
        rw [ho] at LI
        have HX := Lib.hid (hnext ho)
        clear hnext hbad hoe hbl ho hpk
        go_wp2_with fail
        refine (LI.out _).mono ?_
        rintro e w2 ⟨rfl, hb⟩
        have B2 := Lib.hid (HB.out.trans (hb.mono HB.out.size))
        clear hb
        go_wp2_with fail
        go_roundw
        case rel => exact ⟨k + 1, by omega, by go_num, HX.out, by simpa using B2.out⟩
        case measure => simp [intOf]; omega
    · have HX := Lib.hid (show f.pend.all ok = true by
        have h := HA.out
        rw [List.take_of_length_le (by rw [← HN2.out]; omega)] at h
        exact h)
      have BD := Lib.hid B1.out.drew
      have XD := Lib.hid (X1.out.later (below_drew _ (Nat.le_refl _)))
      by_cases hl : n1 ≤ 65536
      · have hl' : decide ((n1 : Int) ≤ 65536) = true := by simp; omega
        have hl3 : decide (n1 ≤ 65536) = true := by simpa using hl
        have hl2 : (n1 : Int) ≤ 65536 := by omega
        have HV := Lib.hid (V3.out hl HX.out)
        clear V1 V2 V3 hl
        by_cases he : f.now = lay f.sure f.pend
        · rw [decide_eq_true he] at HV
          obtain ⟨SN, hSN⟩ : ∃ s : ByteArray, s = ⟨f.now.toArray⟩ := ⟨_, rfl⟩
          have TD := Lib.hid (show ∀ W, Below w.heap.size w W → (convert 38 9 (.slice A0 n0 c0)).run Tryz.prog W = .ok (.string SN) W from fun W hb => by rw [hSN]; exact TN.out W hb)
          have HSL := Lib.hid (show (⟨(lay f.sure f.pend).toArray⟩ : ByteArray) = SN by rw [hSN, he])
          clear hSN he TN
          go_wp2_with fail
          refine wp_region_held_drew (S := fun W => (convert 38 9 (.slice A0 n0 c0)).run Tryz.prog W = .ok (.string SN) W ∧ W.cell? ⟨w.heap.size, 0, none⟩ = some (.slice A0 n0 c0) ∧ W.cell? ⟨w.heap.size, 1, none⟩ = some (.slice A1 n1 c1) ∧ W.cell? ⟨w.heap.size, 2, none⟩ = some (.slice A2 n2 c2)) (by kernel_rfl) ⟨TD.out _ BD.out, XD.out.cells⟩ (fun hHeld => ?_)
          refine wpAnyH_take (i := 0) (oi := ⟨some 18, _, _, _, _, _⟩) (v := .pointer (some ⟨w.heap.size, 1, none⟩)) rfl (by kernel_rfl) (by kernel_rfl) (by kernel_rfl) (fun _ _ _ h => h) (Or.inl ⟨by rfl, ?_⟩) (by assumption) ?_
          · intro W hSw
            try dsimp only at hSw
            go_simp
          try simp only [Act.put, List.setIfInBounds_toArray, List.set_cons_zero, List.set_cons_succ]
          refine wpAnyH_take (i := 1) (oi := ⟨some 19, _, _, _, _, _⟩) (v := .slice A1 n1 c1) rfl (by kernel_rfl) (by kernel_rfl) (by kernel_rfl) (fun _ _ _ h => h) (Or.inl ⟨by rfl, ?_⟩) (by assumption) ?_
          · intro W hSw
            try dsimp only at hSw
            go_simp
          try simp only [Act.put, List.setIfInBounds_toArray, List.set_cons_zero, List.set_cons_succ]
          refine wpAnyH_take (i := 2) (oi := ⟨some 20, _, _, _, _, _⟩) (v := .int .i64 (n1 : Int)) rfl (by kernel_rfl) (by kernel_rfl) (by kernel_rfl) (fun _ _ _ h => h) (Or.inl ⟨by rfl, ?_⟩) (by assumption) ?_
          · intro W hSw
            try dsimp only at hSw
            go_simp
          try simp only [Act.put, List.setIfInBounds_toArray, List.set_cons_zero, List.set_cons_succ]
          refine wpAnyH_take (i := 3) (oi := ⟨some 21, _, _, _, _, _⟩) (v := .bool true) rfl (by kernel_rfl) (by kernel_rfl) (by kernel_rfl) (fun _ _ _ h => h) (Or.inl ⟨by rfl, ?_⟩) (by assumption) ?_
          · intro W hSw
            try dsimp only at hSw
            go_simp
          try simp only [Act.put, List.setIfInBounds_toArray, List.set_cons_zero, List.set_cons_succ]
          refine wpAnyH_take (i := 4) (oi := ⟨some 22, _, _, _, _, _⟩) (v := .bool true) rfl (by kernel_rfl) (by kernel_rfl) (by kernel_rfl) (fun _ _ _ h => h) (Or.inl ⟨by rfl, ?_⟩) (by assumption) ?_
          · intro W hSw
            try dsimp only at hSw
            go_simp
          try simp only [Act.put, List.setIfInBounds_toArray, List.set_cons_zero, List.set_cons_succ]
          refine wpAnyH_take (i := 5) (oi := ⟨some 23, _, _, _, _, _⟩) (v := .pointer (some ⟨w.heap.size, 0, none⟩)) rfl (by kernel_rfl) (by kernel_rfl) (by kernel_rfl) (fun _ _ _ h => h) (Or.inl ⟨by rfl, ?_⟩) (by assumption) ?_
          · intro W hSw
            try dsimp only at hSw
            go_simp
          try simp only [Act.put, List.setIfInBounds_toArray, List.set_cons_zero, List.set_cons_succ]
          refine wpAnyH_take (i := 6) (oi := ⟨some 24, _, _, _, _, _⟩) (v := .slice A0 n0 c0) rfl (by kernel_rfl) (by kernel_rfl) (by kernel_rfl) (fun _ _ _ h => h) (Or.inl ⟨by rfl, ?_⟩) (by assumption) ?_
          · intro W hSw
            try dsimp only at hSw
            go_simp
          try simp only [Act.put, List.setIfInBounds_toArray, List.set_cons_zero, List.set_cons_succ]
          refine wpAnyH_take (i := 7) (oi := ⟨some 25, _, _, _, _, _⟩) (v := .string SN) rfl (by kernel_rfl) (by kernel_rfl) (by kernel_rfl) (fun _ _ _ h => h) (Or.inl ⟨by rfl, ?_⟩) (by assumption) ?_
          · intro W hSw
            try dsimp only at hSw
            go_simp
          try simp only [Act.put, List.setIfInBounds_toArray, List.set_cons_zero, List.set_cons_succ]
          refine wpAnyH_take (i := 8) (oi := ⟨some 26, _, _, _, _, _⟩) (v := .pointer (some ⟨w.heap.size, 1, none⟩)) rfl (by kernel_rfl) (by kernel_rfl) (by kernel_rfl) (fun _ _ _ h => h) (Or.inl ⟨by rfl, ?_⟩) (by assumption) ?_
          · intro W hSw
            try dsimp only at hSw
            go_simp
          try simp only [Act.put, List.setIfInBounds_toArray, List.set_cons_zero, List.set_cons_succ]
          refine wpAnyH_take (i := 9) (oi := ⟨some 27, _, _, _, _, _⟩) (v := .slice A1 n1 c1) rfl (by kernel_rfl) (by kernel_rfl) (by kernel_rfl) (fun _ _ _ h => h) (Or.inl ⟨by rfl, ?_⟩) (by assumption) ?_
          · intro W hSw
            try dsimp only at hSw
            go_simp
          try simp only [Act.put, List.setIfInBounds_toArray, List.set_cons_zero, List.set_cons_succ]
          refine wpAnyH_take (i := 10) (oi := ⟨some 28, _, _, _, _, _⟩) (v := .pointer (some ⟨w.heap.size, 2, none⟩)) rfl (by kernel_rfl) (by kernel_rfl) (by kernel_rfl) (fun _ _ _ h => h) (Or.inl ⟨by rfl, ?_⟩) (by assumption) ?_
          · intro W hSw
            try dsimp only at hSw
            go_simp
          try simp only [Act.put, List.setIfInBounds_toArray, List.set_cons_zero, List.set_cons_succ]
          refine wpAnyH_take (i := 11) (oi := ⟨some 29, _, _, _, _, _⟩) (v := .slice A2 n2 c2) rfl (by kernel_rfl) (by kernel_rfl) (by kernel_rfl) (fun _ _ _ h => h) (Or.inl ⟨by rfl, ?_⟩) (by assumption) ?_
          · intro W hSw
            try dsimp only at hSw
            go_simp
          try simp only [Act.put, List.setIfInBounds_toArray, List.set_cons_zero, List.set_cons_succ]
          refine wpAnyH_ready (rs := [12]) (by kernel_rfl) (by simp) ?_
          refine AllReadyH.cons (o := ⟨some 30, _, _, _, _, _⟩) rfl (fun K hK => ?_) AllReadyH.nil
          go_simp
          refine (LA.out _ BD.out).mono ?_
          rintro e w2 ⟨v2, rfl, s2, b2⟩
          have X2 := Lib.hid (XD.out.later b2)
          have B2 := Lib.hid (BD.out.trans (b2.mono BD.out.size))
          have tl := run_text_sees s2
          rw [HSL.out] at tl
          refine hK.out _ _ ⟨TD.out _ B2.out, X2.out.cells⟩ (fun hHeld => ?_)
          clear hK K s2 b2
          try simp only [Act.put, List.setIfInBounds_toArray, List.set_cons_zero, List.set_cons_succ]
          refine wpAnyH_ready (rs := [13]) (by kernel_rfl) (by simp) ?_
          refine AllReadyH.cons (o := ⟨some 31, _, _, _, _, _⟩) rfl (fun K hK => ?_) AllReadyH.nil
          go_simp
          refine hK.out _ _ ⟨TD.out _ B2.out, X2.out.cells⟩ (fun hHeld => ?_)
          clear hK K tl
          try simp only [Act.put, List.setIfInBounds_toArray, List.set_cons_zero, List.set_cons_succ]
          refine wpAnyH_take (i := 14) (oi := ⟨some 32, _, _, _, _, _⟩) (v := .bool true) rfl (by kernel_rfl) (by kernel_rfl) (by kernel_rfl) (fun _ _ _ h => h) (Or.inl ⟨by rfl, ?_⟩) (by assumption) ?_
          · intro W hSw
            try dsimp only at hSw
            go_simp
          try simp only [Act.put, List.setIfInBounds_toArray, List.set_cons_zero, List.set_cons_succ]
          refine wpAnyH_take (i := 15) (oi := ⟨some 33, _, _, _, _, _⟩) (v := .bool true) rfl (by kernel_rfl) (by kernel_rfl) (by kernel_rfl) (fun _ _ _ h => h) (Or.inl ⟨by rfl, ?_⟩) (by assumption) ?_
          · intro W hSw
            try dsimp only at hSw
            go_simp
          try simp only [Act.put, List.setIfInBounds_toArray, List.set_cons_zero, List.set_cons_succ]
          refine wpAnyH_take (i := 16) (oi := ⟨some 2, _, _, _, _, _⟩) (v := .bool true) rfl (by kernel_rfl) (by kernel_rfl) (by kernel_rfl) (fun _ _ _ h => h) (Or.inl ⟨by rfl, ?_⟩) (by assumption) ?_
          · intro W hSw
            try dsimp only at hSw
            go_simp
          try simp only [Act.put, List.setIfInBounds_toArray, List.set_cons_zero, List.set_cons_succ]
          refine wpAnyH_done (by kernel_rfl) ?_ _
          go_wp2_with fail
          go_ret
          exact ⟨ret_bool HV.out, B2.out⟩
        · rw [decide_eq_false he] at HV
          have hne := bytes_ne he
          obtain ⟨SN, hSN⟩ : ∃ s : ByteArray, s = ⟨f.now.toArray⟩ := ⟨_, rfl⟩
          obtain ⟨SL, hSL⟩ : ∃ s : ByteArray, s = ⟨(lay f.sure f.pend).toArray⟩ := ⟨_, rfl⟩
          have TD := Lib.hid (show ∀ W, Below w.heap.size w W → (convert 38 9 (.slice A0 n0 c0)).run Tryz.prog W = .ok (.string SN) W from fun W hb => by rw [hSN]; exact TN.out W hb)
          have HSL := Lib.hid hSL.symm
          rw [← hSN, ← hSL] at hne
          clear hSN hSL he TN
          go_wp2_with fail
          refine wp_region_held_drew (S := fun W => (convert 38 9 (.slice A0 n0 c0)).run Tryz.prog W = .ok (.string SN) W ∧ W.cell? ⟨w.heap.size, 0, none⟩ = some (.slice A0 n0 c0) ∧ W.cell? ⟨w.heap.size, 1, none⟩ = some (.slice A1 n1 c1) ∧ W.cell? ⟨w.heap.size, 2, none⟩ = some (.slice A2 n2 c2)) (by kernel_rfl) ⟨TD.out _ BD.out, XD.out.cells⟩ (fun hHeld => ?_)
          refine wpAnyH_take (i := 0) (oi := ⟨some 18, _, _, _, _, _⟩) (v := .pointer (some ⟨w.heap.size, 1, none⟩)) rfl (by kernel_rfl) (by kernel_rfl) (by kernel_rfl) (fun _ _ _ h => h) (Or.inl ⟨by rfl, ?_⟩) (by assumption) ?_
          · intro W hSw
            try dsimp only at hSw
            go_simp
          try simp only [Act.put, List.setIfInBounds_toArray, List.set_cons_zero, List.set_cons_succ]
          refine wpAnyH_take (i := 1) (oi := ⟨some 19, _, _, _, _, _⟩) (v := .slice A1 n1 c1) rfl (by kernel_rfl) (by kernel_rfl) (by kernel_rfl) (fun _ _ _ h => h) (Or.inl ⟨by rfl, ?_⟩) (by assumption) ?_
          · intro W hSw
            try dsimp only at hSw
            go_simp
          try simp only [Act.put, List.setIfInBounds_toArray, List.set_cons_zero, List.set_cons_succ]
          refine wpAnyH_take (i := 2) (oi := ⟨some 20, _, _, _, _, _⟩) (v := .int .i64 (n1 : Int)) rfl (by kernel_rfl) (by kernel_rfl) (by kernel_rfl) (fun _ _ _ h => h) (Or.inl ⟨by rfl, ?_⟩) (by assumption) ?_
          · intro W hSw
            try dsimp only at hSw
            go_simp
          try simp only [Act.put, List.setIfInBounds_toArray, List.set_cons_zero, List.set_cons_succ]
          refine wpAnyH_take (i := 3) (oi := ⟨some 21, _, _, _, _, _⟩) (v := .bool true) rfl (by kernel_rfl) (by kernel_rfl) (by kernel_rfl) (fun _ _ _ h => h) (Or.inl ⟨by rfl, ?_⟩) (by assumption) ?_
          · intro W hSw
            try dsimp only at hSw
            go_simp
          try simp only [Act.put, List.setIfInBounds_toArray, List.set_cons_zero, List.set_cons_succ]
          refine wpAnyH_take (i := 4) (oi := ⟨some 22, _, _, _, _, _⟩) (v := .bool true) rfl (by kernel_rfl) (by kernel_rfl) (by kernel_rfl) (fun _ _ _ h => h) (Or.inl ⟨by rfl, ?_⟩) (by assumption) ?_
          · intro W hSw
            try dsimp only at hSw
            go_simp
          try simp only [Act.put, List.setIfInBounds_toArray, List.set_cons_zero, List.set_cons_succ]
          refine wpAnyH_take (i := 5) (oi := ⟨some 23, _, _, _, _, _⟩) (v := .pointer (some ⟨w.heap.size, 0, none⟩)) rfl (by kernel_rfl) (by kernel_rfl) (by kernel_rfl) (fun _ _ _ h => h) (Or.inl ⟨by rfl, ?_⟩) (by assumption) ?_
          · intro W hSw
            try dsimp only at hSw
            go_simp
          try simp only [Act.put, List.setIfInBounds_toArray, List.set_cons_zero, List.set_cons_succ]
          refine wpAnyH_take (i := 6) (oi := ⟨some 24, _, _, _, _, _⟩) (v := .slice A0 n0 c0) rfl (by kernel_rfl) (by kernel_rfl) (by kernel_rfl) (fun _ _ _ h => h) (Or.inl ⟨by rfl, ?_⟩) (by assumption) ?_
          · intro W hSw
            try dsimp only at hSw
            go_simp
          try simp only [Act.put, List.setIfInBounds_toArray, List.set_cons_zero, List.set_cons_succ]
          refine wpAnyH_take (i := 7) (oi := ⟨some 25, _, _, _, _, _⟩) (v := .string SN) rfl (by kernel_rfl) (by kernel_rfl) (by kernel_rfl) (fun _ _ _ h => h) (Or.inl ⟨by rfl, ?_⟩) (by assumption) ?_
          · intro W hSw
            try dsimp only at hSw
            go_simp
          try simp only [Act.put, List.setIfInBounds_toArray, List.set_cons_zero, List.set_cons_succ]
          refine wpAnyH_take (i := 8) (oi := ⟨some 26, _, _, _, _, _⟩) (v := .pointer (some ⟨w.heap.size, 1, none⟩)) rfl (by kernel_rfl) (by kernel_rfl) (by kernel_rfl) (fun _ _ _ h => h) (Or.inl ⟨by rfl, ?_⟩) (by assumption) ?_
          · intro W hSw
            try dsimp only at hSw
            go_simp
          try simp only [Act.put, List.setIfInBounds_toArray, List.set_cons_zero, List.set_cons_succ]
          refine wpAnyH_take (i := 9) (oi := ⟨some 27, _, _, _, _, _⟩) (v := .slice A1 n1 c1) rfl (by kernel_rfl) (by kernel_rfl) (by kernel_rfl) (fun _ _ _ h => h) (Or.inl ⟨by rfl, ?_⟩) (by assumption) ?_
          · intro W hSw
            try dsimp only at hSw
            go_simp
          try simp only [Act.put, List.setIfInBounds_toArray, List.set_cons_zero, List.set_cons_succ]
          refine wpAnyH_take (i := 10) (oi := ⟨some 28, _, _, _, _, _⟩) (v := .pointer (some ⟨w.heap.size, 2, none⟩)) rfl (by kernel_rfl) (by kernel_rfl) (by kernel_rfl) (fun _ _ _ h => h) (Or.inl ⟨by rfl, ?_⟩) (by assumption) ?_
          · intro W hSw
            try dsimp only at hSw
            go_simp
          try simp only [Act.put, List.setIfInBounds_toArray, List.set_cons_zero, List.set_cons_succ]
          refine wpAnyH_take (i := 11) (oi := ⟨some 29, _, _, _, _, _⟩) (v := .slice A2 n2 c2) rfl (by kernel_rfl) (by kernel_rfl) (by kernel_rfl) (fun _ _ _ h => h) (Or.inl ⟨by rfl, ?_⟩) (by assumption) ?_
          · intro W hSw
            try dsimp only at hSw
            go_simp
          try simp only [Act.put, List.setIfInBounds_toArray, List.set_cons_zero, List.set_cons_succ]
          refine wpAnyH_ready (rs := [12]) (by kernel_rfl) (by simp) ?_
          refine AllReadyH.cons (o := ⟨some 30, _, _, _, _, _⟩) rfl (fun K hK => ?_) AllReadyH.nil
          go_simp
          refine (LA.out _ BD.out).mono ?_
          rintro e w2 ⟨v2, rfl, s2, b2⟩
          have X2 := Lib.hid (XD.out.later b2)
          have B2 := Lib.hid (BD.out.trans (b2.mono BD.out.size))
          have tl := run_text_sees s2
          rw [HSL.out] at tl
          refine hK.out _ _ ⟨TD.out _ B2.out, X2.out.cells⟩ (fun hHeld => ?_)
          clear hK K s2 b2
          try simp only [Act.put, List.setIfInBounds_toArray, List.set_cons_zero, List.set_cons_succ]
          refine wpAnyH_ready (rs := [13]) (by kernel_rfl) (by simp) ?_
          refine AllReadyH.cons (o := ⟨some 31, _, _, _, _, _⟩) rfl (fun K hK => ?_) AllReadyH.nil
          go_simp
          refine hK.out _ _ ⟨TD.out _ B2.out, X2.out.cells⟩ (fun hHeld => ?_)
          clear hK K tl
          try simp only [Act.put, List.setIfInBounds_toArray, List.set_cons_zero, List.set_cons_succ]
          refine wpAnyH_take (i := 14) (oi := ⟨some 32, _, _, _, _, _⟩) (v := .bool false) rfl (by kernel_rfl) (by kernel_rfl) (by kernel_rfl) (fun _ _ _ h => h) (Or.inl ⟨by rfl, ?_⟩) (by assumption) ?_
          · intro W hSw
            try dsimp only at hSw
            go_simp
          try simp only [Act.put, List.setIfInBounds_toArray, List.set_cons_zero, List.set_cons_succ]
          refine wpAnyH_take (i := 15) (oi := ⟨some 33, _, _, _, _, _⟩) (v := .bool false) rfl (by kernel_rfl) (by kernel_rfl) (by kernel_rfl) (fun _ _ _ h => h) (Or.inl ⟨by rfl, ?_⟩) (by assumption) ?_
          · intro W hSw
            try dsimp only at hSw
            go_simp
          try simp only [Act.put, List.setIfInBounds_toArray, List.set_cons_zero, List.set_cons_succ]
          refine wpAnyH_take (i := 16) (oi := ⟨some 2, _, _, _, _, _⟩) (v := .bool false) rfl (by kernel_rfl) (by kernel_rfl) (by kernel_rfl) (fun _ _ _ h => h) (Or.inl ⟨by rfl, ?_⟩) (by assumption) ?_
          · intro W hSw
            try dsimp only at hSw
            go_simp
          try simp only [Act.put, List.setIfInBounds_toArray, List.set_cons_zero, List.set_cons_succ]
          refine wpAnyH_done (by kernel_rfl) ?_ _
          go_wp2_with fail
          go_ret
          exact ⟨ret_bool HV.out, B2.out⟩
      · have hl' : decide ((n1 : Int) ≤ 65536) = false := by simp; omega
        have hl3 : decide (n1 ≤ 65536) = false := by simpa using hl
        have HV := Lib.hid (V1.out hl)
        clear V1 V2 V3 hl
        go_wp2_with fail
        refine wp_region_held_drew (S := fun W => W.cell? ⟨w.heap.size, 0, none⟩ = some (.slice A0 n0 c0) ∧ W.cell? ⟨w.heap.size, 1, none⟩ = some (.slice A1 n1 c1) ∧ W.cell? ⟨w.heap.size, 2, none⟩ = some (.slice A2 n2 c2)) (by kernel_rfl) XD.out.cells (fun hHeld => ?_)
        refine wpAnyH_take (i := 0) (oi := ⟨some 18, _, _, _, _, _⟩) (v := .pointer (some ⟨w.heap.size, 1, none⟩)) rfl (by kernel_rfl) (by kernel_rfl) (by kernel_rfl) (fun _ _ _ h => h) (Or.inl ⟨by rfl, ?_⟩) (by assumption) ?_
        · intro W hSw
          try dsimp only at hSw
          go_simp
        try simp only [Act.put, List.setIfInBounds_toArray, List.set_cons_zero, List.set_cons_succ]
        refine wpAnyH_take (i := 1) (oi := ⟨some 19, _, _, _, _, _⟩) (v := .slice A1 n1 c1) rfl (by kernel_rfl) (by kernel_rfl) (by kernel_rfl) (fun _ _ _ h => h) (Or.inl ⟨by rfl, ?_⟩) (by assumption) ?_
        · intro W hSw
          try dsimp only at hSw
          go_simp
        try simp only [Act.put, List.setIfInBounds_toArray, List.set_cons_zero, List.set_cons_succ]
        refine wpAnyH_take (i := 2) (oi := ⟨some 20, _, _, _, _, _⟩) (v := .int .i64 (n1 : Int)) rfl (by kernel_rfl) (by kernel_rfl) (by kernel_rfl) (fun _ _ _ h => h) (Or.inl ⟨by rfl, ?_⟩) (by assumption) ?_
        · intro W hSw
          try dsimp only at hSw
          go_simp
        try simp only [Act.put, List.setIfInBounds_toArray, List.set_cons_zero, List.set_cons_succ]
        refine wpAnyH_take (i := 3) (oi := ⟨some 21, _, _, _, _, _⟩) (v := .bool false) rfl (by kernel_rfl) (by kernel_rfl) (by kernel_rfl) (fun _ _ _ h => h) (Or.inl ⟨by rfl, ?_⟩) (by assumption) ?_
        · intro W hSw
          try dsimp only at hSw
          go_simp
        try simp only [Act.put, List.setIfInBounds_toArray, List.set_cons_zero, List.set_cons_succ]
        refine wpAnyH_take (i := 4) (oi := ⟨some 22, _, _, _, _, _⟩) (v := .bool false) rfl (by kernel_rfl) (by kernel_rfl) (by kernel_rfl) (fun _ _ _ h => h) (Or.inl ⟨by rfl, ?_⟩) (by assumption) ?_
        · intro W hSw
          try dsimp only at hSw
          go_simp
        try simp only [Act.put, List.setIfInBounds_toArray, List.set_cons_zero, List.set_cons_succ]
        refine wpAnyH_take (i := 5) (oi := ⟨some 23, _, _, _, _, _⟩) (v := undef) rfl (by kernel_rfl) (by kernel_rfl) (by kernel_rfl) (fun _ _ _ h => h) (Or.inr ⟨by rfl, rfl⟩) (by assumption) ?_
        try simp only [Act.put, List.setIfInBounds_toArray, List.set_cons_zero, List.set_cons_succ]
        refine wpAnyH_take (i := 6) (oi := ⟨some 24, _, _, _, _, _⟩) (v := undef) rfl (by kernel_rfl) (by kernel_rfl) (by kernel_rfl) (fun _ _ _ h => h) (Or.inr ⟨by rfl, rfl⟩) (by assumption) ?_
        try simp only [Act.put, List.setIfInBounds_toArray, List.set_cons_zero, List.set_cons_succ]
        refine wpAnyH_take (i := 7) (oi := ⟨some 25, _, _, _, _, _⟩) (v := undef) rfl (by kernel_rfl) (by kernel_rfl) (by kernel_rfl) (fun _ _ _ h => h) (Or.inr ⟨by rfl, rfl⟩) (by assumption) ?_
        try simp only [Act.put, List.setIfInBounds_toArray, List.set_cons_zero, List.set_cons_succ]
        refine wpAnyH_take (i := 8) (oi := ⟨some 26, _, _, _, _, _⟩) (v := undef) rfl (by kernel_rfl) (by kernel_rfl) (by kernel_rfl) (fun _ _ _ h => h) (Or.inr ⟨by rfl, rfl⟩) (by assumption) ?_
        try simp only [Act.put, List.setIfInBounds_toArray, List.set_cons_zero, List.set_cons_succ]
        refine wpAnyH_take (i := 9) (oi := ⟨some 27, _, _, _, _, _⟩) (v := undef) rfl (by kernel_rfl) (by kernel_rfl) (by kernel_rfl) (fun _ _ _ h => h) (Or.inr ⟨by rfl, rfl⟩) (by assumption) ?_
        try simp only [Act.put, List.setIfInBounds_toArray, List.set_cons_zero, List.set_cons_succ]
        refine wpAnyH_take (i := 10) (oi := ⟨some 28, _, _, _, _, _⟩) (v := undef) rfl (by kernel_rfl) (by kernel_rfl) (by kernel_rfl) (fun _ _ _ h => h) (Or.inr ⟨by rfl, rfl⟩) (by assumption) ?_
        try simp only [Act.put, List.setIfInBounds_toArray, List.set_cons_zero, List.set_cons_succ]
        refine wpAnyH_take (i := 11) (oi := ⟨some 29, _, _, _, _, _⟩) (v := undef) rfl (by kernel_rfl) (by kernel_rfl) (by kernel_rfl) (fun _ _ _ h => h) (Or.inr ⟨by rfl, rfl⟩) (by assumption) ?_
        try simp only [Act.put, List.setIfInBounds_toArray, List.set_cons_zero, List.set_cons_succ]
        refine wpAnyH_take (i := 12) (oi := ⟨some 30, _, _, _, _, _⟩) (v := undef) rfl (by kernel_rfl) (by kernel_rfl) (by kernel_rfl) (fun _ _ _ h => h) (Or.inr ⟨by rfl, rfl⟩) (by assumption) ?_
        try simp only [Act.put, List.setIfInBounds_toArray, List.set_cons_zero, List.set_cons_succ]
        refine wpAnyH_take (i := 13) (oi := ⟨some 31, _, _, _, _, _⟩) (v := undef) rfl (by kernel_rfl) (by kernel_rfl) (by kernel_rfl) (fun _ _ _ h => h) (Or.inr ⟨by rfl, rfl⟩) (by assumption) ?_
        try simp only [Act.put, List.setIfInBounds_toArray, List.set_cons_zero, List.set_cons_succ]
        refine wpAnyH_take (i := 14) (oi := ⟨some 32, _, _, _, _, _⟩) (v := undef) rfl (by kernel_rfl) (by kernel_rfl) (by kernel_rfl) (fun _ _ _ h => h) (Or.inr ⟨by rfl, rfl⟩) (by assumption) ?_
        try simp only [Act.put, List.setIfInBounds_toArray, List.set_cons_zero, List.set_cons_succ]
        refine wpAnyH_take (i := 15) (oi := ⟨some 33, _, _, _, _, _⟩) (v := .bool false) rfl (by kernel_rfl) (by kernel_rfl) (by kernel_rfl) (fun _ _ _ h => h) (Or.inl ⟨by rfl, ?_⟩) (by assumption) ?_
        · intro W hSw
          try dsimp only at hSw
          go_simp
        try simp only [Act.put, List.setIfInBounds_toArray, List.set_cons_zero, List.set_cons_succ]
        refine wpAnyH_take (i := 16) (oi := ⟨some 2, _, _, _, _, _⟩) (v := .bool false) rfl (by kernel_rfl) (by kernel_rfl) (by kernel_rfl) (fun _ _ _ h => h) (Or.inl ⟨by rfl, ?_⟩) (by assumption) ?_
        · intro W hSw
          try dsimp only at hSw
          go_simp
        try simp only [Act.put, List.setIfInBounds_toArray, List.set_cons_zero, List.set_cons_succ]
        refine wpAnyH_done (by kernel_rfl) ?_ _
        go_wp2_with fail
        go_ret
        exact ⟨ret_bool HV.out.symm, BD.out⟩
end Go.Proofs.YtaklilhnikmmfaaGreat

/-
  The walk of file.copies.
-/
namespace Go.Proofs.YtaklilhnikmmfaaGreat
open Go.RowKit StrM BlockM FileM

/-- The zero piece. -/
def zb : PB := (⟨0, []⟩, .slice none 0 0)
theorem made_zb (n : Nat) : (madeCells #[.int .i64 0, .slice none 0 0] (n * 2)).toList = pcs (List.replicate n zb) := by
  apply List.ext_getElem?
  intro j
  by_cases hj : j < n * 2
  · have hk : j / 2 < (List.replicate n zb).length := by simp; omega
    have hp := pcs_at (List.replicate n zb) hk
    rw [List.getElem_replicate] at hp
    rcases Nat.mod_two_eq_zero_or_one j with h2 | h2
    · have e : j = j / 2 * 2 := by omega
      have h := hp.1
      rw [← e] at h
      rw [h]
      simp [madeCells, hj, h2, zb]
    · have e : j = j / 2 * 2 + 1 := by omega
      have h := hp.2
      rw [← e] at h
      rw [h]
      simp [madeCells, hj, h2, zb]
  · rw [List.getElem?_eq_none (by simp [size_madeCells]; omega), List.getElem?_eq_none (by rw [pcs_len]; simp; omega)]

theorem made_pieces (w : World) (N : Nat) (hN : N ≤ 1000000) :
    ∃ w', (Instr.makeSlice 68 (.int .i64 (N : Int)) (.int .i64 (N : Int))).run Tryz.prog w = .ok (.slice (some ⟨w.heap.size, 0, none⟩) N N) w' ∧ PRel w (.slice (some ⟨w.heap.size, 0, none⟩) N N) (List.replicate N zb) w' := by
  obtain ⟨i0, hi, hz0, hz1, hz2⟩ := info_parts pieceInfo
  obtain ⟨w', h1, h2, h3⟩ := run_make_full (P := Tryz.prog) w w.heap.size 68 113 i0 _ 2 Tryz.underlying68 hi hz0 hz1 .i64 .i64 N (by rw [hz2]; omega) (by unfold maxLen; omega) (Nat.le_refl _)
  refine ⟨w', h1, ?_, fun x hx => ?_, (Below.refl _ _).grown h3 (Nat.le_refl _) (fun k hk => by cases hk)⟩
  · rw [List.length_replicate, ← made_zb]; exact h2
  · rw [List.eq_of_mem_replicate hx]; exact World.ownsRow_nil _ _ _ _

theorem pcs_put (la r : List PB) (x u : PB) : ((pcs (la ++ x :: r)).set (la.length * 2) (.int .i64 u.1.p)).set (la.length * 2 + 1) u.2 = pcs (la ++ u :: r) := by
  rw [pcs_add, pcs_add, List.set_append_right _ _ (by rw [pcs_len]; omega), List.set_append_right _ _ (by rw [pcs_len]; omega), pcs_len, Nat.sub_self, show la.length * 2 + 1 - la.length * 2 = 1 by omega]
  rfl

/-- What stands ahead of the store of one piece whose bytes were made since. -/
structure CMid (w : World) (g n k : Nat) (la r : List PB) (x : PB) (w1 : World) : Prop where
  row : w1.ownsRow w.heap.size 113 2 (.slice (some ⟨g, 0, none⟩) n n) (la ++ x :: r).length (pcs (la ++ x :: r))
  all : ∀ y ∈ la ++ x :: r, w1.ownsRow w.heap.size 5 1 y.2 y.1.b.length (bys y.1.b)
  bel : Below w.heap.size w w1
  len : la.length = k
theorem CMid.of {w wr w1 : World} {g n k : Nat} {la r : List PB} {x : PB} (h : PRel w (.slice (some ⟨g, 0, none⟩) n n) (la ++ x :: r) wr) (hk : la.length = k) (hb : Below wr.heap.size wr w1) : CMid w g n k la r x w1 :=
  ⟨own_belowN h.1 hb, fun y hy => own_belowN (h.2.1 y hy) hb, h.2.2.trans (hb.mono h.2.2.size), hk⟩
theorem CMid.form {w w1 : World} {g n k : Nat} {la r : List PB} {x : PB} (h : CMid w g n k la r x w1) : n = (la ++ x :: r).length ∧ w.heap.size ≤ g ∧ g < w1.heap.size := by
  rcases h.row.2 with ⟨h', _⟩ | ⟨g', cap, cur, h', hb, hg, _⟩
  · cases h'
  · injection h' with h1 h2 h3
    injection h1 with h1
    injection h1 with h1 _ _
    subst h1
    exact ⟨h2, hb, (Array.getElem?_eq_some_iff.1 hg).1⟩
theorem CMid.cells {w w1 : World} {g n k : Nat} {la r : List PB} {x : PB} (h : CMid w g n k la r x w1) : w1.cell? ⟨g, k * 2, none⟩ = some (.int .i64 x.1.p) ∧ w1.cell? ⟨g, k * 2 + 1, none⟩ = some x.2 ∧ w1.frozen? ⟨g, k * 2, none⟩ = false ∧ w1.frozen? ⟨g, k * 2 + 1, none⟩ = false := by
  have hn := h.form.1
  have hrow := h.row
  have hk := h.len
  subst hk
  rw [← hn] at hrow
  have hp := pcs_at (la ++ x :: r) (k := la.length) (by simp)
  have hl : la.length < n := by rw [hn]; simp
  refine ⟨?_, ?_, hrow.frozenAt _, hrow.frozenAt _⟩
  · rw [hrow.cellAt _ (by omega)]; simpa using hp.1
  · rw [hrow.cellAt _ (by omega)]; simpa using hp.2
theorem CMid.done {w w1 : World} {g n k : Nat} {la r : List PB} {x u : PB} (h : CMid w g n k la r x w1) (hu : w1.ownsRow w.heap.size 5 1 u.2 u.1.b.length (bys u.1.b)) :
    PRel w (.slice (some ⟨g, 0, none⟩) n n) (la ++ u :: r) ((w1.setCell ⟨g, k * 2, none⟩ (.int .i64 u.1.p)).setCell ⟨g, k * 2 + 1, none⟩ u.2) := by
  obtain ⟨hn, hg, _⟩ := h.form
  have hrow := h.row
  rw [← hn] at hrow
  have hk := h.len
  obtain ⟨s1, s2⟩ := hrow.stored (k * 2) (.int .i64 u.1.p)
  obtain ⟨t1, t2⟩ := s1.stored (k * 2 + 1) u.2
  have hkeep : ∀ y : PB, w1.ownsRow w.heap.size 5 1 y.2 y.1.b.length (bys y.1.b) → ((w1.setCell ⟨g, k * 2, none⟩ (.int .i64 u.1.p)).setCell ⟨g, k * 2 + 1, none⟩ u.2).ownsRow w.heap.size 5 1 y.2 y.1.b.length (bys y.1.b) := by
    intro y hy
    have y1 := hy.kept s2 (own_diff (by decide) hrow hy)
    exact y1.kept t2 (own_diff (by decide) s1 y1)
  refine ⟨?_, fun y hy => hkeep y ?_, (h.bel.setCell hg _).setCell hg _⟩
  · rw [show (la ++ u :: r).length = n by rw [hn]; simp]
    rw [← pcs_put la r x u, hk]; exact t1
  · rcases List.mem_append.1 hy with hy | hy
    · exact h.all y (List.mem_append_left _ hy)
    · rcases List.mem_cons.1 hy with rfl | hy
      · exact hu
      · exact h.all y (List.mem_append_right _ (List.mem_cons_of_mem _ hy))

theorem set2_cell (w : World) {g q : Nat} (hne : q ≠ g) (j j' i : Nat) (u u' : Value) : ((w.setCell ⟨g, j, none⟩ u).setCell ⟨g, j', none⟩ u').cell? ⟨q, i, none⟩ = w.cell? ⟨q, i, none⟩ := by
  simp [World.cell?, World.setCell, Array.getElem?_modify, Ne.symm hne]

/-- What copies returns: a row of the call's own, with rows of bytes of the call's own. -/
def CopyPost (l : List P) (w : World) (e : Ending) (w' : World) : Prop := ∃ v la, e = .returned v ∧ la.map Prod.fst = l ∧ PRel w v la w'

end Go.Proofs.YtaklilhnikmmfaaGreat

/-
  The walk of file.Write.
-/
namespace Go.Proofs.YtaklilhnikmmfaaGreat
open Go.RowKit StrM BlockM FileM

/-- What Write returns. -/
def wrF (f : Fl) (p : Int) (b : List UInt8) : Fl := if valid f then (if pErr p b.length = 0 then wrote f (pList p b) else zf) else zf
def wrE (f : Fl) (p : Int) (n : Nat) : Int := if valid f then pErr p n else 10
theorem wrF_no {f : Fl} (h : valid f = false) (p : Int) (b : List UInt8) : wrF f p b = zf := by simp [wrF, h]
theorem wrE_no {f : Fl} (h : valid f = false) (p : Int) (n : Nat) : wrE f p n = 10 := by simp [wrE, h]
theorem wrE_ok {f : Fl} (h : valid f = true) (p : Int) (n : Nat) : wrE f p n = pErr p n := by simp [wrE, h]
theorem wrF_err {f : Fl} (h : valid f = true) {p : Int} {b : List UInt8} (he : ¬ pErr p b.length = 0) : wrF f p b = zf := by simp [wrF, h, he]
theorem wrF_ok {f : Fl} (h : valid f = true) {p : Int} {b : List UInt8} (he : pErr p b.length = 0) : wrF f p b = wrote f (pList p b) := by simp [wrF, h, he]
theorem pErr_cases (p : Int) (n : Nat) : pErr p n = 1 ∨ pErr p n = 4 ∨ pErr p n = 0 := by
  unfold pErr
  split
  · exact .inl rfl
  · split
    · exact .inr (.inl rfl)
    · exact .inr (.inr rfl)
theorem pList_ok (p : Int) (b : List UInt8) : ∀ x ∈ pList p b, ok x = true := by
  unfold pList
  split
  · intro x hx; cases hx
  · split
    · intro x hx; cases hx
    · exact pieces_ok _ _ (by omega)
theorem pList_places (p : Int) (b : List UInt8) : ∀ x ∈ pList p b, x.p ≤ 9223372036854775807 := by
  intro x hx
  obtain ⟨n, h1, _, _, _, _, h6⟩ := ok_facts (pList_ok p b x hx)
  omega
theorem pList_len (p : Int) (b : List UInt8) : (pList p b).length ≤ b.length := by
  have := pieces_len p.toNat b
  unfold pList
  split
  · simp
  · split
    · simp
    · exact this

theorem Src.later {w w' : World} {u : Value} {lb : List PB} (h : Src w u lb) (hb : Below w.heap.size w w') : Src w' u lb := by
  obtain ⟨⟨A, cap, rfl, hc⟩, hB⟩ := h
  refine ⟨⟨A, cap, rfl, ?_⟩, fun x hx => (hB x hx).later hb⟩
  rcases hc with h | ⟨ad, rfl, hc⟩
  · exact .inl h
  · refine .inr ⟨ad, rfl, fun j c hj => ?_⟩
    have h := hc j c hj
    exact (hb.cell (p := ad.add j) (World.block_lt_of_cell? w _ h)).trans h
theorem own_slice2 {w : World} {base n : Nat} {e : TypeId} {v : Value} {xs : List Value} (h : w.ownsRow base e 2 v n xs) : ∃ A cap, v = .slice A n cap := by
  rcases h.2 with ⟨rfl, rfl⟩ | ⟨g, cap, cur, rfl, _⟩
  · exact ⟨none, 0, rfl⟩
  · exact ⟨_, cap, rfl⟩

/-- What a function returns that hands back a file and a number. -/
def NPost (f : Fl) (n : Int) (w : World) (e : Ending) (w' : World) : Prop := ∃ v, e = .returned (.tuple #[v, .int .i64 n]) ∧ SeesF w' v f ∧ Below w.heap.size w w'

theorem wr_done {w3 w4 w5 w6 : World} {v2 v3 v4 v5 v6 : Value} {N S : List UInt8} {la lb : List PB} {m : Nat} (h3 : SeesV w3 v3 (bys N)) (b34 : Below w3.heap.size w3 w4) (ho4 : w4.ownsRow w3.heap.size 5 1 v4 m (bys S)) (hP : PRel w4 v5 la w5) (hs4 : Src w4 v2 lb)
    (ho6 : w6.ownsRow w4.heap.size 113 2 v6 (la.length + lb.length) (pcs (la ++ lb))) (hb6 : Below w4.heap.size w5 w6) (hst : Stays w5 w6 v5) :
    SeesF w6 (.agg #[v3, v4, v6]) ⟨N, S, la.map Prod.fst ++ lb.map Prod.fst⟩ ∧ Below w4.heap.size w4 w6 := by
  have b46 : Below w4.heap.size w4 w6 := hP.2.2.trans hb6
  refine ⟨⟨v3, v4, v6, rfl, (h3.later b34).later b46, (SeesV.of_own ho4).later b46, ?_⟩, b46⟩
  rw [← List.map_append]
  refine sees_pcs ho6 (by rw [List.length_append]) fun x hx => ?_
  rcases List.mem_append.1 hx with hx | hx
  · have hx5 := hP.2.1 x hx
    exact SeesV.of_own (own_keep hx5 hst (own_diff (by decide) hP.1 hx5))
  · exact (hs4.2 x hx).later b46

end Go.Proofs.YtaklilhnikmmfaaGreat

/-
  The walks of file.Sync and file.Crash, and of the reference's Sync.
-/
namespace Go.Proofs.YtaklilhnikmmfaaGreat
open Go.RowKit StrM BlockM FileM

set_option maxHeartbeats 2000000 in
set_option maxRecDepth 100000 in
theorem fsync_any (v : Value) (f : Fl) (w : World) (hs : SeesF w v f) (hz : Sz f) : Calls Tryz.prog 56 #[v] w (FPost (syn f) w) := by
  obtain ⟨A0, c0, A1, c1, A2, c2, rfl, h0, h1, h2⟩ := hs.slices
  have RI := Lib.hid (fun W (hb : Below w.heap.size w W) => fright_any _ f W (hs.later hb) hz)
  have SE := Lib.hid (fun W (hb : Below w.heap.size w W) => settled_any _ f.now W (h0.later hb) (by have := hz.now; omega))
  unfold FPost at SE ⊢
  generalize f.now.length = n0 at *
  generalize f.sure.length = n1 at *
  generalize f.pend.length = n2 at *
  have B0 := Lib.hid ((below_made w (.cells #[.slice A0 n0 c0, .slice A1 n1 c1, .slice A2 n2 c2] 70)).alloc (below_made w _).size (.cells #[.slice none 0 0, .slice none 0 0, .slice none 0 0] 70))
  have X0 := Lib.hid ((FBox.made w (.slice A0 n0 c0) (.slice A1 n1 c1) (.slice A2 n2 c2)).later (below_made _ (.cells #[.slice none 0 0, .slice none 0 0, .slice none 0 0] 70)))
  have Y0 := Lib.hid (show FBox _ (w.heap.size + 1) _ _ _ by simpa using FBox.made (w.alloc (.cells #[.slice A0 n0 c0, .slice A1 n1 c1, .slice A2 n2 c2] 70)) (.slice none 0 0) (.slice none 0 0) (.slice none 0 0))
  clear hs h0 h1 h2 hz
  go_enter Tryz.func56, Tryz.ntmps56
  go_wp2_with fail
  refine (RI.out _ B0.out).mono ?_
  rintro e w1 ⟨rfl, hb1⟩
  have B1 := Lib.hid (B0.out.trans (hb1.mono B0.out.size))
  have X1 := Lib.hid (X0.out.later hb1)
  have Y1 := Lib.hid (Y0.out.later hb1)
  clear hb1 X0 Y0 B0
  cases hv : valid f with
  | false =>
    have HF := Lib.hid (syn_no hv)
    obtain ⟨y0, y1, y2⟩ := Y1.out.cells
    obtain ⟨z0, z1, z2⟩ := Y1.out.soft
    have YF := Lib.hid (Y1.out.set (.slice none 0 0) (.slice none 0 0) (.slice none 0 0))
    have BF := Lib.hid (fset_below B1.out (show w.heap.size ≤ w.heap.size + 1 by omega) (.slice none 0 0) (.slice none 0 0) (.slice none 0 0))
    clear hv SE
    go_wp2_with fail
    change bodyPost _ _ _ _ _ (fset w1 (w.heap.size + 1) (.slice none 0 0) (.slice none 0 0) (.slice none 0 0))
    generalize fset w1 (w.heap.size + 1) (.slice none 0 0) (.slice none 0 0) (.slice none 0 0) = w9 at *
    obtain ⟨y0, y1, y2⟩ := YF.out.cells
    exact bodyPost_ret (by simp [results, Tryz.results56, go_sem, y0, y1, y2]; rfl) rfl ⟨_, rfl, by rw [HF.out]; exact SeesF.zero _, BF.out⟩
  | true =>
    have HF := Lib.hid (syn_ok hv)
    obtain ⟨x0, x1, x2⟩ := X1.out.cells
    clear hv
    go_wp2_with fail
    refine (SE.out _ B1.out).mono ?_
    rintro e w2 ⟨v2, rfl, s2, hb2⟩
    obtain ⟨B0, d0, B1', d1, B2', d2, rfl, -⟩ := s2.slices
    have B2 := Lib.hid (B1.out.trans (hb2.mono B1.out.size))
    have Y2 := Lib.hid (Y1.out.later hb2)
    have S2 := Lib.hid s2
    obtain ⟨y0, y1, y2⟩ := Y2.out.cells
    obtain ⟨z0, z1, z2⟩ := Y2.out.soft
    clear hb2 s2
    simp only at S2 ⊢
    generalize f.now.length = m0 at *
    generalize ([] : List P).length = m2 at *
    have YF := Lib.hid (Y2.out.set (.slice B0 m0 d0) (.slice B1' m0 d1) (.slice B2' m2 d2))
    have HF2 := Lib.hid (show SeesF (fset w2 (w.heap.size + 1) (.slice B0 m0 d0) (.slice B1' m0 d1) (.slice B2' m2 d2)) (.agg #[.slice B0 m0 d0, .slice B1' m0 d1, .slice B2' m2 d2]) (syn f) ∧ Below w.heap.size w (fset w2 (w.heap.size + 1) (.slice B0 m0 d0) (.slice B1' m0 d1) (.slice B2' m2 d2)) from
      ⟨by rw [HF.out]; exact S2.out.fset Y2.out _ _ _, fset_below B2.out (by omega) _ _ _⟩)
    go_wp2_with fail
    change bodyPost _ _ _ _ _ (fset w2 (w.heap.size + 1) (.slice B0 m0 d0) (.slice B1' m0 d1) (.slice B2' m2 d2))
    generalize fset w2 (w.heap.size + 1) (.slice B0 m0 d0) (.slice B1' m0 d1) (.slice B2' m2 d2) = w9 at *
    obtain ⟨y0, y1, y2⟩ := YF.out.cells
    exact bodyPost_ret (by simp [results, Tryz.results56, go_sem, y0, y1, y2]) rfl ⟨_, rfl, HF2.out.1, HF2.out.2⟩

set_option maxHeartbeats 2000000 in
set_option maxRecDepth 100000 in
theorem rfsync_any (v : Value) (f : Fl) (w : World) (hs : SeesF w v f) (hz : Sz f) : Calls Tryz.prog 64 #[v] w (FPost (syn f) w) := by
  obtain ⟨A0, c0, A1, c1, A2, c2, rfl, h0, h1, h2⟩ := hs.slices
  have RI := Lib.hid (fun W (hb : Below w.heap.size w W) => rfright_any _ f W (hs.later hb) hz)
  have S0 := Lib.hid h0
  unfold FPost
  generalize f.now.length = n0 at *
  generalize f.sure.length = n1 at *
  generalize f.pend.length = n2 at *
  have B0 := Lib.hid ((below_made w (.cells #[.slice A0 n0 c0, .slice A1 n1 c1, .slice A2 n2 c2] 70)).alloc (below_made w _).size (.cells #[.slice none 0 0, .slice none 0 0, .slice none 0 0] 70))
  have X0 := Lib.hid ((FBox.made w (.slice A0 n0 c0) (.slice A1 n1 c1) (.slice A2 n2 c2)).later (below_made _ (.cells #[.slice none 0 0, .slice none 0 0, .slice none 0 0] 70)))
  have Y0 := Lib.hid (show FBox _ (w.heap.size + 1) _ _ _ by simpa using FBox.made (w.alloc (.cells #[.slice A0 n0 c0, .slice A1 n1 c1, .slice A2 n2 c2] 70)) (.slice none 0 0) (.slice none 0 0) (.slice none 0 0))
  clear hs h0 h1 h2 hz
  go_enter Tryz.func64, Tryz.ntmps64
  go_wp2_with fail
  refine (RI.out _ B0.out).mono ?_
  rintro e w1 ⟨rfl, hb1⟩
  have B1 := Lib.hid (B0.out.trans (hb1.mono B0.out.size))
  have X1 := Lib.hid (X0.out.later hb1)
  have Y1 := Lib.hid (Y0.out.later hb1)
  clear hb1 X0 Y0 B0
  obtain ⟨y0, y1, y2⟩ := Y1.out.cells
  obtain ⟨z0, z1, z2⟩ := Y1.out.soft
  cases hv : valid f with
  | false =>
    have HF := Lib.hid (syn_no hv)
    have YF := Lib.hid (Y1.out.set (.slice none 0 0) (.slice none 0 0) (.slice none 0 0))
    have BF := Lib.hid (fset_below B1.out (show w.heap.size ≤ w.heap.size + 1 by omega) (.slice none 0 0) (.slice none 0 0) (.slice none 0 0))
    clear hv
    go_wp2_with fail
    change bodyPost _ _ _ _ _ (fset w1 (w.heap.size + 1) (.slice none 0 0) (.slice none 0 0) (.slice none 0 0))
    generalize fset w1 (w.heap.size + 1) (.slice none 0 0) (.slice none 0 0) (.slice none 0 0) = w9 at *
    obtain ⟨y0, y1, y2⟩ := YF.out.cells
    exact bodyPost_ret (by simp [results, Tryz.results64, go_sem, y0, y1, y2]; rfl) rfl ⟨_, rfl, by rw [HF.out]; exact SeesF.zero _, BF.out⟩
  | true =>
    have HF := Lib.hid (syn_ok hv)
    obtain ⟨x0, x1, x2⟩ := X1.out.cells
    have YF := Lib.hid (Y1.out.set (.slice A0 n0 c0) (.slice A0 n0 c0) (.slice none 0 0))
    have HF2 := Lib.hid (show SeesF (fset w1 (w.heap.size + 1) (.slice A0 n0 c0) (.slice A0 n0 c0) (.slice none 0 0)) (.agg #[.slice A0 n0 c0, .slice A0 n0 c0, .slice none 0 0]) (syn f) ∧ Below w.heap.size w (fset w1 (w.heap.size + 1) (.slice A0 n0 c0) (.slice A0 n0 c0) (.slice none 0 0)) from
      ⟨by rw [HF.out]; exact ⟨_, _, _, rfl, (S0.out.later B1.out).fset Y1.out _ _ _, (S0.out.later B1.out).fset Y1.out _ _ _, seesP_nil _⟩, fset_below B1.out (by omega) _ _ _⟩)
    clear hv
    go_wp2_with fail
    change bodyPost _ _ _ _ _ (fset w1 (w.heap.size + 1) (.slice A0 n0 c0) (.slice A0 n0 c0) (.slice none 0 0))
    generalize fset w1 (w.heap.size + 1) (.slice A0 n0 c0) (.slice A0 n0 c0) (.slice none 0 0) = w9 at *
    obtain ⟨y0, y1, y2⟩ := YF.out.cells
    exact bodyPost_ret (by simp [results, Tryz.results64, go_sem, y0, y1, y2]) rfl ⟨_, rfl, HF2.out.1, HF2.out.2⟩

set_option maxHeartbeats 4000000 in
set_option maxRecDepth 100000 in
theorem fcrash_any (v bv : Value) (f : Fl) (bs : List Bool) (w : World) (hs : SeesF w v f) (hz : Sz f) (hb : SeesV w bv (bools bs)) : Calls Tryz.prog 46 #[v, bv] w (NPost (crF f bs) (crN f : Int) w) := by
  obtain ⟨A0, c0, A1, c1, A2, c2, rfl, h0, h1, h2⟩ := hs.slices
  obtain ⟨Ab, cb, rfl, -⟩ := id hb
  rw [bools_len] at hb ⊢
  have RI := Lib.hid (fun W (hb : Below w.heap.size w W) => fright_any _ f W (hs.later hb) hz)
  have KE := Lib.hid (fun W (hB : Below w.heap.size w W) => kept_any _ _ f.pend bs W (h2.later hB) (hb.later hB) hz.pend)
  have LA := Lib.hid (fun W v2 (hB : Below w.heap.size w W) (h : SeesP W v2 (keep f.pend bs)) => lay_any A1 f.sure.length c1 f.sure v2 (keep f.pend bs) W rfl hz.sure (h1.later hB) h (fun x hx => hz.places x (keep_mem _ _ x hx)) (by have := keep_len f.pend bs; have := hz.pend; omega))
  have SE := Lib.hid (fun W v2 (hv : valid f = true) (h : SeesV W v2 (bys (crC f bs))) => settled_any v2 (crC f bs) W h (by have := crC_len hv bs; omega))
  unfold FPost at SE
  unfold PPost at KE
  unfold LayPost at LA
  rw [show lay f.sure (keep f.pend bs) = crC f bs from rfl] at LA
  unfold NPost
  generalize f.now.length = n0 at *
  generalize f.sure.length = n1 at *
  obtain ⟨n2, hn2⟩ : ∃ n, n = f.pend.length := ⟨_, rfl⟩
  rw [← hn2] at RI KE ⊢
  generalize bs.length = nb at *
  have HN2 := Lib.hid hn2
  have B0 := Lib.hid ((below_made w (.cells #[.slice A0 n0 c0, .slice A1 n1 c1, .slice A2 n2 c2] 70)).alloc (below_made w _).size (.cells #[.slice none 0 0, .slice none 0 0, .slice none 0 0] 70))
  have X0 := Lib.hid ((FBox.made w (.slice A0 n0 c0) (.slice A1 n1 c1) (.slice A2 n2 c2)).later (below_made _ (.cells #[.slice none 0 0, .slice none 0 0, .slice none 0 0] 70)))
  have Y0 := Lib.hid (show FBox _ (w.heap.size + 1) _ _ _ by simpa using FBox.made (w.alloc (.cells #[.slice A0 n0 c0, .slice A1 n1 c1, .slice A2 n2 c2] 70)) (.slice none 0 0) (.slice none 0 0) (.slice none 0 0))
  clear hs h0 h1 h2 hz hb hn2
  have VN := Lib.hid (fun h => crF_no (f := f) h bs)
  have VO := Lib.hid (fun h => crF_ok (f := f) h bs)
  have WN := Lib.hid (fun h => crN_no (f := f) h)
  have WO := Lib.hid (fun h => crN_ok (f := f) h)
  generalize crC f bs = C at *
  go_enter Tryz.func46, Tryz.ntmps46
  go_wp2_with fail
  refine (RI.out _ B0.out).mono ?_
  rintro e w1 ⟨rfl, hb1⟩
  have B1 := Lib.hid (B0.out.trans (hb1.mono B0.out.size))
  have X1 := Lib.hid (X0.out.later hb1)
  have Y1 := Lib.hid (Y0.out.later hb1)
  clear hb1 X0 Y0 B0
  cases hv : valid f with
  | false =>
    have HF := Lib.hid (VN.out hv)
    have HE := Lib.hid (WN.out hv)
    obtain ⟨y0, y1, y2⟩ := Y1.out.cells
    obtain ⟨z0, z1, z2⟩ := Y1.out.soft
    have YF := Lib.hid (Y1.out.set (.slice none 0 0) (.slice none 0 0) (.slice none 0 0))
    have BF := Lib.hid (fset_below B1.out (show w.heap.size ≤ w.heap.size + 1 by omega) (.slice none 0 0) (.slice none 0 0) (.slice none 0 0))
    clear hv SE KE LA VN VO WN WO
    go_wp2_with fail
    change bodyPost _ _ _ _ _ (fset w1 (w.heap.size + 1) (.slice none 0 0) (.slice none 0 0) (.slice none 0 0))
    generalize fset w1 (w.heap.size + 1) (.slice none 0 0) (.slice none 0 0) (.slice none 0 0) = w9 at *
    obtain ⟨y0, y1, y2⟩ := YF.out.cells
    exact bodyPost_ret (by simp [results, Tryz.results46, go_sem, y0, y1, y2]; rfl) rfl ⟨_, by rw [HE.out]; rfl, by rw [HF.out]; exact SeesF.zero _, BF.out⟩
  | true =>
    have HF := Lib.hid (VO.out hv)
    have HE := Lib.hid (show (n2 : Int) = (crN f : Int) by rw [WO.out hv, ← HN2.out])
    have SE := Lib.hid (fun W v2 h => SE.out W v2 hv h)
    obtain ⟨x0, x1, x2⟩ := X1.out.cells
    have BD := Lib.hid B1.out.drew
    have XD := Lib.hid (X1.out.later (below_drew _ (Nat.le_refl _)))
    have YD := Lib.hid (Y1.out.later (below_drew _ (Nat.le_refl _)))
    have hnq : w.heap.size ≠ w.heap.size + 1 := by omega
    clear hv VN VO WN WO
    go_wp2_with fail
    go_region_held3 (fun W => W.cell? ⟨w.heap.size, 0, none⟩ = some (.slice A0 n0 c0) ∧ W.cell? ⟨w.heap.size, 1, none⟩ = some (.slice A1 n1 c1) ∧ W.cell? ⟨w.heap.size, 2, none⟩ = some (.slice A2 n2 c2))
      (first | exact XD.out.cells | exact hX3.cells | exact hX4.cells | exact hX5.cells | exact ⟨(fset_cell hnq _ _ _).trans hX5.cells.1, (fset_cell hnq _ _ _).trans hX5.cells.2.1, (fset_cell hnq _ _ _).trans hX5.cells.2.2⟩)
      (first
        | (go_at_call 77; (with_reducible refine (KE.out _ BD.out).mono ?_); rintro e w3 ⟨v3, rfl, s3, b3⟩; obtain ⟨A3, c3, rfl, -⟩ := id s3; have hX3 := XD.out.later b3; have hB3 := BD.out.trans (b3.mono BD.out.size))
        | (go_at_call 76; (with_reducible refine (LA.out _ _ hB3 s3).mono ?_); rintro e w4 ⟨v4, rfl, s4, b4⟩; obtain ⟨A4, c4, rfl, -⟩ := id s4; have hX4 := hX3.later b4; have hB4 := hB3.trans (b4.mono hB3.size))
        | (go_at_call 75; (with_reducible refine (SE.out _ _ s4).mono ?_); rintro e w5 ⟨v5, rfl, s5, b5⟩; obtain ⟨D0, d0, D1, d1, D2, d2, rfl, -⟩ := s5.slices; have hX5 := hX4.later b5; have hB5 := hB4.trans (b5.mono hB4.size); have hY5 := ((YD.out.later b3).later b4).later b5; obtain ⟨y0, y1, y2⟩ := hY5.cells; obtain ⟨z0, z1, z2⟩ := hY5.soft))
    all_goals
      have YF := Lib.hid (hY5.set (.slice D0 C.length d0) (.slice D1 C.length d1) (.slice D2 0 d2))
      have HF2 := Lib.hid (show SeesF (fset w5 (w.heap.size + 1) (.slice D0 C.length d0) (.slice D1 C.length d1) (.slice D2 0 d2)) (.agg #[.slice D0 C.length d0, .slice D1 C.length d1, .slice D2 0 d2]) (crF f bs) ∧ Below w.heap.size w (fset w5 (w.heap.size + 1) (.slice D0 C.length d0) (.slice D1 C.length d1) (.slice D2 0 d2)) from
        ⟨by rw [HF.out]; exact s5.fset hY5 _ _ _, fset_below hB5 (by omega) _ _ _⟩)
      clear s5 b5 hX5 hB5 hY5 y0 y1 y2 z0 z1 z2 s4 b4 hX4 hB4 s3 b3 hX3 hB3
      go_wp2_with fail
      change bodyPost _ _ _ _ _ (fset w5 (w.heap.size + 1) (.slice D0 C.length d0) (.slice D1 C.length d1) (.slice D2 0 d2))
      generalize fset w5 (w.heap.size + 1) (.slice D0 C.length d0) (.slice D1 C.length d1) (.slice D2 0 d2) = w9 at *
      obtain ⟨y0, y1, y2⟩ := YF.out.cells
      exact bodyPost_ret (by simp [results, Tryz.results46, go_sem, y0, y1, y2]; rfl) rfl ⟨_, by rw [HE.out], HF2.out.1, HF2.out.2⟩
end Go.Proofs.YtaklilhnikmmfaaGreat

/-
  The walks of the reference's Same, Few and Light over files.
-/
namespace Go.Proofs.YtaklilhnikmmfaaGreat
open Go.RowKit StrM BlockM FileM

/-- What is done with a file. -/
structure Do where
  s : Bool
  p : Int
  b : List UInt8
/-- A slice of acts, read as a list. -/
def SeesA (w : World) (v : Value) (l : List Do) : Prop :=
  ∃ a cap, v = .slice a l.length cap ∧ (l = [] ∨ ∃ g off, a = some ⟨g, off, none⟩ ∧ g < w.heap.size ∧ ∀ k (hk : k < l.length), w.cell? ⟨g, off + k * 3, none⟩ = some (.bool l[k].s) ∧ w.cell? ⟨g, off + k * 3 + 1, none⟩ = some (.int .i64 l[k].p) ∧ ∃ B, w.cell? ⟨g, off + k * 3 + 2, none⟩ = some B ∧ SeesV w B (bys l[k].b))
theorem SeesA.cells {w : World} {a : Option Addr} {n cap : Nat} {l : List Do} (h : SeesA w (.slice a n cap) l) {k : Nat} (hk : k < l.length) :
    ∃ g off A bc, a = some ⟨g, off, none⟩ ∧ g < w.heap.size ∧ w.cell? ⟨g, off + k * 3, none⟩ = some (.bool l[k].s) ∧ w.cell? ⟨g, off + k * 3 + 1, none⟩ = some (.int .i64 l[k].p) ∧ w.cell? ⟨g, off + k * 3 + 2, none⟩ = some (.slice A l[k].b.length bc) ∧ SeesV w (.slice A l[k].b.length bc) (bys l[k].b) := by
  obtain ⟨a', cap', e, h⟩ := h
  injection e with e1 e2 e3
  subst e1
  rcases h with rfl | ⟨g, off, rfl, hg, hc⟩
  · simp at hk
  · obtain ⟨h1, h1', B, h2, hB⟩ := hc k hk
    obtain ⟨A, bc, rfl, -⟩ := id hB
    rw [bys_len] at h2 hB
    exact ⟨g, off, A, bc, rfl, hg, h1, h1', h2, hB⟩
theorem SeesA.later {w w' : World} {v : Value} {l : List Do} (h : SeesA w v l) (hb : Below w.heap.size w w') : SeesA w' v l := by
  obtain ⟨a, cap, rfl, h0 | ⟨g, off, rfl, hg, hc⟩⟩ := h
  · exact ⟨a, cap, rfl, .inl h0⟩
  · refine ⟨_, cap, rfl, .inr ⟨g, off, rfl, Nat.lt_of_lt_of_le hg hb.size, fun k hk => ?_⟩⟩
    obtain ⟨h1, h1', B, h2, h3⟩ := hc k hk
    exact ⟨(hb.cell (p := ⟨g, _, none⟩) hg).trans h1, (hb.cell (p := ⟨g, _, none⟩) hg).trans h1', B, (hb.cell (p := ⟨g, _, none⟩) hg).trans h2, h3.later hb⟩

end Go.Proofs.YtaklilhnikmmfaaGreat
