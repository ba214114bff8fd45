/-
  The walk of RowsPut. (laid by gen_rowslaws.py)
-/
import Derived.Test.YtahocamjihhjhaaRowsBackC
import Derived.Test.YtahocamjihhjhaaRowsRefRight
import Derived.Test.YtahocamjihhjhaaRowsRefPut
namespace Go.Proofs.Ytahocamjihhjhaa
open Go.RowKit StrM VaryM CodeM RowsM

set_option maxHeartbeats 16000000 in
set_option maxRecDepth 100000 in
theorem rput_walk (f : F) (x : X) (w : World) (hsha : x.sha.size ≤ maxLen) : Calls Try.prog 3 #[fagg f, xagg x] w fun e w' => e = .returned (.bool true) ∧ Below w.heap.size w w' := by
  have SF := Lib.hid (fun w => fshort_any f w)
  have SX := Lib.hid (fun w => xshort_any x w)
  have FR := Lib.hid (fun W => fright_any f W)
  have XR := Lib.hid (fun W => xright_any x W)
  have GR := Lib.hid (fun W => rfright_any f W)
  have YR := Lib.hid (fun W => rxright_any x hsha W)
  have FE := Lib.hid (fun W => rfrow_any f W)
  have XE := Lib.hid (fun W => rxrow_any x W)
  have FN := Lib.hid (fun W h => fput_no f W h)
  have FY := Lib.hid (fun W h => fput_yes f W h)
  have XN := Lib.hid (fun W h => xput_no x W h)
  have XY := Lib.hid (fun W h => xput_yes x W h)
  have FS := Lib.hid (fun (W : World) (u v : Value) (h1 : SeesS W u (fRow f)) (h2 : SeesS W v (fRow f)) => vsame_true u v (fRow f) W h1 h2 (by rw [fRow_len]; decide))
  have XS := Lib.hid (fun (W : World) (u v : Value) (h1 : SeesS W u (xRow x)) (h2 : SeesS W v (xRow x)) => vsame_true u v (xRow x) W h1 h2 (by rw [xRow_len]; decide))
  clear hsha
  simp only [fagg_cs, xagg_cs] at SF SX FR XR GR YR FE XE FN FY XN XY ⊢
  have K0 := Lib.hid ((below_made w (.cells (fcs f) 23)).trans ((below_made (w.alloc (.cells (fcs f) 23)) (.cells (xcs x) 25)).mono (below_made w (.cells (fcs f) 23)).size))
  have B01 := Lib.hid (heap_alloc2_old w (.cells (fcs f) 23) (.cells (xcs x) 25))
  have B02 := Lib.hid (heap_alloc2_new w (.cells (fcs f) 23) (.cells (xcs x) 25))
  have L1 := Lib.hid (loadF (show (fcs f).size = 5 from rfl) _ _ B01.out)
  go_enter Try.func3, Try.ntmps3
  go_wp2_with (refine wpList_loadg (t := 23) (x := .tmp 2) rfl rfl (.pointer (some ⟨w.heap.size, 0, none⟩)) rfl L1.out ?_)
  refine (SF.out _).mono ?_
  rintro e w2 ⟨⟨b1, rfl⟩, hb⟩
  have K3 := Lib.hid (K0.out.trans (hb.mono K0.out.size))
  have B4 := Lib.hid (keepX B01.out hb)
  have B5 := Lib.hid (keepX B02.out hb)
  clear hb
  cases b1
  case false =>
    go_wp2_with fail
    refine (rwawake_any _).mono ?_
    rintro e w6 ⟨rfl, hb⟩
    have K7 := Lib.hid (K3.out.trans (hb.mono K3.out.size))
    have B8 := Lib.hid (keepX B4.out hb)
    have B9 := Lib.hid (keepX B5.out hb)
    clear hb
    go_wp2_with fail
    go_ret
    exact ⟨rfl, K7.out⟩
  have L10 := Lib.hid (loadX (show (xcs x).size = 20 from rfl) _ _ B5.out)
  go_wp2_with (refine wpList_loadg (t := 25) (x := .tmp 3) rfl rfl (.pointer (some ⟨w.heap.size + 1, 0, none⟩)) rfl L10.out ?_)
  refine (SX.out _).mono ?_
  rintro e w11 ⟨⟨b2, rfl⟩, hb⟩
  have K12 := Lib.hid (K3.out.trans (hb.mono K3.out.size))
  have B13 := Lib.hid (keepX B4.out hb)
  have B14 := Lib.hid (keepX B5.out hb)
  clear hb
  cases b2
  case false =>
    go_wp2_with fail
    refine (rwawake_any _).mono ?_
    rintro e w15 ⟨rfl, hb⟩
    have K16 := Lib.hid (K12.out.trans (hb.mono K12.out.size))
    have B17 := Lib.hid (keepX B13.out hb)
    have B18 := Lib.hid (keepX B14.out hb)
    clear hb
    go_wp2_with fail
    go_ret
    exact ⟨rfl, K16.out⟩
  clear SF SX
  cases hf : fOk f
  · cases hx : xOk x
    · clear FE XE FS XS
      rw [hf] at FR GR
      rw [hx] at XR YR
      have L19 := Lib.hid (loadF (show (fcs f).size = 5 from rfl) _ _ B13.out)
      go_wp2_with (refine wpList_loadg (t := 23) (x := .tmp 2) rfl rfl (.pointer (some ⟨w.heap.size, 0, none⟩)) rfl L19.out ?_)
      refine (FN.out _ hf).mono ?_
      rintro e w20 ⟨rfl, hb⟩
      have K21 := Lib.hid (K12.out.trans (hb.mono K12.out.size))
      have B22 := Lib.hid (keepX B13.out hb)
      have B23 := Lib.hid (keepX B14.out hb)
      clear hb
      have L24 := Lib.hid (loadX (show (xcs x).size = 20 from rfl) _ _ B23.out)
      go_wp2_with (refine wpList_loadg (t := 25) (x := .tmp 3) rfl rfl (.pointer (some ⟨w.heap.size + 1, 0, none⟩)) rfl L24.out ?_)
      refine (XN.out _ hx).mono ?_
      rintro e w25 ⟨rfl, hb⟩
      have K26 := Lib.hid (K21.out.trans (hb.mono K21.out.size))
      have B27 := Lib.hid (keepX B22.out hb)
      have B28 := Lib.hid (keepX B23.out hb)
      clear hb
      clear hf hx FN FY XN XY
      go_wp2_with fail
      refine wp_region_held_drew (S := fun W => W.heap[w.heap.size]? = some (.cells (fcs f) 23) ∧ W.heap[w.heap.size + 1]? = some (.cells (xcs x) 25)) (by kernel_rfl) ⟨B27.out, B28.out⟩ (fun hHeld => ?_)
      have K29 := Lib.hid (K26.out.trans (show Below w.heap.size w25 w25.drew from ⟨rfl, rfl, rfl, Nat.le_refl _, fun _ _ => rfl⟩))
      have B30 := Lib.hid (show w25.drew.heap[w.heap.size]? = _ from B27.out)
      have B31 := Lib.hid (show w25.drew.heap[w.heap.size + 1]? = _ from B28.out)
      refine wpAnyH_take (i := 0) (oi := ⟨some 30, _, _, _, _, _⟩) (v := .agg (fcs f)) rfl (by kernel_rfl) (by kernel_rfl) (by kernel_rfl) (fun _ _ _ h => h) (Or.inl ⟨by rfl, ?_⟩) (by assumption) ?_
      · intro W hSw
        exact exec_loadS (t := 23) (x := .tmp 2) rfl (.pointer (some ⟨w.heap.size, 0, none⟩)) rfl (loadF (show (fcs f).size = 5 from rfl) W _ hSw.1)
      try simp only [Act.put, List.setIfInBounds_toArray, List.set_cons_zero, List.set_cons_succ]
      refine wpAnyH_take (i := 2) (oi := ⟨some 32, _, _, _, _, _⟩) (v := .agg (xcs x)) rfl (by kernel_rfl) (by kernel_rfl) (by kernel_rfl) (fun _ _ _ h => h) (Or.inl ⟨by rfl, ?_⟩) (by assumption) ?_
      · intro W hSw
        exact exec_loadS (t := 25) (x := .tmp 3) rfl (.pointer (some ⟨w.heap.size + 1, 0, none⟩)) rfl (loadX (xcs_size x) W _ hSw.2)
      try simp only [Act.put, List.setIfInBounds_toArray, List.set_cons_zero, List.set_cons_succ]
      refine wpAnyH_ready (rs := [1]) (by kernel_rfl) (by simp) ?_
      refine AllReadyH.cons (o := ⟨some 31, _, _, _, _, _⟩) rfl (fun K hK => ?_) AllReadyH.nil
      go_simp
      refine (GR.out _).mono ?_
      rintro e w32 ⟨rfl, hb⟩
      have K33 := Lib.hid (K29.out.trans (hb.mono K29.out.size))
      have B34 := Lib.hid (keepX B30.out hb)
      have B35 := Lib.hid (keepX B31.out hb)
      clear hb hHeld
      refine hK.out _ _ ⟨B34.out, B35.out⟩ (fun hHeld => ?_)
      clear hK K
      try simp only [Act.put, List.setIfInBounds_toArray, List.set_cons_zero, List.set_cons_succ]
      refine wpAnyH_ready (rs := [3]) (by kernel_rfl) (by simp) ?_
      refine AllReadyH.cons (o := ⟨some 33, _, _, _, _, _⟩) rfl (fun K hK => ?_) AllReadyH.nil
      go_simp
      refine (YR.out _).mono ?_
      rintro e w36 ⟨rfl, hb⟩
      have K37 := Lib.hid (K33.out.trans (hb.mono K33.out.size))
      have B38 := Lib.hid (keepX B34.out hb)
      have B39 := Lib.hid (keepX B35.out hb)
      clear hb hHeld
      refine hK.out _ _ ⟨B38.out, B39.out⟩ (fun hHeld => ?_)
      clear hK K
      try simp only [Act.put, List.setIfInBounds_toArray, List.set_cons_zero, List.set_cons_succ]
      refine wpAnyH_take (i := 4) (oi := ⟨some 9, _, _, _, _, _⟩) (v := .bool false) rfl (by kernel_rfl) (by kernel_rfl) (by kernel_rfl) (fun _ _ _ h => h) (Or.inl ⟨by rfl, ?_⟩) (by assumption) ?_
      · intro W hSw
        try dsimp only at hSw
        go_simp
      try simp only [Act.put, List.setIfInBounds_toArray, List.set_cons_zero, List.set_cons_succ]
      refine wpAnyH_take (i := 5) (oi := ⟨some 10, _, _, _, _, _⟩) (v := .bool false) rfl (by kernel_rfl) (by kernel_rfl) (by kernel_rfl) (fun _ _ _ h => h) (Or.inl ⟨by rfl, ?_⟩) (by assumption) ?_
      · intro W hSw
        try dsimp only at hSw
        go_simp
      try simp only [Act.put, List.setIfInBounds_toArray, List.set_cons_zero, List.set_cons_succ]
      refine wpAnyH_done (by kernel_rfl) ?_ _
      clear hHeld GR YR
      have L40 := Lib.hid (loadF (show (fcs f).size = 5 from rfl) _ _ B38.out)
      go_wp2_with (refine wpList_loadg (t := 23) (x := .tmp 2) rfl rfl (.pointer (some ⟨w.heap.size, 0, none⟩)) rfl L40.out ?_)
      refine (FR.out _).mono ?_
      rintro e w41 ⟨rfl, hb⟩
      have K42 := Lib.hid (K37.out.trans (hb.mono K37.out.size))
      have B43 := Lib.hid (keepX B38.out hb)
      have B44 := Lib.hid (keepX B39.out hb)
      clear hb
      have L45 := Lib.hid (loadX (show (xcs x).size = 20 from rfl) _ _ B44.out)
      go_wp2_with (refine wpList_loadg (t := 25) (x := .tmp 3) rfl rfl (.pointer (some ⟨w.heap.size + 1, 0, none⟩)) rfl L45.out ?_)
      refine (XR.out _).mono ?_
      rintro e w46 ⟨rfl, hb⟩
      have K47 := Lib.hid (K42.out.trans (hb.mono K42.out.size))
      have B48 := Lib.hid (keepX B43.out hb)
      have B49 := Lib.hid (keepX B44.out hb)
      clear hb
      go_wp2_with fail
      refine (rwawake_any _).mono ?_
      rintro e w50 ⟨rfl, hb⟩
      have K51 := Lib.hid (K47.out.trans (hb.mono K47.out.size))
      have B52 := Lib.hid (keepX B48.out hb)
      have B53 := Lib.hid (keepX B49.out hb)
      clear hb
      go_wp2_with fail
      go_ret
      exact ⟨rfl, K51.out⟩
    · clear FE FS
      rw [hf] at FR GR
      rw [hx] at XR YR
      have L19 := Lib.hid (loadF (show (fcs f).size = 5 from rfl) _ _ B13.out)
      go_wp2_with (refine wpList_loadg (t := 23) (x := .tmp 2) rfl rfl (.pointer (some ⟨w.heap.size, 0, none⟩)) rfl L19.out ?_)
      refine (FN.out _ hf).mono ?_
      rintro e w20 ⟨rfl, hb⟩
      have K21 := Lib.hid (K12.out.trans (hb.mono K12.out.size))
      have B22 := Lib.hid (keepX B13.out hb)
      have B23 := Lib.hid (keepX B14.out hb)
      clear hb
      have L24 := Lib.hid (loadX (show (xcs x).size = 20 from rfl) _ _ B23.out)
      go_wp2_with (refine wpList_loadg (t := 25) (x := .tmp 3) rfl rfl (.pointer (some ⟨w.heap.size + 1, 0, none⟩)) rfl L24.out ?_)
      refine (XY.out _ hx).mono ?_
      rintro e w25 ⟨aX, rfl, hsX, hb⟩
      have K26 := Lib.hid (K21.out.trans (hb.mono K21.out.size))
      have B27 := Lib.hid (keepX B22.out hb)
      have B28 := Lib.hid (keepX B23.out hb)
      have S29 := Lib.hid (hsX)
      clear hb hsX
      clear hf hx FN FY XN XY
      go_wp2_with fail
      refine wp_region_held_drew (S := fun W => W.heap[w.heap.size]? = some (.cells (fcs f) 23) ∧ W.heap[w.heap.size + 1]? = some (.cells (xcs x) 25)) (by kernel_rfl) ⟨B27.out, B28.out⟩ (fun hHeld => ?_)
      have K30 := Lib.hid (K26.out.trans (show Below w.heap.size w25 w25.drew from ⟨rfl, rfl, rfl, Nat.le_refl _, fun _ _ => rfl⟩))
      have B31 := Lib.hid (show w25.drew.heap[w.heap.size]? = _ from B27.out)
      have B32 := Lib.hid (show w25.drew.heap[w.heap.size + 1]? = _ from B28.out)
      have S33 := Lib.hid (S29.out.later (below_drew w25 (Nat.le_refl _)))
      refine wpAnyH_take (i := 0) (oi := ⟨some 30, _, _, _, _, _⟩) (v := .agg (fcs f)) rfl (by kernel_rfl) (by kernel_rfl) (by kernel_rfl) (fun _ _ _ h => h) (Or.inl ⟨by rfl, ?_⟩) (by assumption) ?_
      · intro W hSw
        exact exec_loadS (t := 23) (x := .tmp 2) rfl (.pointer (some ⟨w.heap.size, 0, none⟩)) rfl (loadF (show (fcs f).size = 5 from rfl) W _ hSw.1)
      try simp only [Act.put, List.setIfInBounds_toArray, List.set_cons_zero, List.set_cons_succ]
      refine wpAnyH_take (i := 2) (oi := ⟨some 32, _, _, _, _, _⟩) (v := .agg (xcs x)) rfl (by kernel_rfl) (by kernel_rfl) (by kernel_rfl) (fun _ _ _ h => h) (Or.inl ⟨by rfl, ?_⟩) (by assumption) ?_
      · intro W hSw
        exact exec_loadS (t := 25) (x := .tmp 3) rfl (.pointer (some ⟨w.heap.size + 1, 0, none⟩)) rfl (loadX (xcs_size x) W _ hSw.2)
      try simp only [Act.put, List.setIfInBounds_toArray, List.set_cons_zero, List.set_cons_succ]
      refine wpAnyH_ready (rs := [1]) (by kernel_rfl) (by simp) ?_
      refine AllReadyH.cons (o := ⟨some 31, _, _, _, _, _⟩) rfl (fun K hK => ?_) AllReadyH.nil
      go_simp
      refine (GR.out _).mono ?_
      rintro e w34 ⟨rfl, hb⟩
      have K35 := Lib.hid (K30.out.trans (hb.mono K30.out.size))
      have B36 := Lib.hid (keepX B31.out hb)
      have B37 := Lib.hid (keepX B32.out hb)
      have S38 := Lib.hid (S33.out.later hb)
      clear hb hHeld
      refine hK.out _ _ ⟨B36.out, B37.out⟩ (fun hHeld => ?_)
      clear hK K
      try simp only [Act.put, List.setIfInBounds_toArray, List.set_cons_zero, List.set_cons_succ]
      refine wpAnyH_ready (rs := [3]) (by kernel_rfl) (by simp) ?_
      refine AllReadyH.cons (o := ⟨some 33, _, _, _, _, _⟩) rfl (fun K hK => ?_) AllReadyH.nil
      go_simp
      refine (YR.out _).mono ?_
      rintro e w39 ⟨rfl, hb⟩
      have K40 := Lib.hid (K35.out.trans (hb.mono K35.out.size))
      have B41 := Lib.hid (keepX B36.out hb)
      have B42 := Lib.hid (keepX B37.out hb)
      have S43 := Lib.hid (S38.out.later hb)
      clear hb hHeld
      refine hK.out _ _ ⟨B41.out, B42.out⟩ (fun hHeld => ?_)
      clear hK K
      try simp only [Act.put, List.setIfInBounds_toArray, List.set_cons_zero, List.set_cons_succ]
      refine wpAnyH_take (i := 4) (oi := ⟨some 9, _, _, _, _, _⟩) (v := .bool false) rfl (by kernel_rfl) (by kernel_rfl) (by kernel_rfl) (fun _ _ _ h => h) (Or.inl ⟨by rfl, ?_⟩) (by assumption) ?_
      · intro W hSw
        try dsimp only at hSw
        go_simp
      try simp only [Act.put, List.setIfInBounds_toArray, List.set_cons_zero, List.set_cons_succ]
      refine wpAnyH_take (i := 5) (oi := ⟨some 10, _, _, _, _, _⟩) (v := .bool true) rfl (by kernel_rfl) (by kernel_rfl) (by kernel_rfl) (fun _ _ _ h => h) (Or.inl ⟨by rfl, ?_⟩) (by assumption) ?_
      · intro W hSw
        try dsimp only at hSw
        go_simp
      try simp only [Act.put, List.setIfInBounds_toArray, List.set_cons_zero, List.set_cons_succ]
      refine wpAnyH_done (by kernel_rfl) ?_ _
      clear hHeld GR YR
      have L44 := Lib.hid (loadF (show (fcs f).size = 5 from rfl) _ _ B41.out)
      go_wp2_with (refine wpList_loadg (t := 23) (x := .tmp 2) rfl rfl (.pointer (some ⟨w.heap.size, 0, none⟩)) rfl L44.out ?_)
      refine (FR.out _).mono ?_
      rintro e w45 ⟨rfl, hb⟩
      have K46 := Lib.hid (K40.out.trans (hb.mono K40.out.size))
      have B47 := Lib.hid (keepX B41.out hb)
      have B48 := Lib.hid (keepX B42.out hb)
      have S49 := Lib.hid (S43.out.later hb)
      clear hb
      have L50 := Lib.hid (loadX (show (xcs x).size = 20 from rfl) _ _ B48.out)
      go_wp2_with (refine wpList_loadg (t := 25) (x := .tmp 3) rfl rfl (.pointer (some ⟨w.heap.size + 1, 0, none⟩)) rfl L50.out ?_)
      refine (XR.out _).mono ?_
      rintro e w51 ⟨rfl, hb⟩
      have K52 := Lib.hid (K46.out.trans (hb.mono K46.out.size))
      have B53 := Lib.hid (keepX B47.out hb)
      have B54 := Lib.hid (keepX B48.out hb)
      have S55 := Lib.hid (S49.out.later hb)
      clear hb
      have L56 := Lib.hid (loadX (show (xcs x).size = 20 from rfl) _ _ B54.out)
      go_wp2_with (refine wpList_loadg (t := 25) (x := .tmp 3) rfl rfl (.pointer (some ⟨w.heap.size + 1, 0, none⟩)) rfl L56.out ?_)
      refine (XE.out _).mono ?_
      rintro e w57 ⟨aG, rfl, hsG, hb⟩
      have K58 := Lib.hid (K52.out.trans (hb.mono K52.out.size))
      have B59 := Lib.hid (keepX B53.out hb)
      have B60 := Lib.hid (keepX B54.out hb)
      have S61 := Lib.hid (S55.out.later hb)
      have S62 := Lib.hid (hsG)
      clear hb hsG
      go_wp2_with fail
      refine (XS.out _ _ _ S61.out S62.out).mono ?_
      rintro e w63 ⟨rfl, hb⟩
      have K64 := Lib.hid (K58.out.trans (hb.mono K58.out.size))
      have B65 := Lib.hid (keepX B59.out hb)
      have B66 := Lib.hid (keepX B60.out hb)
      have S67 := Lib.hid (S61.out.later hb)
      have S68 := Lib.hid (S62.out.later hb)
      clear hb
      go_wp2_with fail
      refine (rwawake_any _).mono ?_
      rintro e w69 ⟨rfl, hb⟩
      have K70 := Lib.hid (K64.out.trans (hb.mono K64.out.size))
      have B71 := Lib.hid (keepX B65.out hb)
      have B72 := Lib.hid (keepX B66.out hb)
      clear hb
      go_wp2_with fail
      go_ret
      exact ⟨rfl, K70.out⟩
  · cases hx : xOk x
    · clear XE XS
      rw [hf] at FR GR
      rw [hx] at XR YR
      have L19 := Lib.hid (loadF (show (fcs f).size = 5 from rfl) _ _ B13.out)
      go_wp2_with (refine wpList_loadg (t := 23) (x := .tmp 2) rfl rfl (.pointer (some ⟨w.heap.size, 0, none⟩)) rfl L19.out ?_)
      refine (FY.out _ hf).mono ?_
      rintro e w20 ⟨aF, rfl, hsF, hb⟩
      have K21 := Lib.hid (K12.out.trans (hb.mono K12.out.size))
      have B22 := Lib.hid (keepX B13.out hb)
      have B23 := Lib.hid (keepX B14.out hb)
      have S24 := Lib.hid (hsF)
      clear hb hsF
      have L25 := Lib.hid (loadX (show (xcs x).size = 20 from rfl) _ _ B23.out)
      go_wp2_with (refine wpList_loadg (t := 25) (x := .tmp 3) rfl rfl (.pointer (some ⟨w.heap.size + 1, 0, none⟩)) rfl L25.out ?_)
      refine (XN.out _ hx).mono ?_
      rintro e w26 ⟨rfl, hb⟩
      have K27 := Lib.hid (K21.out.trans (hb.mono K21.out.size))
      have B28 := Lib.hid (keepX B22.out hb)
      have B29 := Lib.hid (keepX B23.out hb)
      have S30 := Lib.hid (S24.out.later hb)
      clear hb
      clear hf hx FN FY XN XY
      go_wp2_with fail
      refine wp_region_held_drew (S := fun W => W.heap[w.heap.size]? = some (.cells (fcs f) 23) ∧ W.heap[w.heap.size + 1]? = some (.cells (xcs x) 25)) (by kernel_rfl) ⟨B28.out, B29.out⟩ (fun hHeld => ?_)
      have K31 := Lib.hid (K27.out.trans (show Below w.heap.size w26 w26.drew from ⟨rfl, rfl, rfl, Nat.le_refl _, fun _ _ => rfl⟩))
      have B32 := Lib.hid (show w26.drew.heap[w.heap.size]? = _ from B28.out)
      have B33 := Lib.hid (show w26.drew.heap[w.heap.size + 1]? = _ from B29.out)
      have S34 := Lib.hid (S30.out.later (below_drew w26 (Nat.le_refl _)))
      refine wpAnyH_take (i := 0) (oi := ⟨some 30, _, _, _, _, _⟩) (v := .agg (fcs f)) rfl (by kernel_rfl) (by kernel_rfl) (by kernel_rfl) (fun _ _ _ h => h) (Or.inl ⟨by rfl, ?_⟩) (by assumption) ?_
      · intro W hSw
        exact exec_loadS (t := 23) (x := .tmp 2) rfl (.pointer (some ⟨w.heap.size, 0, none⟩)) rfl (loadF (show (fcs f).size = 5 from rfl) W _ hSw.1)
      try simp only [Act.put, List.setIfInBounds_toArray, List.set_cons_zero, List.set_cons_succ]
      refine wpAnyH_take (i := 2) (oi := ⟨some 32, _, _, _, _, _⟩) (v := .agg (xcs x)) rfl (by kernel_rfl) (by kernel_rfl) (by kernel_rfl) (fun _ _ _ h => h) (Or.inl ⟨by rfl, ?_⟩) (by assumption) ?_
      · intro W hSw
        exact exec_loadS (t := 25) (x := .tmp 3) rfl (.pointer (some ⟨w.heap.size + 1, 0, none⟩)) rfl (loadX (xcs_size x) W _ hSw.2)
      try simp only [Act.put, List.setIfInBounds_toArray, List.set_cons_zero, List.set_cons_succ]
      refine wpAnyH_ready (rs := [1]) (by kernel_rfl) (by simp) ?_
      refine AllReadyH.cons (o := ⟨some 31, _, _, _, _, _⟩) rfl (fun K hK => ?_) AllReadyH.nil
      go_simp
      refine (GR.out _).mono ?_
      rintro e w35 ⟨rfl, hb⟩
      have K36 := Lib.hid (K31.out.trans (hb.mono K31.out.size))
      have B37 := Lib.hid (keepX B32.out hb)
      have B38 := Lib.hid (keepX B33.out hb)
      have S39 := Lib.hid (S34.out.later hb)
      clear hb hHeld
      refine hK.out _ _ ⟨B37.out, B38.out⟩ (fun hHeld => ?_)
      clear hK K
      try simp only [Act.put, List.setIfInBounds_toArray, List.set_cons_zero, List.set_cons_succ]
      refine wpAnyH_ready (rs := [3]) (by kernel_rfl) (by simp) ?_
      refine AllReadyH.cons (o := ⟨some 33, _, _, _, _, _⟩) rfl (fun K hK => ?_) AllReadyH.nil
      go_simp
      refine (YR.out _).mono ?_
      rintro e w40 ⟨rfl, hb⟩
      have K41 := Lib.hid (K36.out.trans (hb.mono K36.out.size))
      have B42 := Lib.hid (keepX B37.out hb)
      have B43 := Lib.hid (keepX B38.out hb)
      have S44 := Lib.hid (S39.out.later hb)
      clear hb hHeld
      refine hK.out _ _ ⟨B42.out, B43.out⟩ (fun hHeld => ?_)
      clear hK K
      try simp only [Act.put, List.setIfInBounds_toArray, List.set_cons_zero, List.set_cons_succ]
      refine wpAnyH_take (i := 4) (oi := ⟨some 9, _, _, _, _, _⟩) (v := .bool true) rfl (by kernel_rfl) (by kernel_rfl) (by kernel_rfl) (fun _ _ _ h => h) (Or.inl ⟨by rfl, ?_⟩) (by assumption) ?_
      · intro W hSw
        try dsimp only at hSw
        go_simp
      try simp only [Act.put, List.setIfInBounds_toArray, List.set_cons_zero, List.set_cons_succ]
      refine wpAnyH_take (i := 5) (oi := ⟨some 10, _, _, _, _, _⟩) (v := .bool false) rfl (by kernel_rfl) (by kernel_rfl) (by kernel_rfl) (fun _ _ _ h => h) (Or.inl ⟨by rfl, ?_⟩) (by assumption) ?_
      · intro W hSw
        try dsimp only at hSw
        go_simp
      try simp only [Act.put, List.setIfInBounds_toArray, List.set_cons_zero, List.set_cons_succ]
      refine wpAnyH_done (by kernel_rfl) ?_ _
      clear hHeld GR YR
      have L45 := Lib.hid (loadF (show (fcs f).size = 5 from rfl) _ _ B42.out)
      go_wp2_with (refine wpList_loadg (t := 23) (x := .tmp 2) rfl rfl (.pointer (some ⟨w.heap.size, 0, none⟩)) rfl L45.out ?_)
      refine (FR.out _).mono ?_
      rintro e w46 ⟨rfl, hb⟩
      have K47 := Lib.hid (K41.out.trans (hb.mono K41.out.size))
      have B48 := Lib.hid (keepX B42.out hb)
      have B49 := Lib.hid (keepX B43.out hb)
      have S50 := Lib.hid (S44.out.later hb)
      clear hb
      have L51 := Lib.hid (loadX (show (xcs x).size = 20 from rfl) _ _ B49.out)
      go_wp2_with (refine wpList_loadg (t := 25) (x := .tmp 3) rfl rfl (.pointer (some ⟨w.heap.size + 1, 0, none⟩)) rfl L51.out ?_)
      refine (XR.out _).mono ?_
      rintro e w52 ⟨rfl, hb⟩
      have K53 := Lib.hid (K47.out.trans (hb.mono K47.out.size))
      have B54 := Lib.hid (keepX B48.out hb)
      have B55 := Lib.hid (keepX B49.out hb)
      have S56 := Lib.hid (S50.out.later hb)
      clear hb
      have L57 := Lib.hid (loadF (show (fcs f).size = 5 from rfl) _ _ B54.out)
      go_wp2_with (refine wpList_loadg (t := 23) (x := .tmp 2) rfl rfl (.pointer (some ⟨w.heap.size, 0, none⟩)) rfl L57.out ?_)
      refine (FE.out _).mono ?_
      rintro e w58 ⟨aE, rfl, hsE, hb⟩
      have K59 := Lib.hid (K53.out.trans (hb.mono K53.out.size))
      have B60 := Lib.hid (keepX B54.out hb)
      have B61 := Lib.hid (keepX B55.out hb)
      have S62 := Lib.hid (S56.out.later hb)
      have S63 := Lib.hid (hsE)
      clear hb hsE
      go_wp2_with fail
      refine (FS.out _ _ _ S62.out S63.out).mono ?_
      rintro e w64 ⟨rfl, hb⟩
      have K65 := Lib.hid (K59.out.trans (hb.mono K59.out.size))
      have B66 := Lib.hid (keepX B60.out hb)
      have B67 := Lib.hid (keepX B61.out hb)
      have S68 := Lib.hid (S62.out.later hb)
      have S69 := Lib.hid (S63.out.later hb)
      clear hb
      go_wp2_with fail
      refine (rwawake_any _).mono ?_
      rintro e w70 ⟨rfl, hb⟩
      have K71 := Lib.hid (K65.out.trans (hb.mono K65.out.size))
      have B72 := Lib.hid (keepX B66.out hb)
      have B73 := Lib.hid (keepX B67.out hb)
      clear hb
      go_wp2_with fail
      go_ret
      exact ⟨rfl, K71.out⟩
    · skip
      rw [hf] at FR GR
      rw [hx] at XR YR
      have L19 := Lib.hid (loadF (show (fcs f).size = 5 from rfl) _ _ B13.out)
      go_wp2_with (refine wpList_loadg (t := 23) (x := .tmp 2) rfl rfl (.pointer (some ⟨w.heap.size, 0, none⟩)) rfl L19.out ?_)
      refine (FY.out _ hf).mono ?_
      rintro e w20 ⟨aF, rfl, hsF, hb⟩
      have K21 := Lib.hid (K12.out.trans (hb.mono K12.out.size))
      have B22 := Lib.hid (keepX B13.out hb)
      have B23 := Lib.hid (keepX B14.out hb)
      have S24 := Lib.hid (hsF)
      clear hb hsF
      have L25 := Lib.hid (loadX (show (xcs x).size = 20 from rfl) _ _ B23.out)
      go_wp2_with (refine wpList_loadg (t := 25) (x := .tmp 3) rfl rfl (.pointer (some ⟨w.heap.size + 1, 0, none⟩)) rfl L25.out ?_)
      refine (XY.out _ hx).mono ?_
      rintro e w26 ⟨aX, rfl, hsX, hb⟩
      have K27 := Lib.hid (K21.out.trans (hb.mono K21.out.size))
      have B28 := Lib.hid (keepX B22.out hb)
      have B29 := Lib.hid (keepX B23.out hb)
      have S30 := Lib.hid (S24.out.later hb)
      have S31 := Lib.hid (hsX)
      clear hb hsX
      clear hf hx FN FY XN XY
      go_wp2_with fail
      refine wp_region_held_drew (S := fun W => W.heap[w.heap.size]? = some (.cells (fcs f) 23) ∧ W.heap[w.heap.size + 1]? = some (.cells (xcs x) 25)) (by kernel_rfl) ⟨B28.out, B29.out⟩ (fun hHeld => ?_)
      have K32 := Lib.hid (K27.out.trans (show Below w.heap.size w26 w26.drew from ⟨rfl, rfl, rfl, Nat.le_refl _, fun _ _ => rfl⟩))
      have B33 := Lib.hid (show w26.drew.heap[w.heap.size]? = _ from B28.out)
      have B34 := Lib.hid (show w26.drew.heap[w.heap.size + 1]? = _ from B29.out)
      have S35 := Lib.hid (S30.out.later (below_drew w26 (Nat.le_refl _)))
      have S36 := Lib.hid (S31.out.later (below_drew w26 (Nat.le_refl _)))
      refine wpAnyH_take (i := 0) (oi := ⟨some 30, _, _, _, _, _⟩) (v := .agg (fcs f)) rfl (by kernel_rfl) (by kernel_rfl) (by kernel_rfl) (fun _ _ _ h => h) (Or.inl ⟨by rfl, ?_⟩) (by assumption) ?_
      · intro W hSw
        exact exec_loadS (t := 23) (x := .tmp 2) rfl (.pointer (some ⟨w.heap.size, 0, none⟩)) rfl (loadF (show (fcs f).size = 5 from rfl) W _ hSw.1)
      try simp only [Act.put, List.setIfInBounds_toArray, List.set_cons_zero, List.set_cons_succ]
      refine wpAnyH_take (i := 2) (oi := ⟨some 32, _, _, _, _, _⟩) (v := .agg (xcs x)) rfl (by kernel_rfl) (by kernel_rfl) (by kernel_rfl) (fun _ _ _ h => h) (Or.inl ⟨by rfl, ?_⟩) (by assumption) ?_
      · intro W hSw
        exact exec_loadS (t := 25) (x := .tmp 3) rfl (.pointer (some ⟨w.heap.size + 1, 0, none⟩)) rfl (loadX (xcs_size x) W _ hSw.2)
      try simp only [Act.put, List.setIfInBounds_toArray, List.set_cons_zero, List.set_cons_succ]
      refine wpAnyH_ready (rs := [1]) (by kernel_rfl) (by simp) ?_
      refine AllReadyH.cons (o := ⟨some 31, _, _, _, _, _⟩) rfl (fun K hK => ?_) AllReadyH.nil
      go_simp
      refine (GR.out _).mono ?_
      rintro e w37 ⟨rfl, hb⟩
      have K38 := Lib.hid (K32.out.trans (hb.mono K32.out.size))
      have B39 := Lib.hid (keepX B33.out hb)
      have B40 := Lib.hid (keepX B34.out hb)
      have S41 := Lib.hid (S35.out.later hb)
      have S42 := Lib.hid (S36.out.later hb)
      clear hb hHeld
      refine hK.out _ _ ⟨B39.out, B40.out⟩ (fun hHeld => ?_)
      clear hK K
      try simp only [Act.put, List.setIfInBounds_toArray, List.set_cons_zero, List.set_cons_succ]
      refine wpAnyH_ready (rs := [3]) (by kernel_rfl) (by simp) ?_
      refine AllReadyH.cons (o := ⟨some 33, _, _, _, _, _⟩) rfl (fun K hK => ?_) AllReadyH.nil
      go_simp
      refine (YR.out _).mono ?_
      rintro e w43 ⟨rfl, hb⟩
      have K44 := Lib.hid (K38.out.trans (hb.mono K38.out.size))
      have B45 := Lib.hid (keepX B39.out hb)
      have B46 := Lib.hid (keepX B40.out hb)
      have S47 := Lib.hid (S41.out.later hb)
      have S48 := Lib.hid (S42.out.later hb)
      clear hb hHeld
      refine hK.out _ _ ⟨B45.out, B46.out⟩ (fun hHeld => ?_)
      clear hK K
      try simp only [Act.put, List.setIfInBounds_toArray, List.set_cons_zero, List.set_cons_succ]
      refine wpAnyH_take (i := 4) (oi := ⟨some 9, _, _, _, _, _⟩) (v := .bool true) rfl (by kernel_rfl) (by kernel_rfl) (by kernel_rfl) (fun _ _ _ h => h) (Or.inl ⟨by rfl, ?_⟩) (by assumption) ?_
      · intro W hSw
        try dsimp only at hSw
        go_simp
      try simp only [Act.put, List.setIfInBounds_toArray, List.set_cons_zero, List.set_cons_succ]
      refine wpAnyH_take (i := 5) (oi := ⟨some 10, _, _, _, _, _⟩) (v := .bool true) rfl (by kernel_rfl) (by kernel_rfl) (by kernel_rfl) (fun _ _ _ h => h) (Or.inl ⟨by rfl, ?_⟩) (by assumption) ?_
      · intro W hSw
        try dsimp only at hSw
        go_simp
      try simp only [Act.put, List.setIfInBounds_toArray, List.set_cons_zero, List.set_cons_succ]
      refine wpAnyH_done (by kernel_rfl) ?_ _
      clear hHeld GR YR
      have L49 := Lib.hid (loadF (show (fcs f).size = 5 from rfl) _ _ B45.out)
      go_wp2_with (refine wpList_loadg (t := 23) (x := .tmp 2) rfl rfl (.pointer (some ⟨w.heap.size, 0, none⟩)) rfl L49.out ?_)
      refine (FR.out _).mono ?_
      rintro e w50 ⟨rfl, hb⟩
      have K51 := Lib.hid (K44.out.trans (hb.mono K44.out.size))
      have B52 := Lib.hid (keepX B45.out hb)
      have B53 := Lib.hid (keepX B46.out hb)
      have S54 := Lib.hid (S47.out.later hb)
      have S55 := Lib.hid (S48.out.later hb)
      clear hb
      have L56 := Lib.hid (loadX (show (xcs x).size = 20 from rfl) _ _ B53.out)
      go_wp2_with (refine wpList_loadg (t := 25) (x := .tmp 3) rfl rfl (.pointer (some ⟨w.heap.size + 1, 0, none⟩)) rfl L56.out ?_)
      refine (XR.out _).mono ?_
      rintro e w57 ⟨rfl, hb⟩
      have K58 := Lib.hid (K51.out.trans (hb.mono K51.out.size))
      have B59 := Lib.hid (keepX B52.out hb)
      have B60 := Lib.hid (keepX B53.out hb)
      have S61 := Lib.hid (S54.out.later hb)
      have S62 := Lib.hid (S55.out.later hb)
      clear hb
      have L63 := Lib.hid (loadF (show (fcs f).size = 5 from rfl) _ _ B59.out)
      go_wp2_with (refine wpList_loadg (t := 23) (x := .tmp 2) rfl rfl (.pointer (some ⟨w.heap.size, 0, none⟩)) rfl L63.out ?_)
      refine (FE.out _).mono ?_
      rintro e w64 ⟨aE, rfl, hsE, hb⟩
      have K65 := Lib.hid (K58.out.trans (hb.mono K58.out.size))
      have B66 := Lib.hid (keepX B59.out hb)
      have B67 := Lib.hid (keepX B60.out hb)
      have S68 := Lib.hid (S61.out.later hb)
      have S69 := Lib.hid (S62.out.later hb)
      have S70 := Lib.hid (hsE)
      clear hb hsE
      go_wp2_with fail
      refine (FS.out _ _ _ S68.out S70.out).mono ?_
      rintro e w71 ⟨rfl, hb⟩
      have K72 := Lib.hid (K65.out.trans (hb.mono K65.out.size))
      have B73 := Lib.hid (keepX B66.out hb)
      have B74 := Lib.hid (keepX B67.out hb)
      have S75 := Lib.hid (S68.out.later hb)
      have S76 := Lib.hid (S69.out.later hb)
      have S77 := Lib.hid (S70.out.later hb)
      clear hb
      have L78 := Lib.hid (loadX (show (xcs x).size = 20 from rfl) _ _ B74.out)
      go_wp2_with (refine wpList_loadg (t := 25) (x := .tmp 3) rfl rfl (.pointer (some ⟨w.heap.size + 1, 0, none⟩)) rfl L78.out ?_)
      refine (XE.out _).mono ?_
      rintro e w79 ⟨aG, rfl, hsG, hb⟩
      have K80 := Lib.hid (K72.out.trans (hb.mono K72.out.size))
      have B81 := Lib.hid (keepX B73.out hb)
      have B82 := Lib.hid (keepX B74.out hb)
      have S83 := Lib.hid (S76.out.later hb)
      have S84 := Lib.hid (hsG)
      clear hb hsG
      go_wp2_with fail
      refine (XS.out _ _ _ S83.out S84.out).mono ?_
      rintro e w85 ⟨rfl, hb⟩
      have K86 := Lib.hid (K80.out.trans (hb.mono K80.out.size))
      have B87 := Lib.hid (keepX B81.out hb)
      have B88 := Lib.hid (keepX B82.out hb)
      have S89 := Lib.hid (S83.out.later hb)
      have S90 := Lib.hid (S84.out.later hb)
      clear hb
      go_wp2_with fail
      refine (rwawake_any _).mono ?_
      rintro e w91 ⟨rfl, hb⟩
      have K92 := Lib.hid (K86.out.trans (hb.mono K86.out.size))
      have B93 := Lib.hid (keepX B87.out hb)
      have B94 := Lib.hid (keepX B88.out hb)
      clear hb
      go_wp2_with fail
      go_ret
      exact ⟨rfl, K92.out⟩
end Go.Proofs.Ytahocamjihhjhaa
