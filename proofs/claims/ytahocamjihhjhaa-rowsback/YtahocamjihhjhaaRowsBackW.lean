/-
  The walk of RowsBack. (laid by gen_rowslaws.py)
-/
import Derived.Test.YtahocamjihhjhaaRowsBackC
namespace Go.Proofs.Ytahocamjihhjhaa
open Go.RowKit StrM VaryM CodeM RowsM

set_option maxHeartbeats 16000000 in
set_option maxRecDepth 100000 in
theorem rback_walk (f : F) (x : X) (v : Value) (l : List V) (w : World) (hs : SeesS w v l) : Calls Try.prog 5 #[fagg f, xagg x, v] w fun e w' => e = .returned (.bool true) ∧ Below w.heap.size w w' := by
  have SF := Lib.hid (fun w => fshort_any f w)
  have SX := Lib.hid (fun w => xshort_any x w)
  have LO := Lib.hid (fun W hs => long_any v l W hs)
  have PF := Lib.hid (fun W => fput_any f W)
  have PX := Lib.hid (fun W => xput_any x W)
  have TF := Lib.hid (fun W u h hs => ftake_put f u W h hs)
  have TX := Lib.hid (fun W u h hs => xtake_put x u W h hs)
  have TL := Lib.hid (fun W hs => tkfeed_any v l W hs)
  have XL := Lib.hid (fun W hs => tkep_any v l W hs)
  have PT := Lib.hid (fun W => fput_back l W)
  have PY := Lib.hid (fun W => xput_back l W)
  have SM := Lib.hid (fun (hn : l.length ≤ 1010) (W : World) (u : Value) (h1 : SeesS W u l) (h2 : SeesS W v l) => vsame_true u v l W h1 h2 (by omega))
  obtain ⟨a, cap, rfl, -⟩ := id hs
  have S0 := Lib.hid hs
  clear hs
  simp only [fagg_cs, xagg_cs] at SF SX PF PX TF TX TL XL PT PY ⊢
  generalize takeF l = tf at *
  generalize takeX l = tx at *
  obtain ⟨tf, te⟩ := tf
  obtain ⟨tx, ty⟩ := tx
  simp only at TL XL PT PY
  have K0 := Lib.hid ((below_made w (.cells (fcs f) 23)).trans ((below_made (w.alloc (.cells (fcs f) 23)) (.cells (xcs x) 25)).mono (below_made w (.cells (fcs f) 23)).size))
  have B01 := Lib.hid (heap_alloc2_old w (.cells (fcs f) 23) (.cells (xcs x) 25))
  have B02 := Lib.hid (heap_alloc2_new w (.cells (fcs f) 23) (.cells (xcs x) 25))
  have S1 := Lib.hid (S0.out.later K0.out)
  have L1 := Lib.hid (loadF (show (fcs f).size = 5 from rfl) _ _ B01.out)
  go_enter Try.func5, Try.ntmps5
  go_wp2_with (refine wpList_loadg (t := 23) (x := .tmp 3) rfl rfl (.pointer (some ⟨w.heap.size, 0, none⟩)) rfl L1.out ?_)
  refine (SF.out _).mono ?_
  rintro e w2 ⟨⟨b1, rfl⟩, hb⟩
  have K3 := Lib.hid (K0.out.trans (hb.mono K0.out.size))
  have B4 := Lib.hid (keepX B01.out hb)
  have B5 := Lib.hid (keepX B02.out hb)
  have S6 := Lib.hid (S1.out.later hb)
  clear hb
  cases b1
  case false =>
    go_wp2_with fail
    refine (rwawake_any _).mono ?_
    rintro e w7 ⟨rfl, hb⟩
    have K8 := Lib.hid (K3.out.trans (hb.mono K3.out.size))
    have B9 := Lib.hid (keepX B4.out hb)
    have B10 := Lib.hid (keepX B5.out hb)
    have S11 := Lib.hid (S6.out.later hb)
    clear hb
    go_wp2_with fail
    go_ret
    exact ⟨rfl, K8.out⟩
  have L12 := Lib.hid (loadX (show (xcs x).size = 20 from rfl) _ _ B5.out)
  go_wp2_with (refine wpList_loadg (t := 25) (x := .tmp 4) rfl rfl (.pointer (some ⟨w.heap.size + 1, 0, none⟩)) rfl L12.out ?_)
  refine (SX.out _).mono ?_
  rintro e w13 ⟨⟨b2, rfl⟩, hb⟩
  have K14 := Lib.hid (K3.out.trans (hb.mono K3.out.size))
  have B15 := Lib.hid (keepX B4.out hb)
  have B16 := Lib.hid (keepX B5.out hb)
  have S17 := Lib.hid (S6.out.later hb)
  clear hb
  cases b2
  case false =>
    go_wp2_with fail
    refine (rwawake_any _).mono ?_
    rintro e w18 ⟨rfl, hb⟩
    have K19 := Lib.hid (K14.out.trans (hb.mono K14.out.size))
    have B20 := Lib.hid (keepX B15.out hb)
    have B21 := Lib.hid (keepX B16.out hb)
    have S22 := Lib.hid (S17.out.later hb)
    clear hb
    go_wp2_with fail
    go_ret
    exact ⟨rfl, K19.out⟩
  go_wp2_with fail
  refine (LO.out _ S17.out).mono ?_
  rintro e w' ⟨⟨bl, rfl, hbl⟩, rfl⟩
  cases bl
  case true =>
    clear hbl
    go_wp2_with fail
    refine (rwawake_any _).mono ?_
    rintro e w23 ⟨rfl, hb⟩
    have K24 := Lib.hid (K14.out.trans (hb.mono K14.out.size))
    have B25 := Lib.hid (keepX B15.out hb)
    have B26 := Lib.hid (keepX B16.out hb)
    have S27 := Lib.hid (S17.out.later hb)
    clear hb
    go_wp2_with fail
    go_ret
    exact ⟨rfl, K24.out⟩
  have SN := Lib.hid (SM.out (hbl rfl))
  clear hbl SM LO SF SX
  have L28 := Lib.hid (loadF (show (fcs f).size = 5 from rfl) _ _ B15.out)
  go_wp2_with (refine wpList_loadg (t := 23) (x := .tmp 3) rfl rfl (.pointer (some ⟨w.heap.size, 0, none⟩)) rfl L28.out ?_)
  refine (PF.out _).mono ?_
  rintro e w29 ⟨vF, eF, rfl, hF, hb⟩
  have K30 := Lib.hid (K14.out.trans (hb.mono K14.out.size))
  have B31 := Lib.hid (keepX B15.out hb)
  have B32 := Lib.hid (keepX B16.out hb)
  have S33 := Lib.hid (S17.out.later hb)
  clear hb
  have HF := Lib.hid hF
  clear hF
  have L34 := Lib.hid (loadX (show (xcs x).size = 20 from rfl) _ _ B32.out)
  go_wp2_with (refine wpList_loadg (t := 25) (x := .tmp 4) rfl rfl (.pointer (some ⟨w.heap.size + 1, 0, none⟩)) rfl L34.out ?_)
  refine (PX.out _).mono ?_
  rintro e w35 ⟨vX, eX, rfl, hX, hb⟩
  have JF := Lib.hid hb
  have K36 := Lib.hid (K30.out.trans (hb.mono K30.out.size))
  have B37 := Lib.hid (keepX B31.out hb)
  have B38 := Lib.hid (keepX B32.out hb)
  have S39 := Lib.hid (S33.out.later hb)
  clear hb
  have HX := Lib.hid hX
  clear hX
  go_upto_if 47 with fail
  go_cut [11, 12] from 46 to 59 (fun _s11 _s12 wx => Below w35.heap.size w35 wx)
  case first =>
    by_cases h0 : eF = 0
    · subst h0
      obtain ⟨hok, hs0⟩ := HF.out rfl
      have SA := Lib.hid (hs0.later JF.out)
      clear hs0
      have KA := Lib.hid (Below.refl w35.heap.size w35)
      go_wp2_with fail
      refine (TF.out _ _ hok SA.out).mono ?_
      rintro e w40 ⟨rfl, hb⟩
      have K41 := Lib.hid (KA.out.trans (hb.mono KA.out.size))
      have B42 := Lib.hid (keepX B37.out hb)
      have B43 := Lib.hid (keepX B38.out hb)
      have S44 := Lib.hid (S39.out.later hb)
      clear hb
      have A45 := Lib.hid (heap_alloc_new w40 (.cells (fcs zF) 23))
      have T46 := Lib.hid (storeF (ds := fcs f) rfl rfl (fcs_one f) _ _ A45.out)
      have B47 := Lib.hid (setRow_heap _ w40.heap.size _ (fcs f) _ _ A45.out)
      have B48 := Lib.hid (box_put (box_alloc B42.out (.cells (fcs zF) 23)) (Nat.ne_of_lt (box_lt B42.out)) (fcs f))
      have B49 := Lib.hid (box_put (box_alloc B43.out (.cells (fcs zF) 23)) (Nat.ne_of_lt (box_lt B43.out)) (fcs f))
      have J50 := Lib.hid (below_put (below_made w40 (.cells (fcs zF) 23)) (Nat.le_refl _) (fcs f))
      have K51 := Lib.hid (K41.out.trans (J50.out.mono K41.out.size))
      have S52 := Lib.hid (S44.out.later J50.out)
      have L53 := Lib.hid (loadF (show (fcs f).size = 5 from rfl) _ _ B47.out)
      have L54 := Lib.hid (loadF (show (fcs f).size = 5 from rfl) _ _ B48.out)
      go_wp2_with (first
        | (refine wpList_storeg (t := 23) (x := .tmp 11) (y := .tmp 51) rfl rfl (.pointer (some ⟨w40.heap.size, 0, none⟩)) (.agg (fcs f)) rfl rfl T46.out ?_)
        | (refine wpList_loadg (t := 23) (x := .tmp 11) rfl rfl (.pointer (some ⟨w40.heap.size, 0, none⟩)) rfl L53.out ?_)
        | (refine wpList_loadg (t := 23) (x := .tmp 3) rfl rfl (.pointer (some ⟨w.heap.size, 0, none⟩)) rfl L54.out ?_)
        | (refine wpList_val (.bool (!true)) rfl (exec_neq (t := 23) (x := .tmp 53) (y := .tmp 54) (xs := fcs f) (ys := fcs f) rfl rfl rfl guardF (eqF_same f _)) ?_))
      go_meet
      exact K51.out
    · have d0 : (eF == 0) = false := by simpa using h0
      go_wp2_with fail
      go_meet
      exact Below.refl _ _
  generalize wc = w55 at *
  have JX := Lib.hid hcut
  have K56 := Lib.hid (K36.out.trans (hcut.mono K36.out.size))
  have B57 := Lib.hid (keepX B37.out hcut)
  have B58 := Lib.hid (keepX B38.out hcut)
  have S59 := Lib.hid (S39.out.later hcut)
  clear hcut
  clear HF JF TF PF PX
  go_upto_if 61 with fail
  go_cut [13, 14] from 60 to 73 (fun _s13 _s14 wx => Below w55.heap.size w55 wx)
  case first =>
    by_cases h0 : eX = 0
    · subst h0
      obtain ⟨hok, hs0⟩ := HX.out rfl
      have SA := Lib.hid (hs0.later JX.out)
      clear hs0
      have KA := Lib.hid (Below.refl w55.heap.size w55)
      go_wp2_with fail
      refine (TX.out _ _ hok SA.out).mono ?_
      rintro e w60 ⟨rfl, hb⟩
      have K61 := Lib.hid (KA.out.trans (hb.mono KA.out.size))
      have B62 := Lib.hid (keepX B57.out hb)
      have B63 := Lib.hid (keepX B58.out hb)
      have S64 := Lib.hid (S59.out.later hb)
      clear hb
      have A65 := Lib.hid (heap_alloc_new w60 (.cells (xcs zX) 25))
      have T66 := Lib.hid (storeX (ds := xcs x) rfl rfl (xcs_one x) _ _ A65.out)
      have B67 := Lib.hid (setRow_heap _ w60.heap.size _ (xcs x) _ _ A65.out)
      have B68 := Lib.hid (box_put (box_alloc B62.out (.cells (xcs zX) 25)) (Nat.ne_of_lt (box_lt B62.out)) (xcs x))
      have B69 := Lib.hid (box_put (box_alloc B63.out (.cells (xcs zX) 25)) (Nat.ne_of_lt (box_lt B63.out)) (xcs x))
      have J70 := Lib.hid (below_put (below_made w60 (.cells (xcs zX) 25)) (Nat.le_refl _) (xcs x))
      have K71 := Lib.hid (K61.out.trans (J70.out.mono K61.out.size))
      have S72 := Lib.hid (S64.out.later J70.out)
      have L73 := Lib.hid (loadX (show (xcs x).size = 20 from rfl) _ _ B67.out)
      have L74 := Lib.hid (loadX (show (xcs x).size = 20 from rfl) _ _ B69.out)
      go_wp2_with (first
        | (refine wpList_storeg (t := 25) (x := .tmp 13) (y := .tmp 65) rfl rfl (.pointer (some ⟨w60.heap.size, 0, none⟩)) (.agg (xcs x)) rfl rfl T66.out ?_)
        | (refine wpList_loadg (t := 25) (x := .tmp 13) rfl rfl (.pointer (some ⟨w60.heap.size, 0, none⟩)) rfl L73.out ?_)
        | (refine wpList_loadg (t := 25) (x := .tmp 4) rfl rfl (.pointer (some ⟨w.heap.size + 1, 0, none⟩)) rfl L74.out ?_)
        | (refine wpList_val (.bool (!true)) rfl (exec_neq (t := 25) (x := .tmp 67) (y := .tmp 68) (xs := xcs x) (ys := xcs x) rfl rfl rfl guardX (eqX_same x _)) ?_))
      go_meet
      exact K71.out
    · have d0 : (eX == 0) = false := by simpa using h0
      go_wp2_with fail
      go_meet
      exact Below.refl _ _
  generalize wc = w75 at *
  have K76 := Lib.hid (K56.out.trans (hcut.mono K56.out.size))
  have B77 := Lib.hid (keepX B57.out hcut)
  have B78 := Lib.hid (keepX B58.out hcut)
  have S79 := Lib.hid (S59.out.later hcut)
  clear hcut
  clear HX JX TX
  go_wp2_with fail
  refine (TL.out _ S79.out).mono ?_
  rintro e w80 ⟨rfl, hb⟩
  have K81 := Lib.hid (K76.out.trans (hb.mono K76.out.size))
  have S82 := Lib.hid (S79.out.later hb)
  clear hb
  have A83 := Lib.hid (heap_alloc_new w80 (.cells (fcs zF) 23))
  have T84 := Lib.hid (storeF (ds := fcs tf) rfl rfl (fcs_one tf) _ _ A83.out)
  have B85 := Lib.hid (setRow_heap _ w80.heap.size _ (fcs tf) _ _ A83.out)
  have J86 := Lib.hid (below_put (below_made w80 (.cells (fcs zF) 23)) (Nat.le_refl _) (fcs tf))
  have K87 := Lib.hid (K81.out.trans (J86.out.mono K81.out.size))
  have S88 := Lib.hid (S82.out.later J86.out)
  have L89 := Lib.hid (loadF (show (fcs tf).size = 5 from rfl) _ _ B85.out)
  go_wp2_with (first
    | (refine wpList_storeg (t := 23) (x := .tmp 15) (y := .tmp 77) rfl rfl (.pointer (some ⟨w80.heap.size, 0, none⟩)) (.agg (fcs tf)) rfl rfl T84.out ?_)
    | (refine wpList_loadg (t := 23) (x := .tmp 15) rfl rfl (.pointer (some ⟨w80.heap.size, 0, none⟩)) rfl L89.out ?_))
  refine (PT.out _).mono ?_
  rintro e w90 ⟨vC, eC, rfl, hC, hb⟩
  have K91 := Lib.hid (K87.out.trans (hb.mono K87.out.size))
  have B92 := Lib.hid (keepX B85.out hb)
  have S93 := Lib.hid (S88.out.later hb)
  clear hb
  have HC := Lib.hid hC
  clear hC TL PT
  go_upto_region 15 with fail
  go_cut [95] from 84 to 94 (fun s95 wx => s95 = .bool false ∧ Below w90.heap.size w90 wx)
  case first =>
    by_cases h0 : te = 0
    · subst h0
      obtain ⟨rfl, hsC⟩ := HC.out rfl
      have SC := Lib.hid hsC
      clear hsC
      go_wp2_with fail
      refine (SN.out _ _ SC.out S93.out).mono ?_
      rintro e w9 ⟨rfl, hb⟩
      have KB := Lib.hid hb
      clear hb
      go_wp2_with fail
      go_meet
      exact ⟨rfl, KB.out⟩
    · have d0 : (te == 0) = false := by simpa using h0
      go_wp2_with fail
      go_meet
      exact ⟨rfl, Below.refl _ _⟩
  obtain ⟨rfl, hcut⟩ := hcut
  generalize wc = w94 at *
  have K95 := Lib.hid (K91.out.trans (hcut.mono K91.out.size))
  have B96 := Lib.hid (keepX B92.out hcut)
  have S97 := Lib.hid (S93.out.later hcut)
  clear hcut
  clear HC
  go_wp2_with fail
  refine (XL.out _ S97.out).mono ?_
  rintro e w98 ⟨rfl, hb⟩
  have K99 := Lib.hid (K95.out.trans (hb.mono K95.out.size))
  have S100 := Lib.hid (S97.out.later hb)
  clear hb
  have A101 := Lib.hid (heap_alloc_new w98 (.cells (xcs zX) 25))
  have T102 := Lib.hid (storeX (ds := xcs tx) rfl rfl (xcs_one tx) _ _ A101.out)
  have B103 := Lib.hid (setRow_heap _ w98.heap.size _ (xcs tx) _ _ A101.out)
  have J104 := Lib.hid (below_put (below_made w98 (.cells (xcs zX) 25)) (Nat.le_refl _) (xcs tx))
  have K105 := Lib.hid (K99.out.trans (J104.out.mono K99.out.size))
  have S106 := Lib.hid (S100.out.later J104.out)
  have L107 := Lib.hid (loadX (show (xcs tx).size = 20 from rfl) _ _ B103.out)
  go_wp2_with (first
    | (refine wpList_storeg (t := 25) (x := .tmp 19) (y := .tmp 99) rfl rfl (.pointer (some ⟨w98.heap.size, 0, none⟩)) (.agg (xcs tx)) rfl rfl T102.out ?_)
    | (refine wpList_loadg (t := 25) (x := .tmp 19) rfl rfl (.pointer (some ⟨w98.heap.size, 0, none⟩)) rfl L107.out ?_))
  refine (PY.out _).mono ?_
  rintro e w108 ⟨vD, eD, rfl, hD, hb⟩
  have K109 := Lib.hid (K105.out.trans (hb.mono K105.out.size))
  have B110 := Lib.hid (keepX B103.out hb)
  have S111 := Lib.hid (S106.out.later hb)
  clear hb
  have HD := Lib.hid hD
  clear hD
  by_cases h0 : ty = 0
  · subst h0
    obtain ⟨rfl, hsD⟩ := HD.out rfl
    have SD := Lib.hid hsD
    clear hsD
    go_wp2_with fail
    refine (SN.out _ _ SD.out S111.out).mono ?_
    rintro e w112 ⟨rfl, hb⟩
    have K113 := Lib.hid (K109.out.trans (hb.mono K109.out.size))
    have S114 := Lib.hid (S111.out.later hb)
    clear hb
    go_wp2_with fail
    refine (rwawake_any _).mono ?_
    rintro e w115 ⟨rfl, hb⟩
    have K116 := Lib.hid (K113.out.trans (hb.mono K113.out.size))
    have S117 := Lib.hid (S114.out.later hb)
    clear hb
    go_wp2_with fail
    go_ret
    exact ⟨rfl, K116.out⟩
  · have d0 : (ty == 0) = false := by simpa using h0
    go_wp2_with fail
    refine (rwawake_any _).mono ?_
    rintro e w118 ⟨rfl, hb⟩
    have K119 := Lib.hid (K109.out.trans (hb.mono K109.out.size))
    have S120 := Lib.hid (S111.out.later hb)
    clear hb
    go_wp2_with fail
    go_ret
    exact ⟨rfl, K119.out⟩
end Go.Proofs.Ytahocamjihhjhaa
