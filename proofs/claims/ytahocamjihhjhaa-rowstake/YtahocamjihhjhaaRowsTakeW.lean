/-
  The walk of RowsTake. (laid by gen_rowslaws.py)
-/
import Derived.Test.YtahocamjihhjhaaRowsRefTake
import Derived.Test.YtahocamjihhjhaaRowsAwake
namespace Go.Proofs.Ytahocamjihhjhaa
open Go.RowKit StrM VaryM CodeM RowsM

set_option maxHeartbeats 16000000 in
set_option maxRecDepth 100000 in
theorem rtake_walk (v : Value) (l : List V) (w : World) (hs : SeesS w v l) (hsz : ∀ v ∈ l, v.t.size ≤ maxLen) : Calls Try.prog 4 #[v] w fun e w' => e = .returned (.bool true) ∧ Below w.heap.size w w' := by
  have LO := Lib.hid (long_any v l w hs)
  have TF := Lib.hid (fun W hs => tkfeed_any v l W hs)
  have RF := Lib.hid (fun W hs => rtkfeed_any v l W hs)
  have TX := Lib.hid (fun W hs => tkep_any v l W hs)
  have RX := Lib.hid (fun W hs => rtkep_any v l W hs hsz)
  obtain ⟨n, hn⟩ : ∃ n, n = l.length := ⟨_, rfl⟩
  obtain ⟨a, cap, rfl, -⟩ := id hs
  have S0 := Lib.hid hs
  rw [← hn] at LO S0 TF RF TX RX ⊢
  clear hs hsz hn
  simp only [fagg_cs, xagg_cs] at TF RF TX RX
  generalize takeF l = tf at *
  generalize takeX l = tx at *
  obtain ⟨tf, te⟩ := tf
  obtain ⟨tx, ty⟩ := tx
  simp only at TF RF TX RX
  go_enter Try.func4, Try.ntmps4
  go_wp2_with fail
  refine LO.out.mono ?_
  rintro e w' ⟨⟨bl, rfl, -⟩, rfl⟩
  clear LO
  cases bl
  case true =>
    go_wp2_with fail
    refine (rwawake_any _).mono ?_
    rintro e w1 ⟨rfl, hb⟩
    have K2 := Lib.hid (hb)
    clear hb
    go_wp2_with fail
    go_ret
    exact ⟨rfl, K2.out⟩
  by_cases h40 : 40 < n
  · have d40 : (40 : Int) < (n : Int) := by omega
    clear h40
    go_wp2_with fail
    refine (rwawake_any _).mono ?_
    rintro e w1 ⟨rfl, hb⟩
    have K2 := Lib.hid (hb)
    clear hb
    go_wp2_with fail
    go_ret
    exact ⟨rfl, K2.out⟩
  have d40 : decide ((40 : Int) < (n : Int)) = false := decide_eq_false (by omega)
  clear h40
  go_wp2_with fail
  clear d40
  refine (TF.out _ S0.out).mono ?_
  rintro e w1 ⟨rfl, hb⟩
  have K2 := Lib.hid (hb)
  have S3 := Lib.hid (S0.out.later hb)
  clear hb
  have A4 := Lib.hid (heap_alloc_new w1 (.cells (fcs zF) 23))
  have T5 := Lib.hid (storeF (ds := fcs tf) rfl rfl (fcs_one tf) _ _ A4.out)
  have B6 := Lib.hid (setRow_heap _ w1.heap.size _ (fcs tf) _ _ A4.out)
  have J7 := Lib.hid (below_put (below_made w1 (.cells (fcs zF) 23)) (Nat.le_refl _) (fcs tf))
  have K8 := Lib.hid (K2.out.trans (J7.out.mono K2.out.size))
  have S9 := Lib.hid (S3.out.later J7.out)
  go_wp2_with (refine wpList_storeg (t := 23) (x := .tmp 3) (y := .tmp 22) rfl rfl (.pointer (some ⟨w1.heap.size, 0, none⟩)) (.agg (fcs tf)) rfl rfl T5.out ?_)
  refine (RF.out _ S9.out).mono ?_
  rintro e w10 ⟨rfl, hb⟩
  have K11 := Lib.hid (K8.out.trans (hb.mono K8.out.size))
  have B12 := Lib.hid (keepX B6.out hb)
  have S13 := Lib.hid (S9.out.later hb)
  clear hb
  have A14 := Lib.hid (heap_alloc_new w10 (.cells (fcs zF) 23))
  have T15 := Lib.hid (storeF (ds := fcs tf) rfl rfl (fcs_one tf) _ _ A14.out)
  have B16 := Lib.hid (setRow_heap _ w10.heap.size _ (fcs tf) _ _ A14.out)
  have B17 := Lib.hid (box_put (box_alloc B12.out (.cells (fcs zF) 23)) (Nat.ne_of_lt (box_lt B12.out)) (fcs tf))
  have J18 := Lib.hid (below_put (below_made w10 (.cells (fcs zF) 23)) (Nat.le_refl _) (fcs tf))
  have K19 := Lib.hid (K11.out.trans (J18.out.mono K11.out.size))
  have S20 := Lib.hid (S13.out.later J18.out)
  go_wp2_with (refine wpList_storeg (t := 23) (x := .tmp 5) (y := .tmp 27) rfl rfl (.pointer (some ⟨w10.heap.size, 0, none⟩)) (.agg (fcs tf)) rfl rfl T15.out ?_)
  refine (TX.out _ S20.out).mono ?_
  rintro e w21 ⟨rfl, hb⟩
  have K22 := Lib.hid (K19.out.trans (hb.mono K19.out.size))
  have B23 := Lib.hid (keepX B17.out hb)
  have B24 := Lib.hid (keepX B16.out hb)
  have S25 := Lib.hid (S20.out.later hb)
  clear hb
  have A26 := Lib.hid (heap_alloc_new w21 (.cells (xcs zX) 25))
  have T27 := Lib.hid (storeX (ds := xcs tx) rfl rfl (xcs_one tx) _ _ A26.out)
  have B28 := Lib.hid (setRow_heap _ w21.heap.size _ (xcs tx) _ _ A26.out)
  have B29 := Lib.hid (box_put (box_alloc B23.out (.cells (xcs zX) 25)) (Nat.ne_of_lt (box_lt B23.out)) (xcs tx))
  have B30 := Lib.hid (box_put (box_alloc B24.out (.cells (xcs zX) 25)) (Nat.ne_of_lt (box_lt B24.out)) (xcs tx))
  have J31 := Lib.hid (below_put (below_made w21 (.cells (xcs zX) 25)) (Nat.le_refl _) (xcs tx))
  have K32 := Lib.hid (K22.out.trans (J31.out.mono K22.out.size))
  have S33 := Lib.hid (S25.out.later J31.out)
  go_wp2_with (refine wpList_storeg (t := 25) (x := .tmp 7) (y := .tmp 32) rfl rfl (.pointer (some ⟨w21.heap.size, 0, none⟩)) (.agg (xcs tx)) rfl rfl T27.out ?_)
  refine (RX.out _ S33.out).mono ?_
  rintro e w34 ⟨rfl, hb⟩
  have K35 := Lib.hid (K32.out.trans (hb.mono K32.out.size))
  have B36 := Lib.hid (keepX B29.out hb)
  have B37 := Lib.hid (keepX B30.out hb)
  have B38 := Lib.hid (keepX B28.out hb)
  have S39 := Lib.hid (S33.out.later hb)
  clear hb
  have A40 := Lib.hid (heap_alloc_new w34 (.cells (xcs zX) 25))
  have T41 := Lib.hid (storeX (ds := xcs tx) rfl rfl (xcs_one tx) _ _ A40.out)
  have B42 := Lib.hid (setRow_heap _ w34.heap.size _ (xcs tx) _ _ A40.out)
  have B43 := Lib.hid (box_put (box_alloc B36.out (.cells (xcs zX) 25)) (Nat.ne_of_lt (box_lt B36.out)) (xcs tx))
  have B44 := Lib.hid (box_put (box_alloc B37.out (.cells (xcs zX) 25)) (Nat.ne_of_lt (box_lt B37.out)) (xcs tx))
  have B45 := Lib.hid (box_put (box_alloc B38.out (.cells (xcs zX) 25)) (Nat.ne_of_lt (box_lt B38.out)) (xcs tx))
  have J46 := Lib.hid (below_put (below_made w34 (.cells (xcs zX) 25)) (Nat.le_refl _) (xcs tx))
  have K47 := Lib.hid (K35.out.trans (J46.out.mono K35.out.size))
  have S48 := Lib.hid (S39.out.later J46.out)
  have L49 := Lib.hid (loadF (show (fcs tf).size = 5 from rfl) _ _ B43.out)
  have L50 := Lib.hid (loadF (show (fcs tf).size = 5 from rfl) _ _ B44.out)
  have L51 := Lib.hid (loadX (show (xcs tx).size = 20 from rfl) _ _ B45.out)
  have L52 := Lib.hid (loadX (show (xcs tx).size = 20 from rfl) _ _ B42.out)
  go_wp2_with (first
    | (refine wpList_storeg (t := 25) (x := .tmp 9) (y := .tmp 37) rfl rfl (.pointer (some ⟨w34.heap.size, 0, none⟩)) (.agg (xcs tx)) rfl rfl T41.out ?_)
    | (refine wpList_loadg (t := 23) (x := .tmp 3) rfl rfl (.pointer (some ⟨w1.heap.size, 0, none⟩)) rfl L49.out ?_)
    | (refine wpList_loadg (t := 23) (x := .tmp 5) rfl rfl (.pointer (some ⟨w10.heap.size, 0, none⟩)) rfl L50.out ?_)
    | (refine wpList_val (.bool true) rfl (exec_eql (t := 23) (x := .tmp 39) (y := .tmp 40) (xs := fcs tf) (ys := fcs tf) rfl rfl rfl guardF (eqF_same tf _)) ?_)
    | (refine wpList_loadg (t := 25) (x := .tmp 7) rfl rfl (.pointer (some ⟨w21.heap.size, 0, none⟩)) rfl L51.out ?_)
    | (refine wpList_loadg (t := 25) (x := .tmp 9) rfl rfl (.pointer (some ⟨w34.heap.size, 0, none⟩)) rfl L52.out ?_)
    | (refine wpList_val (.bool true) rfl (exec_eql (t := 25) (x := .tmp 48) (y := .tmp 49) (xs := xcs tx) (ys := xcs tx) rfl rfl rfl guardX (eqX_same tx _)) ?_))
  refine (rwawake_any _).mono ?_
  rintro e w53 ⟨rfl, hb⟩
  have K54 := Lib.hid (K47.out.trans (hb.mono K47.out.size))
  have B55 := Lib.hid (keepX B43.out hb)
  have B56 := Lib.hid (keepX B44.out hb)
  have B57 := Lib.hid (keepX B45.out hb)
  have B58 := Lib.hid (keepX B42.out hb)
  have S59 := Lib.hid (S48.out.later hb)
  clear hb
  go_wp2_with fail
  go_ret
  exact ⟨rfl, K54.out⟩
end Go.Proofs.Ytahocamjihhjhaa
