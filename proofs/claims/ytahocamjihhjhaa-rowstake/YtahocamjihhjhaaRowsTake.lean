/-
  The feed, and the episode, of a row: the walks of TakeFeed and TakeEp (laid by gen_rowstake.py).
-/
import Derived.Test.YtahocamjihhjhaaRowsRead
import Derived.Test.YtahocamjihhjhaaRowsSame
namespace Go.Proofs.Ytahocamjihhjhaa
open Go.RowKit StrM VaryM CodeM RowsM

/-- What a function returns whose first result lies in a box, its second in a slot. -/
theorem results_cell_tmp {P : Program} {fn : Func} {p q : Tmp} {ty : TypeId} (h : fn.results = #[.cell p ty, .tmp q]) (tmps : Array Value) (w : World) (g : Nat) (t : TypeId) (cs : Array Value) (fr : Nat × Nat) (d : TypeDesc)
    (hp : tmps.getD p undef = .pointer (some ⟨g, 0, none⟩)) (hg : w.heap[g]? = some (.cells cs t fr))
    (hu : P.underlying ty = some d) (hd : (match d with | .struct _ | .array _ _ => true | _ => false) = true) (hi : (P.info? ty).map (·.size) = some cs.size) :
    (results fn tmps).run P w = .ok (.tuple #[.agg cs, tmps.getD q undef]) w := by
  have hp' : tmps[p]?.getD undef = .pointer (some ⟨g, 0, none⟩) := by simpa using hp
  simp [results, h, hp', asAddr, run_loadVar_row w g t ty cs fr d hg hu hd hi]

/-- A box stays where another one is made, or written. -/
theorem box_alloc {W : World} {g : Nat} {o : Obj} (h : W.heap[g]? = some o) (o2 : Obj) : (W.alloc o2).heap[g]? = some o := (Below.heap_alloc W o2 g (Array.getElem?_eq_some_iff.1 h).1).trans h
theorem box_put {W : World} {g k : Nat} {o : Obj} (h : W.heap[g]? = some o) (hk : g ≠ k) (cs : Array Value) : (W.setRow k cs).heap[g]? = some o := (setRow_other W k g cs hk).trans h
theorem box_lt {W : World} {g : Nat} {o : Obj} (h : W.heap[g]? = some o) : g < W.heap.size := (Array.getElem?_eq_some_iff.1 h).1
theorem xagg_cs (x : X) : xagg x = .agg (xcs x) := rfl

set_option maxHeartbeats 4000000 in
set_option maxRecDepth 100000 in
theorem tkfeed_any (v : Value) (l : List V) (w : World) (hs : SeesS w v l) : Calls Try.prog 19 #[v] w fun e w' => e = .returned (.tuple #[fagg (takeF l).1, .int .i64 (takeF l).2]) ∧ Below w.heap.size w w' := by
  obtain ⟨f, hf⟩ : ∃ f, f = fOf l := ⟨_, rfl⟩
  have HT := Lib.hid (show takeF l = if fOk f = true ∧ fRow f = l then (f, 0) else (zF, 12) by rw [hf]; rfl)
  have HS := Lib.hid hs
  have RD := Lib.hid (fun W (hb : Below w.heap.size w W) => rdfeed_any v l W (hs.later hb))
  rw [← hf] at RD
  have PN := Lib.hid (fun W h => fput_no f W h)
  have PY := Lib.hid (fun W h => fput_yes f W h)
  have EQ := Lib.hid (fun (W : World) (u : Value) (hu : SeesS W u (fRow f)) (hb : Below w.heap.size w W) => vequal_any u v (fRow f) l W hu (hs.later hb) (by rw [fRow_len]; decide))
  clear hf hs
  rw [fagg_cs] at *
  generalize htk : takeF l = tk at *
  clear htk
  have hz : (zF, (12 : Int)).1 = zF := rfl
  clear hz
  have R0 := Lib.hid (heap_alloc_new w (.cells (fcs zF) 23))
  have K0 := Lib.hid (below_made w (.cells (fcs zF) 23))
  go_enter Try.func19, Try.ntmps19
  go_wp2_with fail
  refine (RD.out _ K0.out).mono ?_
  rintro e w1 ⟨rfl, hb⟩
  have K1 := Lib.hid (K0.out.trans (hb.mono K0.out.size))
  have R1 := Lib.hid (keepX R0.out hb)
  have B1 := Lib.hid (heap_alloc_new w1 (.cells (fcs zF) 23))
  have S1 := Lib.hid (storeF (ds := fcs f) rfl rfl (fcs_one f) _ _ B1.out)
  have B2 := Lib.hid (setRow_heap _ w1.heap.size _ (fcs f) _ _ B1.out)
  have R2 := Lib.hid (box_put (box_alloc R1.out (.cells (fcs zF) 23)) (Nat.ne_of_lt (box_lt R1.out)) (fcs f))
  have K2 := Lib.hid (below_put (K1.out.alloc K1.out.size (.cells (fcs zF) 23)) K1.out.size (fcs f))
  have L2 := Lib.hid (loadF (show (fcs f).size = 5 from rfl) _ _ B2.out)
  have N2 := Lib.hid (Nat.ne_of_lt (box_lt R1.out))
  clear hb
  go_wp2_with (first
    | (refine wpList_storeg (t := 23) (x := .tmp 4) (y := .tmp 8) rfl rfl (.pointer (some ⟨w1.heap.size, 0, none⟩)) (.agg (fcs f)) rfl rfl S1.out ?_)
    | (refine wpList_loadg (t := 23) (x := .tmp 4) rfl rfl (.pointer (some ⟨w1.heap.size, 0, none⟩)) rfl L2.out ?_))
  cases hok : fOk f with
  | false =>
    have HX := Lib.hid (show tk = (zF, 12) by rw [HT.out, hok]; simp)
    refine (PN.out _ hok).mono ?_
    rintro e w3 ⟨rfl, hb⟩
    have K3 := Lib.hid (K2.out.trans (hb.mono K2.out.size))
    have R3 := Lib.hid (keepX R2.out hb)
    have S3 := Lib.hid (storeF (ds := fcs zF) rfl rfl (fcs_one zF) _ _ R3.out)
    have R4 := Lib.hid (setRow_heap _ w.heap.size _ (fcs zF) _ _ R3.out)
    have K4 := Lib.hid (below_put K3.out (Nat.le_refl _) (fcs zF))
    clear hb hok
    go_wp2_with (refine wpList_storeg (t := 23) (x := .tmp 2) (y := .tmp 22) rfl rfl (.pointer (some ⟨w.heap.size, 0, none⟩)) (.agg (fcs zF)) rfl rfl S3.out ?_)
    exact bodyPost_ret (results_cell_tmp rfl _ _ w.heap.size _ _ _ _ rfl R4.out Try.underlying23 rfl (by kernel_rfl)) rfl ⟨by rw [HX.out]; rfl, K4.out⟩
  | true =>
    refine (PY.out _ hok).mono ?_
    rintro e w3 ⟨a3, rfl, hs3, hb⟩
    have K3 := Lib.hid (K2.out.trans (hb.mono K2.out.size))
    have R3 := Lib.hid (keepX R2.out hb)
    have B3 := Lib.hid (keepX B2.out hb)
    have EQ3 := Lib.hid (EQ.out w3 _ hs3 K3.out)
    clear hb hs3
    go_wp2_with fail
    refine EQ3.out.mono ?_
    rintro e w4 ⟨rfl, hb⟩
    have K4 := Lib.hid (K3.out.trans (hb.mono K3.out.size))
    have R4 := Lib.hid (keepX R3.out hb)
    have B4 := Lib.hid (keepX B3.out hb)
    clear hb
    cases heq : decide (fRow f = l) with
    | false =>
      have HX := Lib.hid (show tk = (zF, 12) by rw [HT.out, if_neg (fun h => of_decide_eq_false heq h.2)])
      have S5 := Lib.hid (storeF (ds := fcs zF) rfl rfl (fcs_one zF) _ _ R4.out)
      have R5 := Lib.hid (setRow_heap _ w.heap.size _ (fcs zF) _ _ R4.out)
      have K5 := Lib.hid (below_put K4.out (Nat.le_refl _) (fcs zF))
      clear heq hok
      go_wp2_with (refine wpList_storeg (t := 23) (x := .tmp 2) (y := .tmp 22) rfl rfl (.pointer (some ⟨w.heap.size, 0, none⟩)) (.agg (fcs zF)) rfl rfl S5.out ?_)
      exact bodyPost_ret (results_cell_tmp rfl _ _ w.heap.size _ _ _ _ rfl R5.out Try.underlying23 rfl (by kernel_rfl)) rfl ⟨by rw [HX.out]; rfl, K5.out⟩
    | true =>
      have HX := Lib.hid (show tk = (f, 0) by rw [HT.out, if_pos ⟨hok, of_decide_eq_true heq⟩])
      have L4 := Lib.hid (loadF (show (fcs f).size = 5 from rfl) _ _ B4.out)
      have S5 := Lib.hid (storeF (ds := fcs f) rfl rfl (fcs_one f) _ _ R4.out)
      have R5 := Lib.hid (setRow_heap _ w.heap.size _ (fcs f) _ _ R4.out)
      have K5 := Lib.hid (below_put K4.out (Nat.le_refl _) (fcs f))
      clear heq hok
      go_wp2_with (first
        | (refine wpList_loadg (t := 23) (x := .tmp 4) rfl rfl (.pointer (some ⟨w1.heap.size, 0, none⟩)) rfl L4.out ?_)
        | (refine wpList_storeg (t := 23) (x := .tmp 2) (y := .tmp 23) rfl rfl (.pointer (some ⟨w.heap.size, 0, none⟩)) (.agg (fcs f)) rfl rfl S5.out ?_))
      exact bodyPost_ret (results_cell_tmp rfl _ _ w.heap.size _ _ _ _ rfl R5.out Try.underlying23 rfl (by kernel_rfl)) rfl ⟨by rw [HX.out]; rfl, K5.out⟩

set_option maxHeartbeats 4000000 in
set_option maxRecDepth 100000 in
theorem tkep_any (v : Value) (l : List V) (w : World) (hs : SeesS w v l) : Calls Try.prog 21 #[v] w fun e w' => e = .returned (.tuple #[xagg (takeX l).1, .int .i64 (takeX l).2]) ∧ Below w.heap.size w w' := by
  obtain ⟨f, hf⟩ : ∃ f, f = xOf l := ⟨_, rfl⟩
  have HT := Lib.hid (show takeX l = if xOk f = true ∧ xRow f = l then (f, 0) else (zX, 12) by rw [hf]; rfl)
  have HS := Lib.hid hs
  have RD := Lib.hid (fun W (hb : Below w.heap.size w W) => rdep_any v l W (hs.later hb))
  rw [← hf] at RD
  have PN := Lib.hid (fun W h => xput_no f W h)
  have PY := Lib.hid (fun W h => xput_yes f W h)
  have EQ := Lib.hid (fun (W : World) (u : Value) (hu : SeesS W u (xRow f)) (hb : Below w.heap.size w W) => vequal_any u v (xRow f) l W hu (hs.later hb) (by rw [xRow_len]; decide))
  clear hf hs
  rw [xagg_cs] at *
  generalize htk : takeX l = tk at *
  clear htk
  have hz : (zX, (12 : Int)).1 = zX := rfl
  clear hz
  have R0 := Lib.hid (heap_alloc_new w (.cells (xcs zX) 25))
  have K0 := Lib.hid (below_made w (.cells (xcs zX) 25))
  go_enter Try.func21, Try.ntmps21
  go_wp2_with fail
  refine (RD.out _ K0.out).mono ?_
  rintro e w1 ⟨rfl, hb⟩
  have K1 := Lib.hid (K0.out.trans (hb.mono K0.out.size))
  have R1 := Lib.hid (keepX R0.out hb)
  have B1 := Lib.hid (heap_alloc_new w1 (.cells (xcs zX) 25))
  have S1 := Lib.hid (storeX (ds := xcs f) rfl rfl (xcs_one f) _ _ B1.out)
  have B2 := Lib.hid (setRow_heap _ w1.heap.size _ (xcs f) _ _ B1.out)
  have R2 := Lib.hid (box_put (box_alloc R1.out (.cells (xcs zX) 25)) (Nat.ne_of_lt (box_lt R1.out)) (xcs f))
  have K2 := Lib.hid (below_put (K1.out.alloc K1.out.size (.cells (xcs zX) 25)) K1.out.size (xcs f))
  have L2 := Lib.hid (loadX (show (xcs f).size = 20 from rfl) _ _ B2.out)
  have N2 := Lib.hid (Nat.ne_of_lt (box_lt R1.out))
  clear hb
  go_wp2_with (first
    | (refine wpList_storeg (t := 25) (x := .tmp 4) (y := .tmp 8) rfl rfl (.pointer (some ⟨w1.heap.size, 0, none⟩)) (.agg (xcs f)) rfl rfl S1.out ?_)
    | (refine wpList_loadg (t := 25) (x := .tmp 4) rfl rfl (.pointer (some ⟨w1.heap.size, 0, none⟩)) rfl L2.out ?_))
  cases hok : xOk f with
  | false =>
    have HX := Lib.hid (show tk = (zX, 12) by rw [HT.out, hok]; simp)
    refine (PN.out _ hok).mono ?_
    rintro e w3 ⟨rfl, hb⟩
    have K3 := Lib.hid (K2.out.trans (hb.mono K2.out.size))
    have R3 := Lib.hid (keepX R2.out hb)
    have S3 := Lib.hid (storeX (ds := xcs zX) rfl rfl (xcs_one zX) _ _ R3.out)
    have R4 := Lib.hid (setRow_heap _ w.heap.size _ (xcs zX) _ _ R3.out)
    have K4 := Lib.hid (below_put K3.out (Nat.le_refl _) (xcs zX))
    clear hb hok
    go_wp2_with (refine wpList_storeg (t := 25) (x := .tmp 2) (y := .tmp 22) rfl rfl (.pointer (some ⟨w.heap.size, 0, none⟩)) (.agg (xcs zX)) rfl rfl S3.out ?_)
    exact bodyPost_ret (results_cell_tmp rfl _ _ w.heap.size _ _ _ _ rfl R4.out Try.underlying25 rfl (by kernel_rfl)) rfl ⟨by rw [HX.out]; rfl, K4.out⟩
  | true =>
    refine (PY.out _ hok).mono ?_
    rintro e w3 ⟨a3, rfl, hs3, hb⟩
    have K3 := Lib.hid (K2.out.trans (hb.mono K2.out.size))
    have R3 := Lib.hid (keepX R2.out hb)
    have B3 := Lib.hid (keepX B2.out hb)
    have EQ3 := Lib.hid (EQ.out w3 _ hs3 K3.out)
    clear hb hs3
    go_wp2_with fail
    refine EQ3.out.mono ?_
    rintro e w4 ⟨rfl, hb⟩
    have K4 := Lib.hid (K3.out.trans (hb.mono K3.out.size))
    have R4 := Lib.hid (keepX R3.out hb)
    have B4 := Lib.hid (keepX B3.out hb)
    clear hb
    cases heq : decide (xRow f = l) with
    | false =>
      have HX := Lib.hid (show tk = (zX, 12) by rw [HT.out, if_neg (fun h => of_decide_eq_false heq h.2)])
      have S5 := Lib.hid (storeX (ds := xcs zX) rfl rfl (xcs_one zX) _ _ R4.out)
      have R5 := Lib.hid (setRow_heap _ w.heap.size _ (xcs zX) _ _ R4.out)
      have K5 := Lib.hid (below_put K4.out (Nat.le_refl _) (xcs zX))
      clear heq hok
      go_wp2_with (refine wpList_storeg (t := 25) (x := .tmp 2) (y := .tmp 22) rfl rfl (.pointer (some ⟨w.heap.size, 0, none⟩)) (.agg (xcs zX)) rfl rfl S5.out ?_)
      exact bodyPost_ret (results_cell_tmp rfl _ _ w.heap.size _ _ _ _ rfl R5.out Try.underlying25 rfl (by kernel_rfl)) rfl ⟨by rw [HX.out]; rfl, K5.out⟩
    | true =>
      have HX := Lib.hid (show tk = (f, 0) by rw [HT.out, if_pos ⟨hok, of_decide_eq_true heq⟩])
      have L4 := Lib.hid (loadX (show (xcs f).size = 20 from rfl) _ _ B4.out)
      have S5 := Lib.hid (storeX (ds := xcs f) rfl rfl (xcs_one f) _ _ R4.out)
      have R5 := Lib.hid (setRow_heap _ w.heap.size _ (xcs f) _ _ R4.out)
      have K5 := Lib.hid (below_put K4.out (Nat.le_refl _) (xcs f))
      clear heq hok
      go_wp2_with (first
        | (refine wpList_loadg (t := 25) (x := .tmp 4) rfl rfl (.pointer (some ⟨w1.heap.size, 0, none⟩)) rfl L4.out ?_)
        | (refine wpList_storeg (t := 25) (x := .tmp 2) (y := .tmp 23) rfl rfl (.pointer (some ⟨w.heap.size, 0, none⟩)) (.agg (xcs f)) rfl rfl S5.out ?_))
      exact bodyPost_ret (results_cell_tmp rfl _ _ w.heap.size _ _ _ _ rfl R5.out Try.underlying25 rfl (by kernel_rfl)) rfl ⟨by rw [HX.out]; rfl, K5.out⟩
end Go.Proofs.Ytahocamjihhjhaa
