/-
  The walk of the example that the statements of layer 14 share: awake returns true, and makes only new memory.
-/
import Derived.Test.YtahocamjihhjhaaRowsTake
import Derived.Test.YtahocamjihhjhaaRowsEq
namespace Go.Proofs.Ytahocamjihhjhaa
open Go.RowKit StrM VaryM CodeM RowsM

def fe : F := ⟨1, ⟨#[117]⟩, ⟨#[]⟩, 0, 0⟩
def xe : X := ⟨2, 1, ⟨#[103]⟩, ⟨#[117]⟩, ⟨#[]⟩, 0, -1, 1, 0, true, 0, 0, 0, ⟨#[]⟩, 0, 0, ⟨#[]⟩, -1, 0, ⟨#[]⟩⟩
theorem fe_ok : fOk fe = true := by decide +kernel
theorem xe_ok : xOk xe = true := by decide +kernel
theorem zF_no : fOk zF = false := by decide +kernel
theorem zX_no : xOk zX = false := by decide +kernel

theorem ra1 (w : World) : Calls Try.prog 9 #[.agg (fcs fe)] w fun e w' => ∃ g off, e = .returned (.tuple #[.slice (some ⟨g, off, none⟩) 6 6, .int .i64 0]) ∧ g < w'.heap.size ∧ w'.cell? ⟨g, off + 2, none⟩ = some (.string ⟨#[102, 101, 101, 100]⟩) ∧ w'.cell? ⟨g, off + 8, none⟩ = some (.string ⟨#[117]⟩) ∧ Below w.heap.size w w' := by
  refine (fput_yes fe w fe_ok).mono ?_
  rintro e w' ⟨a, rfl, hs, hb⟩
  obtain ⟨g, off, rfl, hg, -, -, c0⟩ := hs.cells (k := 0) (by decide)
  obtain ⟨g2, off2, e2, -, -, -, c2⟩ := hs.cells (k := 2) (by decide)
  cases e2
  exact ⟨g, off, rfl, hg, c0, c2, hb⟩
theorem ra2 (w : World) : Calls Try.prog 10 #[.agg (xcs xe)] w fun e w' => ∃ a, e = .returned (.tuple #[.slice a 21 21, .int .i64 0]) ∧ SeesS w' (.slice a 21 21) (xRow xe) ∧ Below w.heap.size w w' := xput_yes xe w xe_ok
theorem ra3 (v : Value) (w : World) (hs : SeesS w v (xRow xe)) : Calls Try.prog 21 #[v] w fun e w' => e = .returned (.tuple #[.agg (xcs xe), .int .i64 0]) ∧ Below w.heap.size w w' := by
  have h := tkep_any v (xRow xe) w hs
  rw [takeX_row xe_ok] at h
  exact h
theorem ra4 (v : Value) (w : World) (hs : SeesS w v (xRow xe)) : Calls Try.prog 19 #[v] w fun e w' => e = .returned (.tuple #[.agg (fcs zF), .int .i64 12]) ∧ Below w.heap.size w w' := by
  have h := tkfeed_any v (xRow xe) w hs
  rw [takeF_else (by decide)] at h
  exact h
theorem ra5 (w : World) : Calls Try.prog 13 #[.agg (fcs zF)] w fun e w' => e = .returned (.bool false) ∧ Below w.heap.size w w' := by
  have h := fright_any zF w
  rw [zF_no] at h
  exact h
theorem ra6 (w : World) : Calls Try.prog 14 #[.agg (xcs zX)] w fun e w' => e = .returned (.bool false) ∧ Below w.heap.size w w' := by
  have h := xright_any zX w
  rw [zX_no] at h
  exact h

set_option maxHeartbeats 8000000 in
set_option maxRecDepth 100000 in
theorem rwawake_any (w : World) : Calls Try.prog 8 #[] w fun e w' => e = .returned (.bool true) ∧ Below w.heap.size w w' := by
  go_enter Try.func8, Try.ntmps8
  go_wp2_with fail
  refine (ra1 _).mono ?_
  rintro e w1 ⟨g, off, rfl, hg, c0, c2, hb⟩
  have K1 := Lib.hid hb
  have HG := Lib.hid hg
  have C0 := Lib.hid c0
  have C2 := Lib.hid c2
  clear hb hg c0 c2
  have A2 := Lib.hid (heap_alloc_new w1 (.cells (xcs zX) 25))
  have SA2 := Lib.hid (storeX (ds := xcs xe) rfl rfl (xcs_one xe) _ _ A2.out)
  have X2 := Lib.hid (setRow_heap _ w1.heap.size _ (xcs xe) _ _ A2.out)
  have J2 := Lib.hid (below_put (below_made w1 (.cells (xcs zX) 25)) (Nat.le_refl _) (xcs xe))
  have L2 := Lib.hid (loadX (xcs_size xe) _ _ X2.out)
  go_wp2_with (first
    | (refine wpList_storeg (t := 25) (x := .tmp 3) (y := .tmp 15) rfl rfl (.pointer (some ⟨w1.heap.size, 0, none⟩)) (.agg (xcs xe)) rfl rfl SA2.out ?_)
    | (refine wpList_loadg (t := 25) (x := .tmp 3) rfl rfl (.pointer (some ⟨w1.heap.size, 0, none⟩)) rfl L2.out ?_))
  refine (ra2 _).mono ?_
  rintro e w3 ⟨a3, rfl, hs3, hb⟩
  have S3 := Lib.hid hs3
  have J3 := Lib.hid (J2.out.trans (hb.mono J2.out.size))
  have X3 := Lib.hid (keepX X2.out hb)
  clear hb hs3 L2 SA2
  go_wp2_with fail
  refine (ra3 _ _ S3.out).mono ?_
  rintro e w4 ⟨rfl, hb⟩
  have J4 := Lib.hid (J3.out.trans (hb.mono J3.out.size))
  have X4 := Lib.hid (keepX X3.out hb)
  have S4 := Lib.hid (S3.out.later hb)
  clear hb S3
  have A5 := Lib.hid (heap_alloc_new w4 (.cells (xcs zX) 25))
  have SA5 := Lib.hid (storeX (ds := xcs xe) rfl rfl (xcs_one xe) _ _ A5.out)
  have Y5 := Lib.hid (setRow_heap _ w4.heap.size _ (xcs xe) _ _ A5.out)
  have X5 := Lib.hid (box_put (box_alloc X4.out (.cells (xcs zX) 25)) (Nat.ne_of_lt (box_lt X4.out)) (xcs xe))
  have I5 := Lib.hid (below_put (below_made w4 (.cells (xcs zX) 25)) (Nat.le_refl _) (xcs xe))
  have J5 := Lib.hid (J4.out.trans (I5.out.mono J4.out.size))
  have S5 := Lib.hid (S4.out.later I5.out)
  go_wp2_with (refine wpList_storeg (t := 25) (x := .tmp 6) (y := .tmp 24) rfl rfl (.pointer (some ⟨w4.heap.size, 0, none⟩)) (.agg (xcs xe)) rfl rfl SA5.out ?_)
  refine (ra4 _ _ S5.out).mono ?_
  rintro e w6 ⟨rfl, hb⟩
  have J6 := Lib.hid (J5.out.trans (hb.mono J5.out.size))
  have X6 := Lib.hid (keepX X5.out hb)
  have Y6 := Lib.hid (keepX Y5.out hb)
  clear hb S5 S4 SA5
  have A7 := Lib.hid (heap_alloc_new w6 (.cells (fcs zF) 23))
  have SA7 := Lib.hid (storeF (ds := fcs zF) rfl rfl (fcs_one zF) _ _ A7.out)
  have X7 := Lib.hid (box_put (box_alloc X6.out (.cells (fcs zF) 23)) (Nat.ne_of_lt (box_lt X6.out)) (fcs zF))
  have Y7 := Lib.hid (box_put (box_alloc Y6.out (.cells (fcs zF) 23)) (Nat.ne_of_lt (box_lt Y6.out)) (fcs zF))
  have I7 := Lib.hid (below_put (below_made w6 (.cells (fcs zF) 23)) (Nat.le_refl _) (fcs zF))
  have J7 := Lib.hid (J6.out.trans (I7.out.mono J6.out.size))
  have LX7 := Lib.hid (loadX (xcs_size xe) _ _ X7.out)
  have LY7 := Lib.hid (loadX (xcs_size xe) _ _ Y7.out)
  have K7 := Lib.hid (K1.out.trans (J7.out.mono K1.out.size))
  have c0 := (J7.out.cell (p := ⟨g, off + 2, none⟩) HG.out).trans C0.out
  have c2 := (J7.out.cell (p := ⟨g, off + 8, none⟩) HG.out).trans C2.out
  go_wp2_with (first
    | (refine wpList_storeg (t := 23) (x := .tmp 8) (y := .tmp 29) rfl rfl (.pointer (some ⟨w6.heap.size, 0, none⟩)) (.agg (fcs zF)) rfl rfl SA7.out ?_)
    | (refine wpList_loadg (t := 25) (x := .tmp 6) rfl rfl (.pointer (some ⟨w4.heap.size, 0, none⟩)) rfl LY7.out ?_)
    | (refine wpList_loadg (t := 25) (x := .tmp 3) rfl rfl (.pointer (some ⟨w1.heap.size, 0, none⟩)) rfl LX7.out ?_)
    | (refine wpList_val (.bool true) rfl (exec_eql (t := 25) (x := .tmp 64) (y := .tmp 65) (xs := xcs xe) (ys := xcs xe) rfl rfl rfl guardX (eqX_same xe _)) ?_))
  refine (ra5 _).mono ?_
  rintro e w8 ⟨rfl, hb⟩
  have K8 := Lib.hid (K7.out.trans (hb.mono K7.out.size))
  clear hb c0 c2 LX7 LY7 SA7
  go_wp2_with fail
  refine (ra6 _).mono ?_
  rintro e w9 ⟨rfl, hb⟩
  have K9 := Lib.hid (K8.out.trans (hb.mono K8.out.size))
  clear hb
  go_wp2_with fail
  go_ret
  exact ⟨rfl, K9.out⟩
end Go.Proofs.Ytahocamjihhjhaa
