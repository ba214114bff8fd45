/-
  Are a feed's, an episode's texts short: the reference's walks (laid by gen_rowsshort.py).
-/
import Derived.Test.YtahocamjihhjhaaRowsSt
import Derived.Test.YtahocamjihhjhaaRowsPut
namespace Go.Proofs.Ytahocamjihhjhaa
open Go.RowKit StrM VaryM CodeM RowsM

set_option maxHeartbeats 2000000 in
set_option maxRecDepth 100000 in
theorem fshort_any (f : F) (w : World) : Calls Try.prog 6 #[fagg f] w fun e w' => (∃ b, e = .returned (.bool b)) ∧ Below w.heap.size w w' := by
  rw [fagg_cs]
  have f1 : (fcs f)[1]? = some (.string f.url) := rfl
  have f2 : (fcs f)[2]? = some (.string f.tag) := rfl
  generalize fcs f = cs at *
  generalize f.url = url at *
  generalize f.tag = tag at *
  have R0 := Lib.hid (heap_alloc_new w (.cells cs 23))
  have K0 := Lib.hid (below_made w (.cells cs 23))
  have c1 := fieldX R0.out f1
  have c2 := fieldX R0.out f2
  by_cases h1 : ¬ (url.size : Int) ≤ 400
  · have d1 : decide ((url.size : Int) ≤ 400) = false := decide_eq_false h1
    clear h1
    go_enter Try.func6, Try.ntmps6
    go_wp2_with fail
    go_ret
    exact ⟨⟨_, rfl⟩, K0.out⟩
  have d1 : (url.size : Int) ≤ 400 := Decidable.not_not.1 h1
  clear h1
  by_cases h2 : ¬ (tag.size : Int) ≤ 400
  · have d2 : decide ((tag.size : Int) ≤ 400) = false := decide_eq_false h2
    clear h2
    go_enter Try.func6, Try.ntmps6
    go_wp2_with fail
    go_ret
    exact ⟨⟨_, rfl⟩, K0.out⟩
  have d2 : (tag.size : Int) ≤ 400 := Decidable.not_not.1 h2
  clear h2
  go_enter Try.func6, Try.ntmps6
  go_wp2_with fail
  go_ret
  exact ⟨⟨_, rfl⟩, K0.out⟩

set_option maxHeartbeats 2000000 in
set_option maxRecDepth 100000 in
theorem xshort_any (x : X) (w : World) : Calls Try.prog 7 #[xagg x] w fun e w' => (∃ b, e = .returned (.bool b)) ∧ Below w.heap.size w w' := by
  unfold xagg
  have f2 : (xcs x)[2]? = some (.string x.guid) := rfl
  have f3 : (xcs x)[3]? = some (.string x.url) := rfl
  have f4 : (xcs x)[4]? = some (.string x.title) := rfl
  have f13 : (xcs x)[13]? = some (.string x.cur) := rfl
  have f16 : (xcs x)[16]? = some (.string x.tag) := rfl
  have f19 : (xcs x)[19]? = some (.string x.sha) := rfl
  generalize xcs x = cs at *
  generalize x.guid = guid at *
  generalize x.url = url at *
  generalize x.title = title at *
  generalize x.cur = cur at *
  generalize x.tag = tag at *
  generalize x.sha = sha at *
  have R0 := Lib.hid (heap_alloc_new w (.cells cs 25))
  have K0 := Lib.hid (below_made w (.cells cs 25))
  have c2 := fieldX R0.out f2
  have c3 := fieldX R0.out f3
  have c4 := fieldX R0.out f4
  have c13 := fieldX R0.out f13
  have c16 := fieldX R0.out f16
  have c19 := fieldX R0.out f19
  by_cases h2 : ¬ (guid.size : Int) ≤ 400
  · have d2 : decide ((guid.size : Int) ≤ 400) = false := decide_eq_false h2
    clear h2
    go_enter Try.func7, Try.ntmps7
    go_wp2_with fail
    go_ret
    exact ⟨⟨_, rfl⟩, K0.out⟩
  have d2 : (guid.size : Int) ≤ 400 := Decidable.not_not.1 h2
  clear h2
  by_cases h3 : ¬ (url.size : Int) ≤ 400
  · have d3 : decide ((url.size : Int) ≤ 400) = false := decide_eq_false h3
    clear h3
    go_enter Try.func7, Try.ntmps7
    go_wp2_with fail
    go_ret
    exact ⟨⟨_, rfl⟩, K0.out⟩
  have d3 : (url.size : Int) ≤ 400 := Decidable.not_not.1 h3
  clear h3
  by_cases h4 : ¬ (title.size : Int) ≤ 400
  · have d4 : decide ((title.size : Int) ≤ 400) = false := decide_eq_false h4
    clear h4
    go_enter Try.func7, Try.ntmps7
    go_wp2_with fail
    go_ret
    exact ⟨⟨_, rfl⟩, K0.out⟩
  have d4 : (title.size : Int) ≤ 400 := Decidable.not_not.1 h4
  clear h4
  by_cases h13 : ¬ (cur.size : Int) ≤ 400
  · have d13 : decide ((cur.size : Int) ≤ 400) = false := decide_eq_false h13
    clear h13
    go_enter Try.func7, Try.ntmps7
    go_wp2_with fail
    go_ret
    exact ⟨⟨_, rfl⟩, K0.out⟩
  have d13 : (cur.size : Int) ≤ 400 := Decidable.not_not.1 h13
  clear h13
  by_cases h16 : ¬ (tag.size : Int) ≤ 400
  · have d16 : decide ((tag.size : Int) ≤ 400) = false := decide_eq_false h16
    clear h16
    go_enter Try.func7, Try.ntmps7
    go_wp2_with fail
    go_ret
    exact ⟨⟨_, rfl⟩, K0.out⟩
  have d16 : (tag.size : Int) ≤ 400 := Decidable.not_not.1 h16
  clear h16
  by_cases h19 : ¬ (sha.size : Int) ≤ 400
  · have d19 : decide ((sha.size : Int) ≤ 400) = false := decide_eq_false h19
    clear h19
    go_enter Try.func7, Try.ntmps7
    go_wp2_with fail
    go_ret
    exact ⟨⟨_, rfl⟩, K0.out⟩
  have d19 : (sha.size : Int) ≤ 400 := Decidable.not_not.1 h19
  clear h19
  go_enter Try.func7, Try.ntmps7
  go_wp2_with fail
  go_ret
  exact ⟨⟨_, rfl⟩, K0.out⟩
end Go.Proofs.Ytahocamjihhjhaa
