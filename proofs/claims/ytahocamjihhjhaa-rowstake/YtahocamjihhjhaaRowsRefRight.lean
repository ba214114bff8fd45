/-
  Which feeds and episodes are right: the reference's walks (laid by gen_rowsref.py).
-/
import Derived.Test.YtahocamjihhjhaaRowsSt
namespace Go.Proofs.Ytahocamjihhjhaa
open Go.RowKit StrM VaryM CodeM RowsM

set_option maxHeartbeats 4000000 in
set_option maxRecDepth 100000 in
theorem rfright_any (f : F) (w : World) : Calls Try.prog 11 #[fagg f] w fun e w' => e = .returned (.bool (fOk f)) ∧ Below w.heap.size w w' := by
  obtain ⟨id, url, tag, next, fails⟩ := f
  obtain ⟨r, hr⟩ : ∃ r, r = fOk ⟨id, url, tag, next, fails⟩ := ⟨_, rfl⟩
  rw [← hr]
  have HR := Lib.hid hr
  clear hr
  simp only [fagg]
  have C0 := Lib.hid (fun w => rcount_any id 1 w)
  have C1 := Lib.hid (fun w => rnam_any url w)
  have C2 := Lib.hid (fun w => rtxt_any tag w)
  have C3 := Lib.hid (fun w => rsize_any next w)
  have C4 := Lib.hid (fun w => rcount_any fails 0 w)
  go_enter Try.func11, Try.ntmps11
  go_wp2_with fail
  refine (C0.out _).mono ?_
  rintro e w' ⟨rfl, rfl⟩
  cases h0 : cnt 1 id
  · have HX := Lib.hid (show false = r by simp only [HR.out, fOk, h0, Bool.false_and])
    clear h0
    go_wp2_with fail
    go_ret
    exact ⟨ret_bool HX.out, below_made w _⟩
  have H0 := Lib.hid h0
  clear h0
  go_wp2_with fail
  refine (C1.out _).mono ?_
  rintro e w' ⟨rfl, rfl⟩
  cases h1 : nam url
  · have HX := Lib.hid (show false = r by simp only [HR.out, fOk, h1, Bool.false_and, Bool.and_false])
    clear h1
    go_wp2_with fail
    go_ret
    exact ⟨ret_bool HX.out, below_made w _⟩
  have H1 := Lib.hid h1
  clear h1
  go_wp2_with fail
  refine (C2.out _).mono ?_
  rintro e w' ⟨rfl, rfl⟩
  cases h2 : txt tag
  · have HX := Lib.hid (show false = r by simp only [HR.out, fOk, h2, Bool.false_and, Bool.and_false])
    clear h2
    go_wp2_with fail
    go_ret
    exact ⟨ret_bool HX.out, below_made w _⟩
  have H2 := Lib.hid h2
  clear h2
  go_wp2_with fail
  refine (C3.out _).mono ?_
  rintro e w' ⟨rfl, rfl⟩
  cases h3 : siz next
  · have HX := Lib.hid (show false = r by simp only [HR.out, fOk, h3, Bool.false_and, Bool.and_false])
    clear h3
    go_wp2_with fail
    go_ret
    exact ⟨ret_bool HX.out, below_made w _⟩
  have H3 := Lib.hid h3
  clear h3
  go_wp2_with fail
  refine (C4.out _).mono ?_
  rintro e w' ⟨rfl, rfl⟩
  have HX := Lib.hid (show cnt 0 fails = r by simp only [HR.out, fOk, H0.out, H1.out, H2.out, H3.out, Bool.true_and])
  go_wp2_with fail
  go_ret
  exact ⟨ret_bool HX.out, below_made w _⟩

theorem xnot_of {x : X} (h : numOk x = false ∨ txtOk x = false) : false = xOk x := by
  unfold xOk
  rcases h with h | h <;> rw [h]
  · rfl
  · simp only [Bool.false_and, Bool.and_false]
theorem unk_not {n : Int} (h : n < -1 ∨ 1099511627776 < n) : unk n = false := by
  simp [unk, siz]; omega
theorem unk_yes {n : Int} (h1 : ¬ n < -1) (h2 : ¬ 1099511627776 < n) : unk n = true := by
  simp [unk, siz]; omega
theorem xall_of {x : X} (h0 : cnt 1 x.id = true) (h1 : cnt 1 x.feed = true) (h2 : nam x.guid = true) (h3 : nam x.url = true) (h4 : txt x.title = true) (h5 : txt x.cur = true) (h6 : txt x.tag = true) (h7 : siz x.pos = true) (h8 : siz x.next = true) (h9 : cnt 0 x.tries = true) (h10 : cnt 0 x.gen = true) (d0 : ¬ x.date < -1099511627776) (d1 : ¬ 1099511627776 < x.date) (d2 : ¬ x.long < -1) (d3 : ¬ 1099511627776 < x.long) (d4 : ¬ x.total < -1) (d5 : ¬ 1099511627776 < x.total) (d6 : ¬ x.hops < 0) (d7 : ¬ 3 < x.hops) (d8 : ¬ x.size < 0) (d9 : ¬ 65536 < x.size) : xOk x = stOk x := by
  unfold xOk numOk txtOk
  rw [h0, h1, h2, h3, h4, h5, h6, h7, h8, h9, h10, unk_yes d2 d3, unk_yes d4 d5]
  rw [show decide (-1099511627776 ≤ x.date) = true from decide_eq_true (by omega), show decide (x.date ≤ 1099511627776) = true from decide_eq_true (by omega), show decide (0 ≤ x.size) = true from decide_eq_true (by omega), show decide (x.size ≤ 65536) = true from decide_eq_true (by omega), show decide (0 ≤ x.hops) = true from decide_eq_true (by omega), show decide (x.hops ≤ 3) = true from decide_eq_true (by omega)]
  rfl

set_option maxHeartbeats 8000000 in
set_option maxRecDepth 100000 in
theorem rxright_any (x : X) (hsha : x.sha.size ≤ maxLen) (w : World) : Calls Try.prog 12 #[xagg x] w fun e w' => e = .returned (.bool (xOk x)) ∧ Below w.heap.size w w' := by
  have C0 := Lib.hid (fun w => rcount_any x.id 1 w)
  have C1 := Lib.hid (fun w => rcount_any x.feed 1 w)
  have C2 := Lib.hid (fun w => rnam_any x.guid w)
  have C3 := Lib.hid (fun w => rnam_any x.url w)
  have C4 := Lib.hid (fun w => rtxt_any x.title w)
  have C5 := Lib.hid (fun w => rtxt_any x.cur w)
  have C6 := Lib.hid (fun w => rtxt_any x.tag w)
  have C7 := Lib.hid (fun w => rsize_any x.pos w)
  have C8 := Lib.hid (fun w => rsize_any x.next w)
  have C9 := Lib.hid (fun w => rcount_any x.tries 0 w)
  have C10 := Lib.hid (fun w => rcount_any x.gen 0 w)
  have CD := Lib.hid (fun w => rdigits_any x.sha w hsha)
  clear hsha
  unfold xagg
  have f0 : (xcs x)[0]? = some (.int .i64 x.id) := rfl
  have f1 : (xcs x)[1]? = some (.int .i64 x.feed) := rfl
  have f2 : (xcs x)[2]? = some (.string x.guid) := rfl
  have f3 : (xcs x)[3]? = some (.string x.url) := rfl
  have f4 : (xcs x)[4]? = some (.string x.title) := rfl
  have f5 : (xcs x)[5]? = some (.int .i64 x.date) := rfl
  have f6 : (xcs x)[6]? = some (.int .i64 x.long) := rfl
  have f7 : (xcs x)[7]? = some (.int .i64 x.st) := rfl
  have f8 : (xcs x)[8]? = some (.int .i64 x.why) := rfl
  have f10 : (xcs x)[10]? = some (.int .i64 x.pos) := rfl
  have f11 : (xcs x)[11]? = some (.int .i64 x.tries) := rfl
  have f12 : (xcs x)[12]? = some (.int .i64 x.next) := rfl
  have f13 : (xcs x)[13]? = some (.string x.cur) := rfl
  have f14 : (xcs x)[14]? = some (.int .i64 x.hops) := rfl
  have f15 : (xcs x)[15]? = some (.int .i64 x.gen) := rfl
  have f16 : (xcs x)[16]? = some (.string x.tag) := rfl
  have f17 : (xcs x)[17]? = some (.int .i64 x.total) := rfl
  have f18 : (xcs x)[18]? = some (.int .i64 x.size) := rfl
  have f19 : (xcs x)[19]? = some (.string x.sha) := rfl
  obtain ⟨r, hr⟩ : ∃ r, r = xOk x := ⟨_, rfl⟩
  rw [← hr]
  have F0 := Lib.hid (show cnt 1 x.id = false → false = r from fun h => by rw [hr]; exact xnot_of (.inl (by unfold numOk; rw [h]; simp)))
  have F1 := Lib.hid (show cnt 1 x.feed = false → false = r from fun h => by rw [hr]; exact xnot_of (.inl (by unfold numOk; rw [h]; simp)))
  have F2 := Lib.hid (show nam x.guid = false → false = r from fun h => by rw [hr]; exact xnot_of (.inr (by unfold txtOk; rw [h]; simp)))
  have F3 := Lib.hid (show nam x.url = false → false = r from fun h => by rw [hr]; exact xnot_of (.inr (by unfold txtOk; rw [h]; simp)))
  have F4 := Lib.hid (show txt x.title = false → false = r from fun h => by rw [hr]; exact xnot_of (.inr (by unfold txtOk; rw [h]; simp)))
  have F5 := Lib.hid (show txt x.cur = false → false = r from fun h => by rw [hr]; exact xnot_of (.inr (by unfold txtOk; rw [h]; simp)))
  have F6 := Lib.hid (show txt x.tag = false → false = r from fun h => by rw [hr]; exact xnot_of (.inr (by unfold txtOk; rw [h]; simp)))
  have F7 := Lib.hid (show siz x.pos = false → false = r from fun h => by rw [hr]; exact xnot_of (.inl (by unfold numOk; rw [h]; simp)))
  have F8 := Lib.hid (show siz x.next = false → false = r from fun h => by rw [hr]; exact xnot_of (.inl (by unfold numOk; rw [h]; simp)))
  have F9 := Lib.hid (show cnt 0 x.tries = false → false = r from fun h => by rw [hr]; exact xnot_of (.inl (by unfold numOk; rw [h]; simp)))
  have F10 := Lib.hid (show cnt 0 x.gen = false → false = r from fun h => by rw [hr]; exact xnot_of (.inl (by unfold numOk; rw [h]; simp)))
  have G0 := Lib.hid (show x.date < -1099511627776 → false = r from fun h => by rw [hr]; exact xnot_of (.inl (by have hu : decide (-1099511627776 ≤ x.date) = false := decide_eq_false (by omega); unfold numOk; rw [hu]; simp)))
  have G1 := Lib.hid (show 1099511627776 < x.date → false = r from fun h => by rw [hr]; exact xnot_of (.inl (by have hu : decide (x.date ≤ 1099511627776) = false := decide_eq_false (by omega); unfold numOk; rw [hu]; simp)))
  have G2 := Lib.hid (show x.long < -1 → false = r from fun h => by rw [hr]; exact xnot_of (.inl (by have hu := unk_not (n := x.long) (.inl h); unfold numOk; rw [hu]; simp)))
  have G3 := Lib.hid (show 1099511627776 < x.long → false = r from fun h => by rw [hr]; exact xnot_of (.inl (by have hu := unk_not (n := x.long) (.inr h); unfold numOk; rw [hu]; simp)))
  have G4 := Lib.hid (show x.total < -1 → false = r from fun h => by rw [hr]; exact xnot_of (.inl (by have hu := unk_not (n := x.total) (.inl h); unfold numOk; rw [hu]; simp)))
  have G5 := Lib.hid (show 1099511627776 < x.total → false = r from fun h => by rw [hr]; exact xnot_of (.inl (by have hu := unk_not (n := x.total) (.inr h); unfold numOk; rw [hu]; simp)))
  have G6 := Lib.hid (show x.hops < 0 → false = r from fun h => by rw [hr]; exact xnot_of (.inl (by have hu : decide (0 ≤ x.hops) = false := decide_eq_false (by omega); unfold numOk; rw [hu]; simp)))
  have G7 := Lib.hid (show 3 < x.hops → false = r from fun h => by rw [hr]; exact xnot_of (.inl (by have hu : decide (x.hops ≤ 3) = false := decide_eq_false (by omega); unfold numOk; rw [hu]; simp)))
  have G8 := Lib.hid (show x.size < 0 → false = r from fun h => by rw [hr]; exact xnot_of (.inl (by have hu : decide (0 ≤ x.size) = false := decide_eq_false (by omega); unfold numOk; rw [hu]; simp)))
  have G9 := Lib.hid (show 65536 < x.size → false = r from fun h => by rw [hr]; exact xnot_of (.inl (by have hu : decide (x.size ≤ 65536) = false := decide_eq_false (by omega); unfold numOk; rw [hu]; simp)))
  have FE := Lib.hid (show cnt 1 x.id = true → cnt 1 x.feed = true → nam x.guid = true → nam x.url = true → txt x.title = true → txt x.cur = true → txt x.tag = true → siz x.pos = true → siz x.next = true → cnt 0 x.tries = true → cnt 0 x.gen = true → ¬ x.date < -1099511627776 → ¬ 1099511627776 < x.date → ¬ x.long < -1 → ¬ 1099511627776 < x.long → ¬ x.total < -1 → ¬ 1099511627776 < x.total → ¬ x.hops < 0 → ¬ 3 < x.hops → ¬ x.size < 0 → ¬ 65536 < x.size → r = stOk x from fun h0 h1 h2 h3 h4 h5 h6 h7 h8 h9 h10 h11 h12 h13 h14 h15 h16 h17 h18 h19 h20 => by rw [hr]; exact xall_of h0 h1 h2 h3 h4 h5 h6 h7 h8 h9 h10 h11 h12 h13 h14 h15 h16 h17 h18 h19 h20)
  have HS := Lib.hid (show stOk x = (if x.st = 1 ∨ x.st = 2 ∨ x.st = 5 then x.why == 0 && (x.size == 0 && x.sha.size == 0) else if x.st = 3 then x.why == 0 && hashOk x.sha else if x.st = 4 then decide (1 ≤ x.why) && (decide (x.why ≤ 4) && (x.size == 0 && x.sha.size == 0)) else false) from rfl)
  clear hr
  generalize stOk x = s at *
  generalize xcs x = cs at *
  generalize x.id = id at *
  generalize x.feed = feed at *
  generalize x.guid = guid at *
  generalize x.url = url at *
  generalize x.title = title at *
  generalize x.date = date at *
  generalize x.long = long at *
  generalize x.st = st at *
  generalize x.why = why at *
  generalize x.pos = pos at *
  generalize x.tries = tries at *
  generalize x.next = next at *
  generalize x.cur = cur at *
  generalize x.hops = hops at *
  generalize x.gen = gen at *
  generalize x.tag = tag at *
  generalize x.total = total at *
  generalize x.size = size at *
  generalize x.sha = sha at *
  have R0 := Lib.hid (heap_alloc_new w (.cells cs 25))
  have c0 := fieldX R0.out f0
  have c1 := fieldX R0.out f1
  have c2 := fieldX R0.out f2
  have c3 := fieldX R0.out f3
  have c4 := fieldX R0.out f4
  have c5 := fieldX R0.out f5
  have c6 := fieldX R0.out f6
  have c7 := fieldX R0.out f7
  have c8 := fieldX R0.out f8
  have c10 := fieldX R0.out f10
  have c11 := fieldX R0.out f11
  have c12 := fieldX R0.out f12
  have c13 := fieldX R0.out f13
  have c14 := fieldX R0.out f14
  have c15 := fieldX R0.out f15
  have c16 := fieldX R0.out f16
  have c17 := fieldX R0.out f17
  have c18 := fieldX R0.out f18
  have c19 := fieldX R0.out f19
  have K0 := Lib.hid (below_made w (.cells cs 25))
  go_enter Try.func12, Try.ntmps12
  go_wp2_with fail
  refine (C0.out _).mono ?_
  rintro e w' ⟨rfl, rfl⟩
  cases h0 : cnt 1 id
  · have HX := Lib.hid (F0.out h0)
    clear h0
    go_wp2_with fail
    go_ret
    exact ⟨ret_bool HX.out, K0.out⟩
  have H0 := Lib.hid h0
  clear h0
  go_wp2_with fail
  refine (C1.out _).mono ?_
  rintro e w' ⟨rfl, rfl⟩
  cases h1 : cnt 1 feed
  · have HX := Lib.hid (F1.out h1)
    clear h1
    go_wp2_with fail
    go_ret
    exact ⟨ret_bool HX.out, K0.out⟩
  have H1 := Lib.hid h1
  clear h1
  go_wp2_with fail
  refine (C2.out _).mono ?_
  rintro e w' ⟨rfl, rfl⟩
  cases h2 : nam guid
  · have HX := Lib.hid (F2.out h2)
    clear h2
    go_wp2_with fail
    go_ret
    exact ⟨ret_bool HX.out, K0.out⟩
  have H2 := Lib.hid h2
  clear h2
  go_wp2_with fail
  refine (C3.out _).mono ?_
  rintro e w' ⟨rfl, rfl⟩
  cases h3 : nam url
  · have HX := Lib.hid (F3.out h3)
    clear h3
    go_wp2_with fail
    go_ret
    exact ⟨ret_bool HX.out, K0.out⟩
  have H3 := Lib.hid h3
  clear h3
  go_wp2_with fail
  refine (C4.out _).mono ?_
  rintro e w' ⟨rfl, rfl⟩
  cases h4 : txt title
  · have HX := Lib.hid (F4.out h4)
    clear h4
    go_wp2_with fail
    go_ret
    exact ⟨ret_bool HX.out, K0.out⟩
  have H4 := Lib.hid h4
  clear h4
  go_wp2_with fail
  refine (C5.out _).mono ?_
  rintro e w' ⟨rfl, rfl⟩
  cases h5 : txt cur
  · have HX := Lib.hid (F5.out h5)
    clear h5
    go_wp2_with fail
    go_ret
    exact ⟨ret_bool HX.out, K0.out⟩
  have H5 := Lib.hid h5
  clear h5
  go_wp2_with fail
  refine (C6.out _).mono ?_
  rintro e w' ⟨rfl, rfl⟩
  cases h6 : txt tag
  · have HX := Lib.hid (F6.out h6)
    clear h6
    go_wp2_with fail
    go_ret
    exact ⟨ret_bool HX.out, K0.out⟩
  have H6 := Lib.hid h6
  clear h6
  by_cases n0 : date < -1099511627776
  · have HX := Lib.hid (G0.out n0)
    go_wp2_with fail
    go_ret
    exact ⟨ret_bool HX.out, K0.out⟩
  have N0 := Lib.hid n0
  have e0 : decide (date < (-1099511627776 : Int)) = false := decide_eq_false n0
  clear n0
  by_cases n1 : 1099511627776 < date
  · have HX := Lib.hid (G1.out n1)
    go_wp2_with fail
    go_ret
    exact ⟨ret_bool HX.out, K0.out⟩
  have N1 := Lib.hid n1
  have e1 : decide ((1099511627776 : Int) < date) = false := decide_eq_false n1
  clear n1
  by_cases n2 : long < -1
  · have HX := Lib.hid (G2.out n2)
    go_wp2_with fail
    go_ret
    exact ⟨ret_bool HX.out, K0.out⟩
  have N2 := Lib.hid n2
  have e2 : decide (long < (-1 : Int)) = false := decide_eq_false n2
  clear n2
  by_cases n3 : 1099511627776 < long
  · have HX := Lib.hid (G3.out n3)
    go_wp2_with fail
    go_ret
    exact ⟨ret_bool HX.out, K0.out⟩
  have N3 := Lib.hid n3
  have e3 : decide ((1099511627776 : Int) < long) = false := decide_eq_false n3
  clear n3
  by_cases n4 : total < -1
  · have HX := Lib.hid (G4.out n4)
    go_wp2_with fail
    go_ret
    exact ⟨ret_bool HX.out, K0.out⟩
  have N4 := Lib.hid n4
  have e4 : decide (total < (-1 : Int)) = false := decide_eq_false n4
  clear n4
  by_cases n5 : 1099511627776 < total
  · have HX := Lib.hid (G5.out n5)
    go_wp2_with fail
    go_ret
    exact ⟨ret_bool HX.out, K0.out⟩
  have N5 := Lib.hid n5
  have e5 : decide ((1099511627776 : Int) < total) = false := decide_eq_false n5
  clear n5
  go_wp2_with fail
  clear e0 e1 e2 e3 e4 e5
  refine (C7.out _).mono ?_
  rintro e w' ⟨rfl, rfl⟩
  cases h7 : siz pos
  · have HX := Lib.hid (F7.out h7)
    clear h7
    go_wp2_with fail
    go_ret
    exact ⟨ret_bool HX.out, K0.out⟩
  have H7 := Lib.hid h7
  clear h7
  go_wp2_with fail
  refine (C8.out _).mono ?_
  rintro e w' ⟨rfl, rfl⟩
  cases h8 : siz next
  · have HX := Lib.hid (F8.out h8)
    clear h8
    go_wp2_with fail
    go_ret
    exact ⟨ret_bool HX.out, K0.out⟩
  have H8 := Lib.hid h8
  clear h8
  go_wp2_with fail
  refine (C9.out _).mono ?_
  rintro e w' ⟨rfl, rfl⟩
  cases h9 : cnt 0 tries
  · have HX := Lib.hid (F9.out h9)
    clear h9
    go_wp2_with fail
    go_ret
    exact ⟨ret_bool HX.out, K0.out⟩
  have H9 := Lib.hid h9
  clear h9
  go_wp2_with fail
  refine (C10.out _).mono ?_
  rintro e w' ⟨rfl, rfl⟩
  cases h10 : cnt 0 gen
  · have HX := Lib.hid (F10.out h10)
    clear h10
    go_wp2_with fail
    go_ret
    exact ⟨ret_bool HX.out, K0.out⟩
  have H10 := Lib.hid h10
  clear h10
  by_cases n6 : hops < 0
  · have HX := Lib.hid (G6.out n6)
    go_wp2_with fail
    go_ret
    exact ⟨ret_bool HX.out, K0.out⟩
  have N6 := Lib.hid n6
  have e6 : decide (hops < (0 : Int)) = false := decide_eq_false n6
  clear n6
  by_cases n7 : 3 < hops
  · have HX := Lib.hid (G7.out n7)
    go_wp2_with fail
    go_ret
    exact ⟨ret_bool HX.out, K0.out⟩
  have N7 := Lib.hid n7
  have e7 : decide ((3 : Int) < hops) = false := decide_eq_false n7
  clear n7
  by_cases n8 : size < 0
  · have HX := Lib.hid (G8.out n8)
    go_wp2_with fail
    go_ret
    exact ⟨ret_bool HX.out, K0.out⟩
  have N8 := Lib.hid n8
  have e8 : decide (size < (0 : Int)) = false := decide_eq_false n8
  clear n8
  by_cases n9 : 65536 < size
  · have HX := Lib.hid (G9.out n9)
    go_wp2_with fail
    go_ret
    exact ⟨ret_bool HX.out, K0.out⟩
  have N9 := Lib.hid n9
  have e9 : decide ((65536 : Int) < size) = false := decide_eq_false n9
  clear n9
  have FZ := Lib.hid (FE.out H0.out H1.out H2.out H3.out H4.out H5.out H6.out H7.out H8.out H9.out H10.out (by have := N0.out; omega) (by have := N1.out; omega) (by have := N2.out; omega) (by have := N3.out; omega) (by have := N4.out; omega) (by have := N5.out; omega) (by have := N6.out; omega) (by have := N7.out; omega) (by have := N8.out; omega) (by have := N9.out; omega))
  have HZ := Lib.hid (FZ.out.trans HS.out)
  clear FE HS FZ H0 H1 H2 H3 H4 H5 H6 H7 H8 H9 H10 N0 N1 N2 N3 N4 N5 N6 N7 N8 N9 F0 F1 F2 F3 F4 F5 F6 F7 F8 F9 F10 G0 G1 G2 G3 G4 G5 G6 G7 G8 G9 C0 C1 C2 C3 C4 C5 C6 C7 C8 C9 C10
  by_cases a4 : sha.size = 0
  case' pos =>
    have q4 : sha.toList.isEmpty = true := by rw [empty_size, a4]; rfl
    have A4 := Lib.hid (show (sha.size == 0) = true by rw [a4]; rfl)
  case' neg =>
    have q4 : sha.toList.isEmpty = false := by rw [empty_size]; simpa using a4
    have A4 := Lib.hid (show (sha.size == 0) = false by simpa using a4)
  all_goals
    clear a4
    by_cases s4 : st = 4
    · subst s4
      have HQ := Lib.hid (show r = (decide (1 ≤ why) && (decide (why ≤ 4) && (size == 0 && sha.size == 0))) from HZ.out)
      by_cases h1 : 1 ≤ why
      · by_cases h4 : why ≤ 4
        · by_cases h0 : size = 0
          · have HX := Lib.hid (show (sha.size == 0) = r by rw [HQ.out, decide_eq_true h1, decide_eq_true h4, h0]; simp)
            have HY := Lib.hid (A4.out.symm.trans HX.out)
            subst h0
            clear HX
            go_wp2_with fail
            go_ret
            exact ⟨ret_bool HY.out, K0.out⟩
          · have HY := Lib.hid (show false = r by rw [HQ.out]; simp [h0])
            have d0 : (size == 0) = false := by simpa using h0
            go_wp2_with fail
            go_ret
            exact ⟨ret_bool HY.out, K0.out⟩
        · have HY := Lib.hid (show false = r by rw [HQ.out, decide_eq_false h4]; simp)
          have d4 : decide (why ≤ (4 : Int)) = false := decide_eq_false h4
          clear h4
          go_wp2_with fail
          go_ret
          exact ⟨ret_bool HY.out, K0.out⟩
      · have HY := Lib.hid (show false = r by rw [HQ.out, decide_eq_false h1]; rfl)
        have d4 : decide ((1 : Int) ≤ why) = false := decide_eq_false h1
        clear h1
        go_wp2_with fail
        go_ret
        exact ⟨ret_bool HY.out, K0.out⟩
    have n4 : (st == 4) = false := by simpa using s4
    by_cases s3 : st = 3
    · subst s3
      clear n4
      have HQ := Lib.hid (show r = (why == 0 && hashOk sha) from HZ.out)
      by_cases h1 : why = 0
      · have HX := Lib.hid (show hashOk sha = r by rw [HQ.out, h1]; simp)
        subst h1
        go_wp2_with fail
        refine (CD.out _).mono ?_
        rintro e w1 ⟨rfl, rfl⟩
        go_wp2_with fail
        go_ret
        exact ⟨ret_bool HX.out, K0.out⟩
      · have HX := Lib.hid (show false = r by rw [HQ.out]; simp [h1])
        have d1 : (why == 0) = false := by simpa using h1
        go_wp2_with fail
        go_ret
        exact ⟨ret_bool HX.out, K0.out⟩
    have n3 : (st == 3) = false := by simpa using s3
    by_cases b1 : 1 ≤ st
    · by_cases b5 : st ≤ 5
      · have HQ := Lib.hid (show r = (why == 0 && (size == 0 && sha.size == 0)) by rw [HZ.out, if_pos (by omega)])
        by_cases h1 : why = 0
        · by_cases h0 : size = 0
          · have HX := Lib.hid (show (sha.size == 0) = r by rw [HQ.out, h1, h0]; simp)
            have HY := Lib.hid (A4.out.symm.trans HX.out)
            subst h0 h1
            clear HX
            go_wp2_with fail
            go_ret
            exact ⟨ret_bool HY.out, K0.out⟩
          · have HY := Lib.hid (show false = r by rw [HQ.out]; simp [h0])
            have d0 : (size == 0) = false := by simpa using h0
            subst h1
            go_wp2_with fail
            go_ret
            exact ⟨ret_bool HY.out, K0.out⟩
        · have HX := Lib.hid (show false = r by rw [HQ.out]; simp [h1])
          have d1 : (why == 0) = false := by simpa using h1
          go_wp2_with fail
          go_ret
          exact ⟨ret_bool HX.out, K0.out⟩
      · have HX := Lib.hid (show false = r by rw [HZ.out, if_neg (by omega), if_neg (by omega), if_neg (by omega)])
        have d5 : decide (st ≤ (5 : Int)) = false := decide_eq_false b5
        clear b5
        go_wp2_with fail
        go_ret
        exact ⟨ret_bool HX.out, K0.out⟩
    · have HX := Lib.hid (show false = r by rw [HZ.out, if_neg (by omega), if_neg (by omega), if_neg (by omega)])
      have d5 : decide ((1 : Int) ≤ st) = false := decide_eq_false b1
      clear b1
      go_wp2_with fail
      go_ret
      exact ⟨ret_bool HX.out, K0.out⟩
end Go.Proofs.Ytahocamjihhjhaa
