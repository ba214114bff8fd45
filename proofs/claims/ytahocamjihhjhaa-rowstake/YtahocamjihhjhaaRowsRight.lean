/-
  Which feeds and episodes are right: the code's walks (laid by gen_rowsright.py).
-/
import Derived.Test.YtahocamjihhjhaaRowsLeaf
namespace Go.Proofs.Ytahocamjihhjhaa
open Go.RowKit StrM VaryM CodeM RowsM

def fagg (f : F) : Value := .agg #[.int .i64 f.id, .string f.url, .string f.tag, .int .i64 f.next, .int .i64 f.fails]
def xcs (x : X) : Array Value := #[.int .i64 x.id, .int .i64 x.feed, .string x.guid, .string x.url, .string x.title, .int .i64 x.date, .int .i64 x.long, .int .i64 x.st, .int .i64 x.why, .bool x.pin, .int .i64 x.pos, .int .i64 x.tries, .int .i64 x.next, .string x.cur, .int .i64 x.hops, .int .i64 x.gen, .string x.tag, .int .i64 x.total, .int .i64 x.size, .string x.sha]
def xagg (x : X) : Value := .agg (xcs x)

set_option maxHeartbeats 4000000 in
set_option maxRecDepth 100000 in
theorem fright_any (f : F) (w : World) : Calls Try.prog 13 #[fagg f] w fun e w' => e = .returned (.bool (fOk f)) ∧ Below w.heap.size w w' := by
  obtain ⟨id, url, tag, next, fails⟩ := f
  obtain ⟨r, hr⟩ : ∃ r, r = fOk ⟨id, url, tag, next, fails⟩ := ⟨_, rfl⟩
  rw [← hr]
  have HR := Lib.hid hr
  clear hr
  simp only [fagg]
  have C0 := Lib.hid (fun w => isid_any id w)
  have C1 := Lib.hid (fun w => isnam_any url w)
  have C2 := Lib.hid (fun w => istxt_any tag w)
  have C3 := Lib.hid (fun w => rwis_any next w)
  have C4 := Lib.hid (fun w => iscnt_any fails w)
  go_enter Try.func13, Try.ntmps13
  go_wp2_with fail
  refine (C0.out _).mono ?_
  rintro e w' ⟨rfl, rfl⟩
  cases h0 : cnt 1 id
  · have HX := Lib.hid (show false = r by simp only [HR.out, fOk, h0, Bool.false_and])
    clear h0
    go_wp2_with fail
    go_ret
    exact ⟨ret_bool HX.out, below_made w _⟩
  have H0 := Lib.hid h0
  clear h0
  go_wp2_with fail
  refine (C1.out _).mono ?_
  rintro e w' ⟨rfl, rfl⟩
  cases h1 : nam url
  · have HX := Lib.hid (show false = r by simp only [HR.out, fOk, h1, Bool.false_and, Bool.and_false])
    clear h1
    go_wp2_with fail
    go_ret
    exact ⟨ret_bool HX.out, below_made w _⟩
  have H1 := Lib.hid h1
  clear h1
  go_wp2_with fail
  refine (C2.out _).mono ?_
  rintro e w' ⟨rfl, rfl⟩
  cases h2 : txt tag
  · have HX := Lib.hid (show false = r by simp only [HR.out, fOk, h2, Bool.false_and, Bool.and_false])
    clear h2
    go_wp2_with fail
    go_ret
    exact ⟨ret_bool HX.out, below_made w _⟩
  have H2 := Lib.hid h2
  clear h2
  go_wp2_with fail
  refine (C3.out _).mono ?_
  rintro e w' ⟨rfl, rfl⟩
  cases h3 : siz next
  · have HX := Lib.hid (show false = r by simp only [HR.out, fOk, h3, Bool.false_and, Bool.and_false])
    clear h3
    go_wp2_with fail
    go_ret
    exact ⟨ret_bool HX.out, below_made w _⟩
  have H3 := Lib.hid h3
  clear h3
  go_wp2_with fail
  refine (C4.out _).mono ?_
  rintro e w' ⟨rfl, rfl⟩
  have HX := Lib.hid (show cnt 0 fails = r by simp only [HR.out, fOk, H0.out, H1.out, H2.out, H3.out, Bool.true_and])
  go_wp2_with fail
  go_ret
  exact ⟨ret_bool HX.out, below_made w _⟩

set_option maxHeartbeats 4000000 in
set_option maxRecDepth 100000 in
theorem xnum_any (x : X) (w : World) : Calls Try.prog 35 #[xagg x] w fun e w' => e = .returned (.bool (numOk x)) ∧ Below w.heap.size w w' := by
  obtain ⟨id, feed, guid, url, title, date, long, st, why, pin, pos, tries, next, cur, hops, gen, tag, total, size, sha⟩ := x
  obtain ⟨r, hr⟩ : ∃ r, r = numOk ⟨id, feed, guid, url, title, date, long, st, why, pin, pos, tries, next, cur, hops, gen, tag, total, size, sha⟩ := ⟨_, rfl⟩
  rw [← hr]
  have HR := Lib.hid hr
  clear hr
  simp only [xagg, xcs]
  have C0 := Lib.hid (fun w => isid_any id w)
  have C1 := Lib.hid (fun w => isid_any feed w)
  have C2 := Lib.hid (fun w => iscnt_any tries w)
  have C3 := Lib.hid (fun w => iscnt_any gen w)
  have C4 := Lib.hid (fun w => rwis_any next w)
  have C5 := Lib.hid (fun w => rwis_any pos w)
  have C6 := Lib.hid (fun w => isunk_any long w)
  have C7 := Lib.hid (fun w => isunk_any total w)
  go_enter Try.func35, Try.ntmps35
  go_wp2_with fail
  refine (C0.out _).mono ?_
  rintro e w' ⟨rfl, rfl⟩
  cases h0 : cnt 1 id
  · have HX := Lib.hid (show false = r by simp only [HR.out, numOk, h0, Bool.false_and])
    clear h0
    go_wp2_with fail
    go_ret
    exact ⟨ret_bool HX.out, below_made w _⟩
  have H0 := Lib.hid h0
  clear h0
  go_wp2_with fail
  refine (C1.out _).mono ?_
  rintro e w' ⟨rfl, rfl⟩
  cases h1 : cnt 1 feed
  · have HX := Lib.hid (show false = r by simp only [HR.out, numOk, h1, Bool.false_and, Bool.and_false])
    clear h1
    go_wp2_with fail
    go_ret
    exact ⟨ret_bool HX.out, below_made w _⟩
  have H1 := Lib.hid h1
  clear h1
  go_wp2_with fail
  refine (C2.out _).mono ?_
  rintro e w' ⟨rfl, rfl⟩
  cases h2 : cnt 0 tries
  · have HX := Lib.hid (show false = r by simp only [HR.out, numOk, h2, Bool.false_and, Bool.and_false])
    clear h2
    go_wp2_with fail
    go_ret
    exact ⟨ret_bool HX.out, below_made w _⟩
  have H2 := Lib.hid h2
  clear h2
  go_wp2_with fail
  refine (C3.out _).mono ?_
  rintro e w' ⟨rfl, rfl⟩
  cases h3 : cnt 0 gen
  · have HX := Lib.hid (show false = r by simp only [HR.out, numOk, h3, Bool.false_and, Bool.and_false])
    clear h3
    go_wp2_with fail
    go_ret
    exact ⟨ret_bool HX.out, below_made w _⟩
  have H3 := Lib.hid h3
  clear h3
  go_wp2_with fail
  refine (C4.out _).mono ?_
  rintro e w' ⟨rfl, rfl⟩
  cases h4 : siz next
  · have HX := Lib.hid (show false = r by simp only [HR.out, numOk, h4, Bool.false_and, Bool.and_false])
    clear h4
    go_wp2_with fail
    go_ret
    exact ⟨ret_bool HX.out, below_made w _⟩
  have H4 := Lib.hid h4
  clear h4
  go_wp2_with fail
  refine (C5.out _).mono ?_
  rintro e w' ⟨rfl, rfl⟩
  cases h5 : siz pos
  · have HX := Lib.hid (show false = r by simp only [HR.out, numOk, h5, Bool.false_and, Bool.and_false])
    clear h5
    go_wp2_with fail
    go_ret
    exact ⟨ret_bool HX.out, below_made w _⟩
  have H5 := Lib.hid h5
  clear h5
  go_wp2_with fail
  refine (C6.out _).mono ?_
  rintro e w' ⟨rfl, rfl⟩
  cases h6 : unk long
  · have HX := Lib.hid (show false = r by simp only [HR.out, numOk, h6, Bool.false_and, Bool.and_false])
    clear h6
    go_wp2_with fail
    go_ret
    exact ⟨ret_bool HX.out, below_made w _⟩
  have H6 := Lib.hid h6
  clear h6
  go_wp2_with fail
  refine (C7.out _).mono ?_
  rintro e w' ⟨rfl, rfl⟩
  cases h7 : unk total
  · have HX := Lib.hid (show false = r by simp only [HR.out, numOk, h7, Bool.false_and, Bool.and_false])
    clear h7
    go_wp2_with fail
    go_ret
    exact ⟨ret_bool HX.out, below_made w _⟩
  have H7 := Lib.hid h7
  clear h7
  by_cases n8 : ¬ ((-1099511627776 : Int) ≤ date)
  · have HX := Lib.hid (show false = r by simp only [HR.out, numOk, decide_eq_false n8, Bool.false_and, Bool.and_false])
    have f0 : decide ((-1099511627776 : Int) ≤ date) = false := by simp; omega
    clear n8
    go_wp2_with fail
    go_ret
    exact ⟨ret_bool HX.out, below_made w _⟩
  have d8 : (-1099511627776 : Int) ≤ date := Decidable.not_not.1 n8
  have H8 := Lib.hid (decide_eq_true d8)
  clear n8
  by_cases n9 : ¬ (date ≤ (1099511627776 : Int))
  · have HX := Lib.hid (show false = r by simp only [HR.out, numOk, decide_eq_false n9, Bool.false_and, Bool.and_false])
    have f0 : decide (date ≤ (1099511627776 : Int)) = false := by simp; omega
    clear n9
    go_wp2_with fail
    go_ret
    exact ⟨ret_bool HX.out, below_made w _⟩
  have d9 : date ≤ (1099511627776 : Int) := Decidable.not_not.1 n9
  have H9 := Lib.hid (decide_eq_true d9)
  clear n9
  by_cases n10 : ¬ ((0 : Int) ≤ size)
  · have HX := Lib.hid (show false = r by simp only [HR.out, numOk, decide_eq_false n10, Bool.false_and, Bool.and_false])
    have f0 : decide ((0 : Int) ≤ size) = false := by simp; omega
    clear n10
    go_wp2_with fail
    go_ret
    exact ⟨ret_bool HX.out, below_made w _⟩
  have d10 : (0 : Int) ≤ size := Decidable.not_not.1 n10
  have H10 := Lib.hid (decide_eq_true d10)
  clear n10
  by_cases n11 : ¬ (size ≤ (65536 : Int))
  · have HX := Lib.hid (show false = r by simp only [HR.out, numOk, decide_eq_false n11, Bool.false_and, Bool.and_false])
    have f0 : decide (size ≤ (65536 : Int)) = false := by simp; omega
    clear n11
    go_wp2_with fail
    go_ret
    exact ⟨ret_bool HX.out, below_made w _⟩
  have d11 : size ≤ (65536 : Int) := Decidable.not_not.1 n11
  have H11 := Lib.hid (decide_eq_true d11)
  clear n11
  by_cases n12 : ¬ ((0 : Int) ≤ hops)
  · have HX := Lib.hid (show false = r by simp only [HR.out, numOk, decide_eq_false n12, Bool.false_and, Bool.and_false])
    have f0 : decide ((0 : Int) ≤ hops) = false := by simp; omega
    clear n12
    go_wp2_with fail
    go_ret
    exact ⟨ret_bool HX.out, below_made w _⟩
  have d12 : (0 : Int) ≤ hops := Decidable.not_not.1 n12
  have H12 := Lib.hid (decide_eq_true d12)
  clear n12
  by_cases n13 : ¬ (hops ≤ (3 : Int))
  · have HX := Lib.hid (show false = r by simp only [HR.out, numOk, decide_eq_false n13, Bool.and_false])
    have f0 : decide (hops ≤ (3 : Int)) = false := by simp; omega
    clear n13
    go_wp2_with fail
    go_ret
    exact ⟨ret_bool HX.out, below_made w _⟩
  have d13 : hops ≤ (3 : Int) := Decidable.not_not.1 n13
  have H13 := Lib.hid (decide_eq_true d13)
  clear n13
  have HX := Lib.hid (show true = r by simp only [HR.out, numOk, H0.out, H1.out, H2.out, H3.out, H4.out, H5.out, H6.out, H7.out, H8.out, H9.out, H10.out, H11.out, H12.out, H13.out, Bool.true_and])
  go_wp2_with fail
  go_ret
  exact ⟨ret_bool HX.out, below_made w _⟩

set_option maxHeartbeats 4000000 in
set_option maxRecDepth 100000 in
theorem xtxt_any (x : X) (w : World) : Calls Try.prog 36 #[xagg x] w fun e w' => e = .returned (.bool (txtOk x)) ∧ Below w.heap.size w w' := by
  obtain ⟨id, feed, guid, url, title, date, long, st, why, pin, pos, tries, next, cur, hops, gen, tag, total, size, sha⟩ := x
  obtain ⟨r, hr⟩ : ∃ r, r = txtOk ⟨id, feed, guid, url, title, date, long, st, why, pin, pos, tries, next, cur, hops, gen, tag, total, size, sha⟩ := ⟨_, rfl⟩
  rw [← hr]
  have HR := Lib.hid hr
  clear hr
  simp only [xagg, xcs]
  have C0 := Lib.hid (fun w => isnam_any guid w)
  have C1 := Lib.hid (fun w => isnam_any url w)
  have C2 := Lib.hid (fun w => istxt_any title w)
  have C3 := Lib.hid (fun w => istxt_any tag w)
  have C4 := Lib.hid (fun w => istxt_any cur w)
  go_enter Try.func36, Try.ntmps36
  go_wp2_with fail
  refine (C0.out _).mono ?_
  rintro e w' ⟨rfl, rfl⟩
  cases h0 : nam guid
  · have HX := Lib.hid (show false = r by simp only [HR.out, txtOk, h0, Bool.false_and])
    clear h0
    go_wp2_with fail
    go_ret
    exact ⟨ret_bool HX.out, below_made w _⟩
  have H0 := Lib.hid h0
  clear h0
  go_wp2_with fail
  refine (C1.out _).mono ?_
  rintro e w' ⟨rfl, rfl⟩
  cases h1 : nam url
  · have HX := Lib.hid (show false = r by simp only [HR.out, txtOk, h1, Bool.false_and, Bool.and_false])
    clear h1
    go_wp2_with fail
    go_ret
    exact ⟨ret_bool HX.out, below_made w _⟩
  have H1 := Lib.hid h1
  clear h1
  go_wp2_with fail
  refine (C2.out _).mono ?_
  rintro e w' ⟨rfl, rfl⟩
  cases h2 : txt title
  · have HX := Lib.hid (show false = r by simp only [HR.out, txtOk, h2, Bool.false_and, Bool.and_false])
    clear h2
    go_wp2_with fail
    go_ret
    exact ⟨ret_bool HX.out, below_made w _⟩
  have H2 := Lib.hid h2
  clear h2
  go_wp2_with fail
  refine (C3.out _).mono ?_
  rintro e w' ⟨rfl, rfl⟩
  cases h3 : txt tag
  · have HX := Lib.hid (show false = r by simp only [HR.out, txtOk, h3, Bool.false_and, Bool.and_false])
    clear h3
    go_wp2_with fail
    go_ret
    exact ⟨ret_bool HX.out, below_made w _⟩
  have H3 := Lib.hid h3
  clear h3
  go_wp2_with fail
  refine (C4.out _).mono ?_
  rintro e w' ⟨rfl, rfl⟩
  have HX := Lib.hid (show txt cur = r by simp only [HR.out, txtOk, H0.out, H1.out, H2.out, H3.out, Bool.true_and])
  go_wp2_with fail
  go_ret
  exact ⟨ret_bool HX.out, below_made w _⟩

set_option maxHeartbeats 4000000 in
set_option maxRecDepth 100000 in
theorem xunp_any (x : X) (w : World) : Calls Try.prog 45 #[xagg x] w fun e w' => e = .returned (.bool (unp x)) ∧ Below w.heap.size w w' := by
  obtain ⟨id, feed, guid, url, title, date, long, st, why, pin, pos, tries, next, cur, hops, gen, tag, total, size, sha⟩ := x
  obtain ⟨r, hr⟩ : ∃ r, r = unp ⟨id, feed, guid, url, title, date, long, st, why, pin, pos, tries, next, cur, hops, gen, tag, total, size, sha⟩ := ⟨_, rfl⟩
  rw [← hr]
  have HR := Lib.hid hr
  clear hr
  simp only [xagg, xcs]
  by_cases h1 : size = 0
  · have HX := Lib.hid (show sha.toList.isEmpty = r by rw [HR.out, empty_size]; simp [unp, h1])
    subst h1
    go_enter Try.func45, Try.ntmps45
    go_wp2_with fail
    go_ret
    exact ⟨ret_bool HX.out, below_made w _⟩
  · have HX := Lib.hid (show false = r by rw [HR.out]; simp [unp, h1])
    have d1 : (size == 0) = false := by simpa using h1
    go_enter Try.func45, Try.ntmps45
    go_wp2_with fail
    go_ret
    exact ⟨ret_bool HX.out, below_made w _⟩
end Go.Proofs.Ytahocamjihhjhaa
