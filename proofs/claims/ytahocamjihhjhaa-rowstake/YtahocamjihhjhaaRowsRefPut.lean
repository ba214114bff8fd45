/-
  The rows of feeds and episodes: the reference's walks (laid by gen_rowsput.py).
-/
import Derived.Test.YtahocamjihhjhaaRowsPut
import Derived.Deep.CutRange
namespace Go.Proofs.Ytahocamjihhjhaa
open Go.RowKit StrM VaryM CodeM RowsM

set_option maxHeartbeats 8000000 in
set_option maxRecDepth 100000 in
theorem rfrow_any (f : F) (w : World) : Calls Try.prog 16 #[fagg f] w fun e w' => ∃ a, e = .returned (.slice a 6 6) ∧ SeesS w' (.slice a 6 6) (fRow f) ∧ Below w.heap.size w w' := by
  have HV := Lib.hid (show 6 = (fRow f).length from rfl)
  have HC := Lib.hid (show (#[.int .i64 2, .int .i64 0, .string ⟨#[102, 101, 101, 100]⟩, .int .i64 1, .int .i64 f.id, .string ⟨#[]⟩, .int .i64 2, .int .i64 0, .string f.url, .int .i64 2, .int .i64 0, .string f.tag, .int .i64 1, .int .i64 f.next, .string ⟨#[]⟩, .int .i64 1, .int .i64 f.fails, .string ⟨#[]⟩] : Array Value) = (vals (fRow f)).toArray from rfl)
  have HN := Lib.hid (show (fcs f).size = 5 from rfl)
  have f0 : (fcs f)[0]? = some (.int .i64 f.id) := rfl
  have f1 : (fcs f)[1]? = some (.string f.url) := rfl
  have f2 : (fcs f)[2]? = some (.string f.tag) := rfl
  have f3 : (fcs f)[3]? = some (.int .i64 f.next) := rfl
  have f4 : (fcs f)[4]? = some (.int .i64 f.fails) := rfl
  rw [fagg_cs] at *
  generalize fRow f = row at *
  generalize fcs f = cs at *
  generalize f.id = id at *
  generalize f.url = url at *
  generalize f.tag = tag at *
  generalize f.next = next at *
  generalize f.fails = fails at *
  have R0 := Lib.hid (heap_alloc_new w (.cells cs 23))
  have K0 := Lib.hid (below_made w (.cells cs 23))
  have FA := Lib.hid (show cs[0]? = some (.int .i64 id) ∧ cs[1]? = some (.string url) ∧ cs[2]? = some (.string tag) ∧ cs[3]? = some (.int .i64 next) ∧ cs[4]? = some (.int .i64 fails) from ⟨f0, f1, f2, f3, f4⟩)
  clear f0 f1 f2 f3 f4
  obtain ⟨w1, hw1⟩ : ∃ w1, w1 = w.alloc (.cells cs 23) := ⟨_, rfl⟩
  have R1 := Lib.hid R0.out
  have K1 := Lib.hid K0.out
  rw [← hw1] at R1 K1
  go_enter Try.func16, Try.ntmps16
  go_wp2_with fail
  rw [← hw1]
  clear hw1
  obtain ⟨f0, f1, f2, f3, f4⟩ := FA.out
  have HS := Lib.hid (show ∀ W, Below w1.heap.size w1 W → W.cell? ⟨w.heap.size, 0, none⟩ = some (.int .i64 id) ∧ W.cell? ⟨w.heap.size, 1, none⟩ = some (.string url) ∧ W.cell? ⟨w.heap.size, 2, none⟩ = some (.string tag) ∧ W.cell? ⟨w.heap.size, 3, none⟩ = some (.int .i64 next) ∧ W.cell? ⟨w.heap.size, 4, none⟩ = some (.int .i64 fails) from fun W hW =>
    have h := keepX R1.out hW
    ⟨fieldX h f0, fieldX h f1, fieldX h f2, fieldX h f3, fieldX h f4⟩)
  clear f0 f1 f2 f3 f4
  have B0 := Lib.hid (below_drew w1 (Nat.le_refl _))
  have TX := Lib.hid (rt_in w1)
  have NX := Lib.hid (rn_in w1)
  go_region_held3 (fun W => W.cell? ⟨w.heap.size, 0, none⟩ = some (.int .i64 id) ∧ W.cell? ⟨w.heap.size, 1, none⟩ = some (.string url) ∧ W.cell? ⟨w.heap.size, 2, none⟩ = some (.string tag) ∧ W.cell? ⟨w.heap.size, 3, none⟩ = some (.int .i64 next) ∧ W.cell? ⟨w.heap.size, 4, none⟩ = some (.int .i64 fails))
    (first | exact HS.out _ (by assumption) | exact HS.out _ B0.out | go_keep)
    (first
      | (go_at_call 38; (first | (with_reducible refine (TX.out _ _ (by assumption)).mono ?_) | (with_reducible refine (TX.out _ _ B0.out).mono ?_)); rintro e w' ⟨rfl, hb⟩)
      | (go_at_call 39; (first | (with_reducible refine (NX.out _ _ (by assumption)).mono ?_) | (with_reducible refine (NX.out _ _ B0.out).mono ?_)); rintro e w' ⟨rfl, hb⟩))
  rename_i hheld
  clear hheld
  have SB := Lib.hid (sees_built (w := w') row _ 6 HC.out HV.out (by rw [← HV.out]; decide))
  have KB := Lib.hid (K1.out.trans ((hb.alloc hb.size (.cells #[.int .i64 2, .int .i64 0, .string ⟨#[102, 101, 101, 100]⟩, .int .i64 1, .int .i64 id, .string ⟨#[]⟩, .int .i64 2, .int .i64 0, .string url, .int .i64 2, .int .i64 0, .string tag, .int .i64 1, .int .i64 next, .string ⟨#[]⟩, .int .i64 1, .int .i64 fails, .string ⟨#[]⟩] 45)).mono K1.out.size))
  go_wp2_with fail
  go_ret
  exact ⟨_, rfl, SB.out, KB.out⟩

set_option maxHeartbeats 8000000 in
set_option maxRecDepth 100000 in
theorem rxrow_any (x : X) (w : World) : Calls Try.prog 17 #[xagg x] w fun e w' => ∃ a, e = .returned (.slice a 21 21) ∧ SeesS w' (.slice a 21 21) (xRow x) ∧ Below w.heap.size w w' := by
  have HV := Lib.hid (show 21 = (xRow x).length from rfl)
  have HC := Lib.hid (show (#[.int .i64 2, .int .i64 0, .string ⟨#[101, 112]⟩, .int .i64 1, .int .i64 x.id, .string ⟨#[]⟩, .int .i64 1, .int .i64 x.feed, .string ⟨#[]⟩, .int .i64 2, .int .i64 0, .string x.guid, .int .i64 2, .int .i64 0, .string x.url, .int .i64 2, .int .i64 0, .string x.title, .int .i64 1, .int .i64 x.date, .string ⟨#[]⟩, .int .i64 1, .int .i64 x.long, .string ⟨#[]⟩, .int .i64 1, .int .i64 x.st, .string ⟨#[]⟩, .int .i64 1, .int .i64 x.why, .string ⟨#[]⟩, .int .i64 1, .int .i64 (bit x.pin), .string ⟨#[]⟩, .int .i64 1, .int .i64 x.pos, .string ⟨#[]⟩, .int .i64 1, .int .i64 x.tries, .string ⟨#[]⟩, .int .i64 1, .int .i64 x.next, .string ⟨#[]⟩, .int .i64 2, .int .i64 0, .string x.cur, .int .i64 1, .int .i64 x.hops, .string ⟨#[]⟩, .int .i64 1, .int .i64 x.gen, .string ⟨#[]⟩, .int .i64 2, .int .i64 0, .string x.tag, .int .i64 1, .int .i64 x.total, .string ⟨#[]⟩, .int .i64 1, .int .i64 x.size, .string ⟨#[]⟩, .int .i64 2, .int .i64 0, .string x.sha] : Array Value) = (vals (xRow x)).toArray from rfl)
  have HN := Lib.hid (show (xcs x).size = 20 from rfl)
  have f0 : (xcs x)[0]? = some (.int .i64 x.id) := rfl
  have f1 : (xcs x)[1]? = some (.int .i64 x.feed) := rfl
  have f2 : (xcs x)[2]? = some (.string x.guid) := rfl
  have f3 : (xcs x)[3]? = some (.string x.url) := rfl
  have f4 : (xcs x)[4]? = some (.string x.title) := rfl
  have f5 : (xcs x)[5]? = some (.int .i64 x.date) := rfl
  have f6 : (xcs x)[6]? = some (.int .i64 x.long) := rfl
  have f7 : (xcs x)[7]? = some (.int .i64 x.st) := rfl
  have f8 : (xcs x)[8]? = some (.int .i64 x.why) := rfl
  have f9 : (xcs x)[9]? = some (.bool x.pin) := rfl
  have f10 : (xcs x)[10]? = some (.int .i64 x.pos) := rfl
  have f11 : (xcs x)[11]? = some (.int .i64 x.tries) := rfl
  have f12 : (xcs x)[12]? = some (.int .i64 x.next) := rfl
  have f13 : (xcs x)[13]? = some (.string x.cur) := rfl
  have f14 : (xcs x)[14]? = some (.int .i64 x.hops) := rfl
  have f15 : (xcs x)[15]? = some (.int .i64 x.gen) := rfl
  have f16 : (xcs x)[16]? = some (.string x.tag) := rfl
  have f17 : (xcs x)[17]? = some (.int .i64 x.total) := rfl
  have f18 : (xcs x)[18]? = some (.int .i64 x.size) := rfl
  have f19 : (xcs x)[19]? = some (.string x.sha) := rfl
  unfold xagg at *
  generalize xRow x = row at *
  generalize xcs x = cs at *
  generalize x.id = id at *
  generalize x.feed = feed at *
  generalize x.guid = guid at *
  generalize x.url = url at *
  generalize x.title = title at *
  generalize x.date = date at *
  generalize x.long = long at *
  generalize x.st = st at *
  generalize x.why = why at *
  generalize x.pin = pin at *
  generalize x.pos = pos at *
  generalize x.tries = tries at *
  generalize x.next = next at *
  generalize x.cur = cur at *
  generalize x.hops = hops at *
  generalize x.gen = gen at *
  generalize x.tag = tag at *
  generalize x.total = total at *
  generalize x.size = size at *
  generalize x.sha = sha at *
  have R0 := Lib.hid (heap_alloc_new w (.cells cs 25))
  have K0 := Lib.hid (below_made w (.cells cs 25))
  have FA := Lib.hid (show cs[0]? = some (.int .i64 id) ∧ cs[1]? = some (.int .i64 feed) ∧ cs[2]? = some (.string guid) ∧ cs[3]? = some (.string url) ∧ cs[4]? = some (.string title) ∧ cs[5]? = some (.int .i64 date) ∧ cs[6]? = some (.int .i64 long) ∧ cs[7]? = some (.int .i64 st) ∧ cs[8]? = some (.int .i64 why) ∧ cs[9]? = some (.bool pin) ∧ cs[10]? = some (.int .i64 pos) ∧ cs[11]? = some (.int .i64 tries) ∧ cs[12]? = some (.int .i64 next) ∧ cs[13]? = some (.string cur) ∧ cs[14]? = some (.int .i64 hops) ∧ cs[15]? = some (.int .i64 gen) ∧ cs[16]? = some (.string tag) ∧ cs[17]? = some (.int .i64 total) ∧ cs[18]? = some (.int .i64 size) ∧ cs[19]? = some (.string sha) from ⟨f0, f1, f2, f3, f4, f5, f6, f7, f8, f9, f10, f11, f12, f13, f14, f15, f16, f17, f18, f19⟩)
  clear f0 f1 f2 f3 f4 f5 f6 f7 f8 f10 f11 f12 f13 f14 f15 f16 f17 f18 f19
  obtain ⟨w1, hw1⟩ : ∃ w1, w1 = w.alloc (.cells cs 25) := ⟨_, rfl⟩
  have R1 := Lib.hid R0.out
  have K1 := Lib.hid K0.out
  rw [← hw1] at R1 K1
  go_enter Try.func17, Try.ntmps17
  have c9 := fieldX R0.out f9
  go_upto_if 5 with fail
  go_cut [3] from 4 to 5 (fun s3 wx => s3 = .int .i64 (bit pin) ∧ wx = w.alloc (.cells cs 25))
  case first =>
    cases pin
    · go_wp2_with fail
      go_meet
      case rel => exact ⟨rfl, rfl⟩
    · go_wp2_with fail
      go_meet
      case rel => exact ⟨rfl, rfl⟩
  obtain ⟨rfl, rfl⟩ := hcut
  clear c9
  go_wp2_with fail
  rw [← hw1]
  clear hw1
  clear f9
  obtain ⟨f0, f1, f2, f3, f4, f5, f6, f7, f8, f9, f10, f11, f12, f13, f14, f15, f16, f17, f18, f19⟩ := FA.out
  have HS := Lib.hid (show ∀ W, Below w1.heap.size w1 W → W.cell? ⟨w.heap.size, 0, none⟩ = some (.int .i64 id) ∧ W.cell? ⟨w.heap.size, 1, none⟩ = some (.int .i64 feed) ∧ W.cell? ⟨w.heap.size, 2, none⟩ = some (.string guid) ∧ W.cell? ⟨w.heap.size, 3, none⟩ = some (.string url) ∧ W.cell? ⟨w.heap.size, 4, none⟩ = some (.string title) ∧ W.cell? ⟨w.heap.size, 5, none⟩ = some (.int .i64 date) ∧ W.cell? ⟨w.heap.size, 6, none⟩ = some (.int .i64 long) ∧ W.cell? ⟨w.heap.size, 7, none⟩ = some (.int .i64 st) ∧ W.cell? ⟨w.heap.size, 8, none⟩ = some (.int .i64 why) ∧ W.cell? ⟨w.heap.size, 9, none⟩ = some (.bool pin) ∧ W.cell? ⟨w.heap.size, 10, none⟩ = some (.int .i64 pos) ∧ W.cell? ⟨w.heap.size, 11, none⟩ = some (.int .i64 tries) ∧ W.cell? ⟨w.heap.size, 12, none⟩ = some (.int .i64 next) ∧ W.cell? ⟨w.heap.size, 13, none⟩ = some (.string cur) ∧ W.cell? ⟨w.heap.size, 14, none⟩ = some (.int .i64 hops) ∧ W.cell? ⟨w.heap.size, 15, none⟩ = some (.int .i64 gen) ∧ W.cell? ⟨w.heap.size, 16, none⟩ = some (.string tag) ∧ W.cell? ⟨w.heap.size, 17, none⟩ = some (.int .i64 total) ∧ W.cell? ⟨w.heap.size, 18, none⟩ = some (.int .i64 size) ∧ W.cell? ⟨w.heap.size, 19, none⟩ = some (.string sha) from fun W hW =>
    have h := keepX R1.out hW
    ⟨fieldX h f0, fieldX h f1, fieldX h f2, fieldX h f3, fieldX h f4, fieldX h f5, fieldX h f6, fieldX h f7, fieldX h f8, fieldX h f9, fieldX h f10, fieldX h f11, fieldX h f12, fieldX h f13, fieldX h f14, fieldX h f15, fieldX h f16, fieldX h f17, fieldX h f18, fieldX h f19⟩)
  clear f0 f1 f2 f3 f4 f5 f6 f7 f8 f9 f10 f11 f12 f13 f14 f15 f16 f17 f18 f19
  have B0 := Lib.hid (below_drew w1 (Nat.le_refl _))
  have TX := Lib.hid (rt_in w1)
  have NX := Lib.hid (rn_in w1)
  go_region_held3 (fun W => W.cell? ⟨w.heap.size, 0, none⟩ = some (.int .i64 id) ∧ W.cell? ⟨w.heap.size, 1, none⟩ = some (.int .i64 feed) ∧ W.cell? ⟨w.heap.size, 2, none⟩ = some (.string guid) ∧ W.cell? ⟨w.heap.size, 3, none⟩ = some (.string url) ∧ W.cell? ⟨w.heap.size, 4, none⟩ = some (.string title) ∧ W.cell? ⟨w.heap.size, 5, none⟩ = some (.int .i64 date) ∧ W.cell? ⟨w.heap.size, 6, none⟩ = some (.int .i64 long) ∧ W.cell? ⟨w.heap.size, 7, none⟩ = some (.int .i64 st) ∧ W.cell? ⟨w.heap.size, 8, none⟩ = some (.int .i64 why) ∧ W.cell? ⟨w.heap.size, 9, none⟩ = some (.bool pin) ∧ W.cell? ⟨w.heap.size, 10, none⟩ = some (.int .i64 pos) ∧ W.cell? ⟨w.heap.size, 11, none⟩ = some (.int .i64 tries) ∧ W.cell? ⟨w.heap.size, 12, none⟩ = some (.int .i64 next) ∧ W.cell? ⟨w.heap.size, 13, none⟩ = some (.string cur) ∧ W.cell? ⟨w.heap.size, 14, none⟩ = some (.int .i64 hops) ∧ W.cell? ⟨w.heap.size, 15, none⟩ = some (.int .i64 gen) ∧ W.cell? ⟨w.heap.size, 16, none⟩ = some (.string tag) ∧ W.cell? ⟨w.heap.size, 17, none⟩ = some (.int .i64 total) ∧ W.cell? ⟨w.heap.size, 18, none⟩ = some (.int .i64 size) ∧ W.cell? ⟨w.heap.size, 19, none⟩ = some (.string sha))
    (first | exact HS.out _ (by assumption) | exact HS.out _ B0.out | go_keep)
    (first
      | (go_at_call 38; (first | (with_reducible refine (TX.out _ _ (by assumption)).mono ?_) | (with_reducible refine (TX.out _ _ B0.out).mono ?_)); rintro e w' ⟨rfl, hb⟩)
      | (go_at_call 39; (first | (with_reducible refine (NX.out _ _ (by assumption)).mono ?_) | (with_reducible refine (NX.out _ _ B0.out).mono ?_)); rintro e w' ⟨rfl, hb⟩))
  rename_i hheld
  clear hheld
  have SB := Lib.hid (sees_built (w := w') row _ 21 HC.out HV.out (by rw [← HV.out]; decide))
  have KB := Lib.hid (K1.out.trans ((hb.alloc hb.size (.cells #[.int .i64 2, .int .i64 0, .string ⟨#[101, 112]⟩, .int .i64 1, .int .i64 id, .string ⟨#[]⟩, .int .i64 1, .int .i64 feed, .string ⟨#[]⟩, .int .i64 2, .int .i64 0, .string guid, .int .i64 2, .int .i64 0, .string url, .int .i64 2, .int .i64 0, .string title, .int .i64 1, .int .i64 date, .string ⟨#[]⟩, .int .i64 1, .int .i64 long, .string ⟨#[]⟩, .int .i64 1, .int .i64 st, .string ⟨#[]⟩, .int .i64 1, .int .i64 why, .string ⟨#[]⟩, .int .i64 1, .int .i64 (bit pin), .string ⟨#[]⟩, .int .i64 1, .int .i64 pos, .string ⟨#[]⟩, .int .i64 1, .int .i64 tries, .string ⟨#[]⟩, .int .i64 1, .int .i64 next, .string ⟨#[]⟩, .int .i64 2, .int .i64 0, .string cur, .int .i64 1, .int .i64 hops, .string ⟨#[]⟩, .int .i64 1, .int .i64 gen, .string ⟨#[]⟩, .int .i64 2, .int .i64 0, .string tag, .int .i64 1, .int .i64 total, .string ⟨#[]⟩, .int .i64 1, .int .i64 size, .string ⟨#[]⟩, .int .i64 2, .int .i64 0, .string sha] 45)).mono K1.out.size))
  go_wp2_with fail
  go_ret
  exact ⟨_, rfl, SB.out, KB.out⟩
end Go.Proofs.Ytahocamjihhjhaa
