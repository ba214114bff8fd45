/-
  The rows of feeds and episodes: the walks of PutFeed and of the reference's Feed.
-/
import Derived.Test.YtahocamjihhjhaaRowsSt
import Derived.Test.YtahocamjihhjhaaCodeSees
import Derived.Deep.RegionHeld3
namespace Go.Proofs.Ytahocamjihhjhaa
open Go.RowKit StrM VaryM CodeM RowsM

theorem sees_built {w : World} (l : List V) (cs : Array Value) (n : Nat) (hcs : cs = (vals l).toArray) (hn : n = l.length) (hl : l.length ≤ 1000) : SeesS (w.alloc (.cells cs 45)) (.slice (some ⟨w.heap.size, 0, none⟩) n n) l := by
  subst hcs hn
  exact SeesS.of_own (own_vals w l hl)

/-- Calls that make a value, in whatever world that keeps what w holds. -/
theorem text_in (w : World) : ∀ s W, Below w.heap.size w W → Calls Try.prog 23 #[.string s] W fun e W' => e = .returned (.agg #[.int .i64 2, .int .i64 0, .string s]) ∧ Below w.heap.size w W' := by
  intro s W hW
  refine (text_b s W).mono ?_
  rintro e W' ⟨rfl, hb⟩
  exact ⟨rfl, hW.trans (hb.mono hW.size)⟩
theorem num_in (w : World) : ∀ n W, Below w.heap.size w W → Calls Try.prog 24 #[.int .i64 n] W fun e W' => e = .returned (.agg #[.int .i64 1, .int .i64 n, .string ⟨#[]⟩]) ∧ Below w.heap.size w W' := by
  intro n W hW
  refine (num_b n W).mono ?_
  rintro e W' ⟨rfl, hb⟩
  exact ⟨rfl, hW.trans (hb.mono hW.size)⟩
theorem rt_in (w : World) : ∀ s W, Below w.heap.size w W → Calls Try.prog 38 #[.string s] W fun e W' => e = .returned (.agg #[.int .i64 2, .int .i64 0, .string s]) ∧ Below w.heap.size w W' := by
  intro s W hW
  refine (rt_b s W).mono ?_
  rintro e W' ⟨rfl, hb⟩
  exact ⟨rfl, hW.trans (hb.mono hW.size)⟩
theorem rn_in (w : World) : ∀ n W, Below w.heap.size w W → Calls Try.prog 39 #[.int .i64 n] W fun e W' => e = .returned (.agg #[.int .i64 1, .int .i64 n, .string ⟨#[]⟩]) ∧ Below w.heap.size w W' := by
  intro n W hW
  refine (rn_b n W).mono ?_
  rintro e W' ⟨rfl, hb⟩
  exact ⟨rfl, hW.trans (hb.mono hW.size)⟩
theorem bit_in (w : World) : ∀ b W, Below w.heap.size w W → Calls Try.prog 25 #[.bool b] W fun e W' => e = .returned (.int .i64 (bit b)) ∧ Below w.heap.size w W' := by
  intro b W hW
  refine (rwbit_any b W).mono ?_
  rintro e W' ⟨rfl, rfl⟩
  exact ⟨rfl, hW⟩

/-- A feed's cells. -/
def fcs (f : F) : Array Value := #[.int .i64 f.id, .string f.url, .string f.tag, .int .i64 f.next, .int .i64 f.fails]
theorem fagg_cs (f : F) : fagg f = .agg (fcs f) := rfl
theorem loadF {cs : Array Value} (hn : cs.size = 5) (W : World) (g : Nat) (h : W.heap[g]? = some (.cells cs 23)) : (Instr.loadAt 23 (.pointer (some ⟨g, 0, none⟩))).run Try.prog W = .ok (.agg cs) W := by
  unfold Instr.loadAt
  simp only [Instr.sureAddr, Sem.run_bind, Sem.run_pure, Result.andThen_ok]
  exact run_loadVar_row W g 23 23 cs _ _ h Try.underlying23 rfl (by rw [hn]; kernel_rfl)

set_option maxHeartbeats 1000000 in
set_option maxRecDepth 100000 in
theorem fput_no (f : F) (w : World) (h : fOk f = false) : Calls Try.prog 9 #[fagg f] w fun e w' => e = .returned (.tuple #[.slice none 0 0, .int .i64 1]) ∧ Below w.heap.size w w' := by
  have FR := Lib.hid (fun w => fright_any f w)
  rw [h] at FR
  clear h
  have HN := Lib.hid (show (fcs f).size = 5 from rfl)
  rw [fagg_cs] at *
  generalize fcs f = cs at *
  have L0 := Lib.hid (loadF HN.out _ _ (heap_alloc_new w (.cells cs 23)))
  have K0 := Lib.hid (below_made w (.cells cs 23))
  go_enter Try.func9, Try.ntmps9
  go_wp2_with (refine wpList_loadg (t := 23) (x := .tmp 1) rfl rfl (.pointer (some ⟨w.heap.size, 0, none⟩)) rfl L0.out ?_)
  refine (FR.out _).mono ?_
  rintro e w1 ⟨rfl, hb⟩
  have K := Lib.hid (K0.out.trans (hb.mono K0.out.size))
  clear hb
  go_wp2_with fail
  go_ret2
  exact ⟨rfl, K.out⟩

set_option maxHeartbeats 1000000 in
set_option maxRecDepth 100000 in
theorem xput_no (x : X) (w : World) (h : xOk x = false) : Calls Try.prog 10 #[xagg x] w fun e w' => e = .returned (.tuple #[.slice none 0 0, .int .i64 1]) ∧ Below w.heap.size w w' := by
  have FR := Lib.hid (fun w => xright_any x w)
  rw [h] at FR
  clear h
  have HN := Lib.hid (xcs_size x)
  unfold xagg at *
  generalize xcs x = cs at *
  have L0 := Lib.hid (loadX HN.out _ _ (heap_alloc_new w (.cells cs 25)))
  have K0 := Lib.hid (below_made w (.cells cs 25))
  go_enter Try.func10, Try.ntmps10
  go_wp2_with (refine wpList_loadg (t := 25) (x := .tmp 1) rfl rfl (.pointer (some ⟨w.heap.size, 0, none⟩)) rfl L0.out ?_)
  refine (FR.out _).mono ?_
  rintro e w1 ⟨rfl, hb⟩
  have K := Lib.hid (K0.out.trans (hb.mono K0.out.size))
  clear hb
  go_wp2_with fail
  go_ret2
  exact ⟨rfl, K.out⟩

-- laid from here (gen_rowsput.py)

set_option maxHeartbeats 8000000 in
set_option maxRecDepth 100000 in
theorem fput_yes (f : F) (w : World) (h : fOk f = true) : Calls Try.prog 9 #[fagg f] w fun e w' => ∃ a, e = .returned (.tuple #[.slice a 6 6, .int .i64 0]) ∧ SeesS w' (.slice a 6 6) (fRow f) ∧ Below w.heap.size w w' := by
  have FR := Lib.hid (fun w => fright_any f w)
  rw [h] at FR
  clear h
  have HV := Lib.hid (show 6 = (fRow f).length from rfl)
  have HC := Lib.hid (show (#[.int .i64 2, .int .i64 0, .string ⟨#[102, 101, 101, 100]⟩, .int .i64 1, .int .i64 f.id, .string ⟨#[]⟩, .int .i64 2, .int .i64 0, .string f.url, .int .i64 2, .int .i64 0, .string f.tag, .int .i64 1, .int .i64 f.next, .string ⟨#[]⟩, .int .i64 1, .int .i64 f.fails, .string ⟨#[]⟩] : Array Value) = (vals (fRow f)).toArray from rfl)
  have HN := Lib.hid (show (fcs f).size = 5 from rfl)
  have f0 : (fcs f)[0]? = some (.int .i64 f.id) := rfl
  have f1 : (fcs f)[1]? = some (.string f.url) := rfl
  have f2 : (fcs f)[2]? = some (.string f.tag) := rfl
  have f3 : (fcs f)[3]? = some (.int .i64 f.next) := rfl
  have f4 : (fcs f)[4]? = some (.int .i64 f.fails) := rfl
  rw [fagg_cs] at *
  generalize fRow f = row at *
  generalize fcs f = cs at *
  generalize f.id = id at *
  generalize f.url = url at *
  generalize f.tag = tag at *
  generalize f.next = next at *
  generalize f.fails = fails at *
  have R0 := Lib.hid (heap_alloc_new w (.cells cs 23))
  have K0 := Lib.hid (below_made w (.cells cs 23))
  have L0 := Lib.hid (loadF HN.out _ _ R0.out)
  have FA := Lib.hid (show cs[0]? = some (.int .i64 id) ∧ cs[1]? = some (.string url) ∧ cs[2]? = some (.string tag) ∧ cs[3]? = some (.int .i64 next) ∧ cs[4]? = some (.int .i64 fails) from ⟨f0, f1, f2, f3, f4⟩)
  clear f0 f1 f2 f3 f4
  go_enter Try.func9, Try.ntmps9
  go_wp2_with (refine wpList_loadg (t := 23) (x := .tmp 1) rfl rfl (.pointer (some ⟨w.heap.size, 0, none⟩)) rfl L0.out ?_)
  refine (FR.out _).mono ?_
  rintro e w1 ⟨rfl, hb⟩
  have R1 := Lib.hid (keepX R0.out hb)
  have K1 := Lib.hid (K0.out.trans (hb.mono K0.out.size))
  clear hb L0 FR
  go_wp2_with fail
  obtain ⟨f0, f1, f2, f3, f4⟩ := FA.out
  have HS := Lib.hid (show ∀ W, Below w1.heap.size w1 W → W.cell? ⟨w.heap.size, 0, none⟩ = some (.int .i64 id) ∧ W.cell? ⟨w.heap.size, 1, none⟩ = some (.string url) ∧ W.cell? ⟨w.heap.size, 2, none⟩ = some (.string tag) ∧ W.cell? ⟨w.heap.size, 3, none⟩ = some (.int .i64 next) ∧ W.cell? ⟨w.heap.size, 4, none⟩ = some (.int .i64 fails) from fun W hW =>
    have h := keepX R1.out hW
    ⟨fieldX h f0, fieldX h f1, fieldX h f2, fieldX h f3, fieldX h f4⟩)
  clear f0 f1 f2 f3 f4
  have B0 := Lib.hid (below_drew w1 (Nat.le_refl _))
  have TX := Lib.hid (text_in w1)
  have NX := Lib.hid (num_in w1)
  go_region_held3 (fun W => W.cell? ⟨w.heap.size, 0, none⟩ = some (.int .i64 id) ∧ W.cell? ⟨w.heap.size, 1, none⟩ = some (.string url) ∧ W.cell? ⟨w.heap.size, 2, none⟩ = some (.string tag) ∧ W.cell? ⟨w.heap.size, 3, none⟩ = some (.int .i64 next) ∧ W.cell? ⟨w.heap.size, 4, none⟩ = some (.int .i64 fails))
    (first | exact HS.out _ (by assumption) | exact HS.out _ B0.out | go_keep)
    (first
      | (go_at_call 23; (first | (with_reducible refine (TX.out _ _ (by assumption)).mono ?_) | (with_reducible refine (TX.out _ _ B0.out).mono ?_)); rintro e w' ⟨rfl, hb⟩)
      | (go_at_call 24; (first | (with_reducible refine (NX.out _ _ (by assumption)).mono ?_) | (with_reducible refine (NX.out _ _ B0.out).mono ?_)); rintro e w' ⟨rfl, hb⟩))
  rename_i hheld
  clear hheld
  have SB := Lib.hid (sees_built (w := w') row _ 6 HC.out HV.out (by rw [← HV.out]; decide))
  have KB := Lib.hid (K1.out.trans ((hb.alloc hb.size (.cells #[.int .i64 2, .int .i64 0, .string ⟨#[102, 101, 101, 100]⟩, .int .i64 1, .int .i64 id, .string ⟨#[]⟩, .int .i64 2, .int .i64 0, .string url, .int .i64 2, .int .i64 0, .string tag, .int .i64 1, .int .i64 next, .string ⟨#[]⟩, .int .i64 1, .int .i64 fails, .string ⟨#[]⟩] 45)).mono K1.out.size))
  go_wp2_with fail
  go_ret2
  exact ⟨_, rfl, SB.out, KB.out⟩

set_option maxHeartbeats 8000000 in
set_option maxRecDepth 100000 in
theorem xput_yes (x : X) (w : World) (h : xOk x = true) : Calls Try.prog 10 #[xagg x] w fun e w' => ∃ a, e = .returned (.tuple #[.slice a 21 21, .int .i64 0]) ∧ SeesS w' (.slice a 21 21) (xRow x) ∧ Below w.heap.size w w' := by
  have FR := Lib.hid (fun w => xright_any x w)
  rw [h] at FR
  clear h
  have HV := Lib.hid (show 21 = (xRow x).length from rfl)
  have HC := Lib.hid (show (#[.int .i64 2, .int .i64 0, .string ⟨#[101, 112]⟩, .int .i64 1, .int .i64 x.id, .string ⟨#[]⟩, .int .i64 1, .int .i64 x.feed, .string ⟨#[]⟩, .int .i64 2, .int .i64 0, .string x.guid, .int .i64 2, .int .i64 0, .string x.url, .int .i64 2, .int .i64 0, .string x.title, .int .i64 1, .int .i64 x.date, .string ⟨#[]⟩, .int .i64 1, .int .i64 x.long, .string ⟨#[]⟩, .int .i64 1, .int .i64 x.st, .string ⟨#[]⟩, .int .i64 1, .int .i64 x.why, .string ⟨#[]⟩, .int .i64 1, .int .i64 (bit x.pin), .string ⟨#[]⟩, .int .i64 1, .int .i64 x.pos, .string ⟨#[]⟩, .int .i64 1, .int .i64 x.tries, .string ⟨#[]⟩, .int .i64 1, .int .i64 x.next, .string ⟨#[]⟩, .int .i64 2, .int .i64 0, .string x.cur, .int .i64 1, .int .i64 x.hops, .string ⟨#[]⟩, .int .i64 1, .int .i64 x.gen, .string ⟨#[]⟩, .int .i64 2, .int .i64 0, .string x.tag, .int .i64 1, .int .i64 x.total, .string ⟨#[]⟩, .int .i64 1, .int .i64 x.size, .string ⟨#[]⟩, .int .i64 2, .int .i64 0, .string x.sha] : Array Value) = (vals (xRow x)).toArray from rfl)
  have HN := Lib.hid (show (xcs x).size = 20 from rfl)
  have f0 : (xcs x)[0]? = some (.int .i64 x.id) := rfl
  have f1 : (xcs x)[1]? = some (.int .i64 x.feed) := rfl
  have f2 : (xcs x)[2]? = some (.string x.guid) := rfl
  have f3 : (xcs x)[3]? = some (.string x.url) := rfl
  have f4 : (xcs x)[4]? = some (.string x.title) := rfl
  have f5 : (xcs x)[5]? = some (.int .i64 x.date) := rfl
  have f6 : (xcs x)[6]? = some (.int .i64 x.long) := rfl
  have f7 : (xcs x)[7]? = some (.int .i64 x.st) := rfl
  have f8 : (xcs x)[8]? = some (.int .i64 x.why) := rfl
  have f9 : (xcs x)[9]? = some (.bool x.pin) := rfl
  have f10 : (xcs x)[10]? = some (.int .i64 x.pos) := rfl
  have f11 : (xcs x)[11]? = some (.int .i64 x.tries) := rfl
  have f12 : (xcs x)[12]? = some (.int .i64 x.next) := rfl
  have f13 : (xcs x)[13]? = some (.string x.cur) := rfl
  have f14 : (xcs x)[14]? = some (.int .i64 x.hops) := rfl
  have f15 : (xcs x)[15]? = some (.int .i64 x.gen) := rfl
  have f16 : (xcs x)[16]? = some (.string x.tag) := rfl
  have f17 : (xcs x)[17]? = some (.int .i64 x.total) := rfl
  have f18 : (xcs x)[18]? = some (.int .i64 x.size) := rfl
  have f19 : (xcs x)[19]? = some (.string x.sha) := rfl
  unfold xagg at *
  generalize xRow x = row at *
  generalize xcs x = cs at *
  generalize x.id = id at *
  generalize x.feed = feed at *
  generalize x.guid = guid at *
  generalize x.url = url at *
  generalize x.title = title at *
  generalize x.date = date at *
  generalize x.long = long at *
  generalize x.st = st at *
  generalize x.why = why at *
  generalize x.pin = pin at *
  generalize x.pos = pos at *
  generalize x.tries = tries at *
  generalize x.next = next at *
  generalize x.cur = cur at *
  generalize x.hops = hops at *
  generalize x.gen = gen at *
  generalize x.tag = tag at *
  generalize x.total = total at *
  generalize x.size = size at *
  generalize x.sha = sha at *
  have R0 := Lib.hid (heap_alloc_new w (.cells cs 25))
  have K0 := Lib.hid (below_made w (.cells cs 25))
  have L0 := Lib.hid (loadX HN.out _ _ R0.out)
  have FA := Lib.hid (show cs[0]? = some (.int .i64 id) ∧ cs[1]? = some (.int .i64 feed) ∧ cs[2]? = some (.string guid) ∧ cs[3]? = some (.string url) ∧ cs[4]? = some (.string title) ∧ cs[5]? = some (.int .i64 date) ∧ cs[6]? = some (.int .i64 long) ∧ cs[7]? = some (.int .i64 st) ∧ cs[8]? = some (.int .i64 why) ∧ cs[9]? = some (.bool pin) ∧ cs[10]? = some (.int .i64 pos) ∧ cs[11]? = some (.int .i64 tries) ∧ cs[12]? = some (.int .i64 next) ∧ cs[13]? = some (.string cur) ∧ cs[14]? = some (.int .i64 hops) ∧ cs[15]? = some (.int .i64 gen) ∧ cs[16]? = some (.string tag) ∧ cs[17]? = some (.int .i64 total) ∧ cs[18]? = some (.int .i64 size) ∧ cs[19]? = some (.string sha) from ⟨f0, f1, f2, f3, f4, f5, f6, f7, f8, f9, f10, f11, f12, f13, f14, f15, f16, f17, f18, f19⟩)
  clear f0 f1 f2 f3 f4 f5 f6 f7 f8 f9 f10 f11 f12 f13 f14 f15 f16 f17 f18 f19
  go_enter Try.func10, Try.ntmps10
  go_wp2_with (refine wpList_loadg (t := 25) (x := .tmp 1) rfl rfl (.pointer (some ⟨w.heap.size, 0, none⟩)) rfl L0.out ?_)
  refine (FR.out _).mono ?_
  rintro e w1 ⟨rfl, hb⟩
  have R1 := Lib.hid (keepX R0.out hb)
  have K1 := Lib.hid (K0.out.trans (hb.mono K0.out.size))
  clear hb L0 FR
  go_wp2_with fail
  obtain ⟨f0, f1, f2, f3, f4, f5, f6, f7, f8, f9, f10, f11, f12, f13, f14, f15, f16, f17, f18, f19⟩ := FA.out
  have HS := Lib.hid (show ∀ W, Below w1.heap.size w1 W → W.cell? ⟨w.heap.size, 0, none⟩ = some (.int .i64 id) ∧ W.cell? ⟨w.heap.size, 1, none⟩ = some (.int .i64 feed) ∧ W.cell? ⟨w.heap.size, 2, none⟩ = some (.string guid) ∧ W.cell? ⟨w.heap.size, 3, none⟩ = some (.string url) ∧ W.cell? ⟨w.heap.size, 4, none⟩ = some (.string title) ∧ W.cell? ⟨w.heap.size, 5, none⟩ = some (.int .i64 date) ∧ W.cell? ⟨w.heap.size, 6, none⟩ = some (.int .i64 long) ∧ W.cell? ⟨w.heap.size, 7, none⟩ = some (.int .i64 st) ∧ W.cell? ⟨w.heap.size, 8, none⟩ = some (.int .i64 why) ∧ W.cell? ⟨w.heap.size, 9, none⟩ = some (.bool pin) ∧ W.cell? ⟨w.heap.size, 10, none⟩ = some (.int .i64 pos) ∧ W.cell? ⟨w.heap.size, 11, none⟩ = some (.int .i64 tries) ∧ W.cell? ⟨w.heap.size, 12, none⟩ = some (.int .i64 next) ∧ W.cell? ⟨w.heap.size, 13, none⟩ = some (.string cur) ∧ W.cell? ⟨w.heap.size, 14, none⟩ = some (.int .i64 hops) ∧ W.cell? ⟨w.heap.size, 15, none⟩ = some (.int .i64 gen) ∧ W.cell? ⟨w.heap.size, 16, none⟩ = some (.string tag) ∧ W.cell? ⟨w.heap.size, 17, none⟩ = some (.int .i64 total) ∧ W.cell? ⟨w.heap.size, 18, none⟩ = some (.int .i64 size) ∧ W.cell? ⟨w.heap.size, 19, none⟩ = some (.string sha) from fun W hW =>
    have h := keepX R1.out hW
    ⟨fieldX h f0, fieldX h f1, fieldX h f2, fieldX h f3, fieldX h f4, fieldX h f5, fieldX h f6, fieldX h f7, fieldX h f8, fieldX h f9, fieldX h f10, fieldX h f11, fieldX h f12, fieldX h f13, fieldX h f14, fieldX h f15, fieldX h f16, fieldX h f17, fieldX h f18, fieldX h f19⟩)
  clear f0 f1 f2 f3 f4 f5 f6 f7 f8 f9 f10 f11 f12 f13 f14 f15 f16 f17 f18 f19
  have B0 := Lib.hid (below_drew w1 (Nat.le_refl _))
  have TX := Lib.hid (text_in w1)
  have NX := Lib.hid (num_in w1)
  have BX := Lib.hid (bit_in w1)
  dsimp only [List.append]
  go_region_held3 (fun W => W.cell? ⟨w.heap.size, 0, none⟩ = some (.int .i64 id) ∧ W.cell? ⟨w.heap.size, 1, none⟩ = some (.int .i64 feed) ∧ W.cell? ⟨w.heap.size, 2, none⟩ = some (.string guid) ∧ W.cell? ⟨w.heap.size, 3, none⟩ = some (.string url) ∧ W.cell? ⟨w.heap.size, 4, none⟩ = some (.string title) ∧ W.cell? ⟨w.heap.size, 5, none⟩ = some (.int .i64 date) ∧ W.cell? ⟨w.heap.size, 6, none⟩ = some (.int .i64 long) ∧ W.cell? ⟨w.heap.size, 7, none⟩ = some (.int .i64 st) ∧ W.cell? ⟨w.heap.size, 8, none⟩ = some (.int .i64 why) ∧ W.cell? ⟨w.heap.size, 9, none⟩ = some (.bool pin) ∧ W.cell? ⟨w.heap.size, 10, none⟩ = some (.int .i64 pos) ∧ W.cell? ⟨w.heap.size, 11, none⟩ = some (.int .i64 tries) ∧ W.cell? ⟨w.heap.size, 12, none⟩ = some (.int .i64 next) ∧ W.cell? ⟨w.heap.size, 13, none⟩ = some (.string cur) ∧ W.cell? ⟨w.heap.size, 14, none⟩ = some (.int .i64 hops) ∧ W.cell? ⟨w.heap.size, 15, none⟩ = some (.int .i64 gen) ∧ W.cell? ⟨w.heap.size, 16, none⟩ = some (.string tag) ∧ W.cell? ⟨w.heap.size, 17, none⟩ = some (.int .i64 total) ∧ W.cell? ⟨w.heap.size, 18, none⟩ = some (.int .i64 size) ∧ W.cell? ⟨w.heap.size, 19, none⟩ = some (.string sha))
    (first | exact HS.out _ (by assumption) | exact HS.out _ B0.out | go_keep)
    (first
      | (go_at_call 23; (first | (with_reducible refine (TX.out _ _ (by assumption)).mono ?_) | (with_reducible refine (TX.out _ _ B0.out).mono ?_)); rintro e w' ⟨rfl, hb⟩)
      | (go_at_call 24; (first | (with_reducible refine (NX.out _ _ (by assumption)).mono ?_) | (with_reducible refine (NX.out _ _ B0.out).mono ?_)); rintro e w' ⟨rfl, hb⟩)
      | (go_at_call 25; (first | (with_reducible refine (BX.out _ _ (by assumption)).mono ?_) | (with_reducible refine (BX.out _ _ B0.out).mono ?_)); rintro e w' ⟨rfl, hb⟩))
  rename_i hheld
  clear hheld
  have SB := Lib.hid (sees_built (w := w') row _ 21 HC.out HV.out (by rw [← HV.out]; decide))
  have KB := Lib.hid (K1.out.trans ((hb.alloc hb.size (.cells #[.int .i64 2, .int .i64 0, .string ⟨#[101, 112]⟩, .int .i64 1, .int .i64 id, .string ⟨#[]⟩, .int .i64 1, .int .i64 feed, .string ⟨#[]⟩, .int .i64 2, .int .i64 0, .string guid, .int .i64 2, .int .i64 0, .string url, .int .i64 2, .int .i64 0, .string title, .int .i64 1, .int .i64 date, .string ⟨#[]⟩, .int .i64 1, .int .i64 long, .string ⟨#[]⟩, .int .i64 1, .int .i64 st, .string ⟨#[]⟩, .int .i64 1, .int .i64 why, .string ⟨#[]⟩, .int .i64 1, .int .i64 (bit pin), .string ⟨#[]⟩, .int .i64 1, .int .i64 pos, .string ⟨#[]⟩, .int .i64 1, .int .i64 tries, .string ⟨#[]⟩, .int .i64 1, .int .i64 next, .string ⟨#[]⟩, .int .i64 2, .int .i64 0, .string cur, .int .i64 1, .int .i64 hops, .string ⟨#[]⟩, .int .i64 1, .int .i64 gen, .string ⟨#[]⟩, .int .i64 2, .int .i64 0, .string tag, .int .i64 1, .int .i64 total, .string ⟨#[]⟩, .int .i64 1, .int .i64 size, .string ⟨#[]⟩, .int .i64 2, .int .i64 0, .string sha] 45)).mono K1.out.size))
  go_wp2_with fail
  go_ret2
  exact ⟨_, rfl, SB.out, KB.out⟩
end Go.Proofs.Ytahocamjihhjhaa
