/-
  The walk of the example that the statements of layer 10 share: awake returns true, and makes only new memory.
-/
import Derived.Test.YtbpdlfcghlopmaaDirAct
namespace Go.Proofs.Ytbpdlfcghlopmaa
open Go.RowKit StrM DirM

def sa : ByteArray := ⟨#[97]⟩
def sb : ByteArray := ⟨#[98]⟩
def oL : O := ⟨1, sa, ⟨#[]⟩, 7⟩
def oM : O := ⟨2, sa, sb, 0⟩
def oU : O := ⟨3, sa, ⟨#[]⟩, 0⟩
def exD : D := ⟨[⟨sa, 7⟩], [], [oL]⟩
def exX : D := ⟨[⟨sb, 7⟩], [], [oL, oM]⟩
deriving instance DecidableEq for D
theorem ex_d : doD zd oL = exD := by decide +kernel
theorem ex_de : doE zd oL = 0 := by decide +kernel
theorem ex_x : doD exD oM = exX := by decide +kernel
theorem ex_xe : doE exD oM = 0 := by decide +kernel
theorem ex_c1 : cr exX 1 = ⟨[⟨sa, 7⟩], [⟨sa, 7⟩], []⟩ := by decide +kernel
theorem ex_c0 : cr exX 0 = ⟨[], [], []⟩ := by decide +kernel
theorem ex_u : doD exX oU = zd := by decide +kernel
theorem ex_ue : doE exX oU = 5 := by decide +kernel
theorem ex_v : valid exX = true := by decide +kernel
theorem ex_n1 : nameOk ⟨#[112, 49, 46, 48]⟩ = true := by decide +kernel
theorem ex_n2 : nameOk ⟨#[65]⟩ = false := by decide +kernel

theorem SeesD.slices' {w : World} {v : Value} {f : D} (h : SeesD w v f) {n0 n1 n2 : Nat} (e0 : f.now.length = n0) (e1 : f.sure.length = n1) (e2 : f.pend.length = n2) : ∃ A0 c0 A1 c1 A2 c2, v = .agg #[.slice A0 n0 c0, .slice A1 n1 c1, .slice A2 n2 c2] ∧
    SeesE w (.slice A0 n0 c0) f.now ∧ SeesE w (.slice A1 n1 c1) f.sure ∧ SeesO w (.slice A2 n2 c2) f.pend := by
  subst e0 e1 e2
  exact h.slices

theorem aw1 (w : World) : Calls Try.prog 7 #[.agg #[.slice none 0 0, .slice none 0 0, .slice none 0 0], .agg #[.int .i64 1, .string ⟨#[97]⟩, .string ⟨#[]⟩, .int .i64 7]] w (fun e w' => ∃ v, e = .returned (.tuple #[v, .int .i64 0]) ∧ SeesD w' v exD ∧ Below w.heap.size w w') := by
  refine (ddo_any _ zd oL w (SeesD.zero _) (by decide)).mono ?_
  rintro e w' ⟨v, rfl, hs, hb⟩
  rw [ex_d] at hs
  exact ⟨v, by rw [ex_de], hs, hb⟩
theorem aw2 (v : Value) (w : World) (h : SeesD w v exD) : Calls Try.prog 7 #[v, .agg #[.int .i64 2, .string ⟨#[97]⟩, .string ⟨#[98]⟩, .int .i64 0]] w (fun e w' => ∃ v, e = .returned (.tuple #[v, .int .i64 0]) ∧ SeesD w' v exX ∧ Below w.heap.size w w') := by
  refine (ddo_any _ exD oM w h (by decide)).mono ?_
  rintro e w' ⟨v, rfl, hs, hb⟩
  rw [ex_x] at hs
  exact ⟨v, by rw [ex_xe], hs, hb⟩
theorem aw3 (v : Value) (w : World) (h : SeesD w v exX) : Calls Try.prog 9 #[v, .string ⟨#[98]⟩] w (fun e w' => e = .returned (.tuple #[.int .i64 7, .bool true]) ∧ Below w.heap.size w w') := by
  refine (find_any _ exX sb w h (by decide)).mono ?_
  rintro e w' ⟨rfl, hb⟩
  exact ⟨by rw [show fv exX.now sb = 7 by decide +kernel, show has exX.now sb = true by decide +kernel], hb⟩
theorem aw4 (v : Value) (w : World) (h : SeesD w v exX) : Calls Try.prog 18 #[v, .int .i64 1] w (fun e w' => ∃ v, e = .returned v ∧ SeesD w' v ⟨[⟨sa, 7⟩], [⟨sa, 7⟩], []⟩ ∧ Below w.heap.size w w') := by
  refine (dcrash_any _ exX 1 w h (by decide)).mono ?_
  rintro e w' ⟨v, rfl, hs, hb⟩
  rw [ex_c1] at hs
  exact ⟨v, rfl, hs, hb⟩
theorem aw5 (v : Value) (w : World) (h : SeesD w v ⟨[⟨sa, 7⟩], [⟨sa, 7⟩], []⟩) : Calls Try.prog 9 #[v, .string ⟨#[97]⟩] w (fun e w' => e = .returned (.tuple #[.int .i64 7, .bool true]) ∧ Below w.heap.size w w') := by
  refine (find_any _ _ sa w h (by decide)).mono ?_
  rintro e w' ⟨rfl, hb⟩
  exact ⟨by rw [show fv ([⟨sa, 7⟩] : List E) sa = 7 by decide +kernel, show has ([⟨sa, 7⟩] : List E) sa = true by decide +kernel], hb⟩
theorem aw6 (v : Value) (w : World) (h : SeesD w v exX) : Calls Try.prog 18 #[v, .int .i64 0] w (fun e w' => ∃ v, e = .returned v ∧ SeesD w' v ⟨[], [], []⟩ ∧ Below w.heap.size w w') := by
  refine (dcrash_any _ exX 0 w h (by decide)).mono ?_
  rintro e w' ⟨v, rfl, hs, hb⟩
  rw [ex_c0] at hs
  exact ⟨v, rfl, hs, hb⟩
theorem aw7 (v : Value) (w : World) (h : SeesD w v ⟨[], [], []⟩) : Calls Try.prog 9 #[v, .string ⟨#[97]⟩] w (fun e w' => e = .returned (.tuple #[.int .i64 0, .bool false]) ∧ Below w.heap.size w w') := by
  refine (find_any _ _ sa w h (by decide)).mono ?_
  rintro e w' ⟨rfl, hb⟩
  exact ⟨rfl, hb⟩
theorem aw8 (v : Value) (w : World) (h : SeesD w v exX) : Calls Try.prog 7 #[v, .agg #[.int .i64 3, .string ⟨#[97]⟩, .string ⟨#[]⟩, .int .i64 0]] w (fun e w' => ∃ v, e = .returned (.tuple #[v, .int .i64 5]) ∧ SeesD w' v zd ∧ Below w.heap.size w w') := by
  refine (ddo_any _ exX oU w h (by decide)).mono ?_
  rintro e w' ⟨v, rfl, hs, hb⟩
  rw [ex_u] at hs
  exact ⟨v, by rw [ex_ue], hs, hb⟩
theorem aw9 (w : World) : Calls Try.prog 11 #[.string ⟨#[112, 49, 46, 48]⟩] w (fun e w' => e = .returned (.bool true) ∧ w = w') := by
  refine (dname_any _ w).mono ?_
  rintro e w' ⟨rfl, hb⟩
  exact ⟨by rw [ex_n1], hb⟩
theorem aw10 (w : World) : Calls Try.prog 11 #[.string ⟨#[65]⟩] w (fun e w' => e = .returned (.bool false) ∧ w = w') := by
  refine (dname_any _ w).mono ?_
  rintro e w' ⟨rfl, hb⟩
  exact ⟨by rw [ex_n2], hb⟩
theorem aw11 (v : Value) (w : World) (h : SeesD w v exX) : Calls Try.prog 13 #[v] w (fun e w' => e = .returned (.bool true) ∧ Below w.heap.size w w') := by
  refine (dright_any _ exX w h (by decide)).mono ?_
  rintro e w' ⟨rfl, hb⟩
  exact ⟨by rw [ex_v], hb⟩

set_option maxHeartbeats 4000000 in
set_option maxRecDepth 100000 in
theorem dawake_any (w : World) : Calls Try.prog 6 #[] w fun e w' => e = .returned (.bool true) ∧ Below w.heap.size w w' := by
  go_enter Try.func6, Try.ntmps6
  go_wp2_with fail
  refine (aw1 _).mono ?_
  rintro e w1 ⟨v1, rfl, s1, b1⟩
  obtain ⟨A0, c0, A1, c1, A2, c2, rfl, -, -, -⟩ := s1.slices' (n0 := 1) (n1 := 0) (n2 := 1) rfl rfl rfl
  have k2 := below_made w1 (.cells #[.slice A0 1 c0, .slice A1 0 c1, .slice A2 1 c2] 25)
  have S2 := Lib.hid (s1.later k2)
  have B2 := Lib.hid (b1.trans (k2.mono b1.size))
  clear s1 b1 k2
  go_wp2_with fail
  refine (aw2 _ _ S2.out).mono ?_
  rintro e w3 ⟨v3, rfl, s3, b3⟩
  obtain ⟨D0, d0, D1, d1, D2, d2, rfl, -, -, -⟩ := s3.slices' (n0 := 1) (n1 := 0) (n2 := 2) rfl rfl rfl
  have k4 := below_made w3 (.cells #[.slice D0 1 d0, .slice D1 0 d1, .slice D2 2 d2] 25)
  have B3 := B2.out.trans (b3.mono B2.out.size)
  have B4 := Lib.hid (B3.trans (k4.mono B3.size))
  have HQ := Lib.hid (fun (W : World) (hB : Below (w3.alloc (.cells #[.slice D0 1 d0, .slice D1 0 d1, .slice D2 2 d2] 25)).heap.size (w3.alloc (.cells #[.slice D0 1 d0, .slice D1 0 d1, .slice D2 2 d2] 25)) W) => And.intro ((DBox.made w3 (.slice D0 1 d0) (.slice D1 0 d1) (.slice D2 2 d2)).later hB).cells ((s3.later k4).later hB))
  clear S2 B2 s3 b3 k4 B3
  go_wp2_with fail
  refine (aw3 _ _ (HQ.out _ (Below.refl _ _)).2).mono ?_
  rintro e w5 ⟨rfl, b5⟩
  have K5 := Lib.hid b5
  obtain ⟨⟨x0, x1, x2⟩, -⟩ := HQ.out _ b5
  clear b5
  go_wp2_with fail
  refine (aw4 _ _ (HQ.out _ K5.out).2).mono ?_
  rintro e w6 ⟨v6, rfl, s6, b6⟩
  have K6 := Lib.hid (K5.out.trans (b6.mono K5.out.size))
  have S6 := Lib.hid s6
  clear b6 s6 x0 x1 x2 K5
  go_wp2_with fail
  refine (aw5 _ _ S6.out).mono ?_
  rintro e w7 ⟨rfl, b7⟩
  have K7 := Lib.hid (K6.out.trans (b7.mono K6.out.size))
  obtain ⟨⟨x0, x1, x2⟩, -⟩ := HQ.out _ K7.out
  clear b7 K6 S6
  go_wp2_with fail
  refine (aw6 _ _ (HQ.out _ K7.out).2).mono ?_
  rintro e w8 ⟨v8, rfl, s8, b8⟩
  have K8 := Lib.hid (K7.out.trans (b8.mono K7.out.size))
  have S8 := Lib.hid s8
  clear b8 s8 x0 x1 x2 K7
  go_wp2_with fail
  refine (aw7 _ _ S8.out).mono ?_
  rintro e w9 ⟨rfl, b9⟩
  have K9 := Lib.hid (K8.out.trans (b9.mono K8.out.size))
  obtain ⟨⟨x0, x1, x2⟩, -⟩ := HQ.out _ K9.out
  clear b9 K8 S8
  go_wp2_with fail
  refine (aw8 _ _ (HQ.out _ K9.out).2).mono ?_
  rintro e wa ⟨va, rfl, sa', ba⟩
  obtain ⟨E0, e0, E1, e1, E2, e2, rfl, -, -, -⟩ := sa'.slices' (n0 := 0) (n1 := 0) (n2 := 0) rfl rfl rfl
  have kb := below_made wa (.cells #[.slice E0 0 e0, .slice E1 0 e1, .slice E2 0 e2] 25)
  have KA := K9.out.trans (ba.mono K9.out.size)
  have KB := Lib.hid (KA.trans (kb.mono KA.size))
  have lt := Nat.lt_of_lt_of_le (show w3.heap.size < (w3.alloc (.cells #[.slice D0 1 d0, .slice D1 0 d1, .slice D2 2 d2] 25)).heap.size by simp) KA.size
  have ne : ¬ w3.heap.size = wa.heap.size := by omega
  clear x0 x1 x2
  obtain ⟨⟨x0, x1, x2⟩, -⟩ := HQ.out _ KA
  clear sa' ba kb KA K9
  go_wp2_with fail
  refine (aw9 _).mono ?_
  rintro e w' ⟨rfl, rfl⟩
  go_wp2_with fail
  refine (aw10 _).mono ?_
  rintro e w' ⟨rfl, rfl⟩
  go_wp2_with fail
  refine (aw11 _ _ (HQ.out _ KB.out).2).mono ?_
  rintro e wc ⟨rfl, bc⟩
  have KC := Lib.hid (KB.out.trans (bc.mono KB.out.size))
  clear bc
  go_wp2_with fail
  go_ret
  exact ⟨rfl, B4.out.trans (KC.out.mono B4.out.size)⟩
end Go.Proofs.Ytbpdlfcghlopmaa
