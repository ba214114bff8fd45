/-
  Rows of values that a call makes; the walk of code.Take.
-/
import Derived.Test.YtnjnlbcbdhdipaaCodeTake
namespace Go.Proofs.Ytnjnlbcbdhdipaa
open Go.RowKit StrM VaryM CodeM

theorem vals_len (l : List V) : (vals l).length = l.length * 3 := by
  induction l with
  | nil => rfl
  | cons v l ih => simp only [vals, List.flatMap_cons, List.length_append, List.length_cons] at ih ⊢; rw [ih]; simp [cs3]; omega
theorem vals_add (a b : List V) : vals (a ++ b) = vals a ++ vals b := by simp [vals]
theorem vals_at : ∀ (l : List V) (k : Nat) (hk : k < l.length), (vals l)[k * 3]? = some (.int .i64 l[k].k) ∧ (vals l)[k * 3 + 1]? = some (.int .i64 l[k].n) ∧ (vals l)[k * 3 + 2]? = some (.string l[k].t)
  | v :: l, 0, _ => by simp [vals, cs3]
  | v :: l, k + 1, hk => by
    have := vals_at l k (by simpa using hk)
    have e : vals (v :: l) = cs3 v ++ vals l := by simp [vals]
    have el : (cs3 v).length = 3 := rfl
    rw [e]
    refine ⟨?_, ?_, ?_⟩
    · rw [List.getElem?_append_right (by omega), el, show (k + 1) * 3 - 3 = k * 3 by omega]; simpa using this.1
    · rw [List.getElem?_append_right (by omega), el, show (k + 1) * 3 + 1 - 3 = k * 3 + 1 by omega]; simpa using this.2.1
    · rw [List.getElem?_append_right (by omega), el, show (k + 1) * 3 + 2 - 3 = k * 3 + 2 by omega]; simpa using this.2.2

theorem SeesS.of_own {w : World} {base n : Nat} {v : Value} {l : List V} (h : w.ownsRow base 37 3 v n (vals l)) : SeesS w v l := by
  have hl : l.length = n := by have := h.1; rw [vals_len] at this; omega
  rcases h.2 with ⟨rfl, h0⟩ | ⟨g, cap, cur, rfl, hb, hg, _⟩
  · refine ⟨none, 0, by rw [hl, h0], .inl (List.length_eq_zero_iff.1 (by omega))⟩
  · refine ⟨_, cap, by rw [hl], .inr ⟨g, 0, rfl, (Array.getElem?_eq_some_iff.1 hg).1, fun k hk => ?_⟩⟩
    obtain ⟨h1, h2, h3⟩ := vals_at l k hk
    have c1 := h.cells (g := g) rfl _ _ h1
    have c2 := h.cells (g := g) rfl _ _ h2
    have c3 := h.cells (g := g) rfl _ _ h3
    refine ⟨?_, ?_, ?_⟩
    · by_cases k0 : k = 0
      · subst k0; simpa [Addr.add] using c1
      · simpa [Addr.add, show ¬ k * 3 = 0 by omega] using c1
    · simpa [Addr.add] using c2
    · simpa [Addr.add] using c3

theorem valInfo : (Try.prog.info? 37).map (fun i => (i.zero, i.size, i.bytes)) = some (some (.agg #[.int .i64 0, .int .i64 0, .string ⟨#[]⟩]), 3, 32) := by kernel_rfl

/-- append of one value, which the walk lays in a block of its own, to a row of values of the call's own. -/
theorem append_val {w : World} {ops : Array Oper} {rest : List Oper} {o : Oper} {a : Act} {Q : Exit → Act → World → Prop} (hgd : o.guard = none) (s x : Operand)
    (ho : o.op = .call { callee := .builtin .append, args := #[s, x], argTypes := #[22, 22] })
    (base : Nat) (v : Value) (n : Nat) (l : List V) (hs : a.eval s = v) (hown : w.ownsRow base 37 3 v n (vals l))
    (u : V) (hx : a.eval x = .slice (some ⟨w.heap.size, 0, none⟩) 1 1)
    (hn : n + 1 ≤ 1000000) (hbase : base ≤ w.heap.size)
    (h : ∀ v' w', w'.ownsRow base 37 3 v' (n + 1) (vals (l ++ [u])) → Below base w w' → wpList Try.prog ops Q rest (a.put o.dst v') w') : wpList Try.prog ops Q (o :: rest) a (w.alloc (.cells #[.int .i64 u.k, .int .i64 u.n, .string u.t] 37)) := by
  obtain ⟨i0, hi, hz0, hz1, hz2⟩ := info_parts valInfo
  refine wpList_append_own (w.alloc (.cells #[.int .i64 u.k, .int .i64 u.n, .string u.t] 37)) hgd s x 22 ho base 37 i0 _ 3 32 Try.underlying22 hi hz0 hz1 hz2 rfl (by decide) v n (vals l) hs (hown.alloc _) ⟨w.heap.size, 0, none⟩ 1 1 (cs3 u) hx rfl (fun j c hj => ?_) (fun c hc => ?_) (by unfold maxLen; omega) (by omega) (by simp; omega) ?_
  · match j, hj with
    | 0, hj => simp [cs3] at hj; subst hj; simp [Addr.add]
    | 1, hj => simp [cs3] at hj; subst hj; simp [Addr.add]
    | 2, hj => simp [cs3] at hj; subst hj; simp [Addr.add]
    | j + 3, hj => simp [cs3] at hj
  · simp [cs3] at hc
    rcases hc with rfl | rfl | rfl <;> rfl
  · intro v' w' h1 h2 _
    refine h v' w' ?_ (((Below.refl _ _).alloc hbase _).grown h2 (by simp; omega) fun k hk => (hown.lt k hk).1)
    rw [vals_add]
    simpa [vals] using h1

theorem own_below3 {w w' : World} {base : Nat} {e : TypeId} {sz n : Nat} {v : Value} {xs : List Value} (h : w.ownsRow base e sz v n xs) (hb : Below w.heap.size w w') : w'.ownsRow base e sz v n xs :=
  h.kept (row := none) ⟨hb.os, hb.tape, hb.output, hb.size, fun k hk _ => hb.block k hk⟩ (by cases v.ownBlock <;> simp)

/-- What Take has gathered. -/
def VRel (w : World) (v : Value) (acc : List V) (wr : World) : Prop := wr.ownsRow w.heap.size 37 3 v acc.length (vals acc) ∧ Below w.heap.size w wr

/-- What Take returns. -/
def TakePost (b : List UInt8) (w : World) (e : Ending) (w' : World) : Prop :=
  ∃ v, e = .returned (.tuple #[v, .int .i64 ((CodeM.take b).2.1 : Int), .int .i64 ((CodeM.take b).2.2 : Int)]) ∧ w'.ownsRow w.heap.size 37 3 v (CodeM.take b).1.length (vals (CodeM.take b).1) ∧ Below w.heap.size w w'
theorem TakePost.err {b : List UInt8} {w w' : World} {e : Nat} {e' : Int} (h : CodeM.take b = ([], 0, e)) (he : e' = (e : Int)) (hb : Below w.heap.size w w') : TakePost b w (.returned (.tuple #[.slice none 0 0, .int .i64 0, .int .i64 e'])) w' := by
  subst he
  refine ⟨.slice none 0 0, ?_, ?_, hb⟩
  · rw [h]; rfl
  · rw [h]; exact World.ownsRow_nil _ _ _ _
theorem TakePost.ok {b : List UInt8} {w w' : World} {l : List V} {x : Nat} {x' : Int} {v : Value} (h : CodeM.take b = (l, x, 0)) (hx : x' = (x : Int)) (hv : VRel w v l w') : TakePost b w (.returned (.tuple #[v, .int .i64 x', .int .i64 0])) w' := by
  subst hx
  refine ⟨v, ?_, ?_, hv.2⟩
  · rw [h]; rfl
  · rw [h]; exact hv.1

set_option maxHeartbeats 2000000 in
set_option maxRecDepth 100000 in
theorem takes_any (A : Option Addr) (len cap : Nat) (b : List UInt8) (w : World) (hs : SeesV w (.slice A len cap) (bys b)) (hcap : len ≤ cap) (hl : len ≤ 100000000) :
    Calls Try.prog 13 #[.slice A len cap] w (TakePost b w) := by
  have hn : b.length = len := by obtain ⟨_, _, e, _⟩ := hs; injection e with _ e _; rw [e, bys_len]
  have HN := Lib.hid hn
  have HS := Lib.hid hs
  have VT := Lib.hid (vtake_all _ b _ hs)
  obtain ⟨T, ht⟩ : ∃ T, T = takeL b := ⟨_, rfl⟩
  have he : takeE b = .returned (.tuple #[.int .u64 (T.1 : Int), .int .i64 (T.2.1 : Int), .int .i64 (T.2.2 : Int)]) := by rw [takeE, ht]
  obtain ⟨u, x, f⟩ := T
  rw [he] at VT
  clear he hs hn
  by_cases hf : f = 0
  · subst hf
    have VT2 := Lib.hid (show Calls Try.prog 23 #[.slice A len cap] w fun e w' => e = .returned (.tuple #[.int .u64 (u : Int), .int .i64 (x : Int), .int .i64 0]) ∧ w = w' from VT.out)
    clear VT
    by_cases hu : 1000 < u
    · have HF := Lib.hid (CodeM.take_long ht.symm hu)
      have hu' : (1000 : Int) < (u : Int) := by omega
      clear hu ht
      go_enter Try.func13, Try.ntmps13
      go_wp2_with fail
      refine (VT2.out).mono ?_
      rintro e w' ⟨rfl, rfl⟩
      go_wp2_with fail
      go_ret3
      exact TakePost.err HF.out rfl (Below.refl _ _)
    · have hu' : decide ((1000 : Int) < (u : Int)) = false := by simp; omega
      have AT := Lib.hid (At.start ht.symm hu)
      have hu2 : u ≤ 1000 := by omega
      clear hu ht
      go_enter Try.func13, Try.ntmps13
      go_wp2_with fail
      refine (VT2.out).mono ?_
      rintro e w' ⟨rfl, rfl⟩
      go_wp2_with fail
      go_loopw [6, 8, 24] (fun y v i wr => ∃ (k p : Nat) (acc : List V), k ≤ u ∧ p ≤ len ∧ i = .int .u64 (k : Int) ∧ y = .int .i64 (p : Int) ∧ At b u k p acc ∧ VRel w v acc wr) (fun _ _ i _ => u - (intOf i).toNat)
      case atStart => exact ⟨0, x, [], Nat.zero_le _, by rw [← HN.out]; exact AT.out.2.2.1, rfl, rfl, AT.out, World.ownsRow_nil _ _ _ _, Below.refl _ _⟩
      case round =>
        obtain ⟨k, p, acc, hk, hp, rfl, rfl, hA, hV⟩ := hrel
        clear AT
        have HA := Lib.hid hA
        have HV := Lib.hid hV
        clear hA hV
        by_cases hlt : k < u
        · have hlt' : (k : Int) < (u : Int) := by omega
          obtain ⟨A1, hcut, hsee⟩ := cut_l (HS.out.later HV.out.2) hcap hp
          have TK := Lib.hid (take_any' _ _ _ _ _ hsee (by omega) (by omega))
          obtain ⟨R, hR⟩ : ∃ R, R = takeV (b.drop p) := ⟨_, rfl⟩
          have he : takeVE (b.drop p) = .returned (.tuple #[.agg #[.int .i64 R.1.k, .int .i64 R.1.n, .string R.1.t], .int .i64 (R.2.1 : Int), .int .i64 (R.2.2 : Int)]) := by rw [takeVE, hR]; rfl
          obtain ⟨rv, y, e0⟩ := R
          rw [he] at TK
          have hAL : acc.length = k := HA.out.2.2.2.1
          clear he hsee
          by_cases he0 : e0 = 0
          · subst he0
            have AN := Lib.hid (HA.out.next hlt hR.symm)
            have hpy : p + y ≤ len := by rw [← HN.out]; exact AN.out.2.2.1
            have TK2 := Lib.hid (show Calls Try.prog 24 #[.slice A1 (len - p) (cap - p)] _ fun e w' => e = .returned (.tuple #[.agg #[.int .i64 rv.k, .int .i64 rv.n, .string rv.t], .int .i64 (y : Int), .int .i64 0]) ∧ Below _ _ w' from TK.out)
            clear TK hR
            go_wp2_with fail
            refine (TK2.out).mono ?_
            rintro e w4 ⟨rfl, hb⟩
            have O4 := Lib.hid ((own_below3 HV.out.1 hb).alloc (.cells #[.int .i64 rv.k, .int .i64 rv.n, .string rv.t] 37))
            have B4 := Lib.hid (((HV.out.2.trans (hb.mono HV.out.2.size)).alloc (HV.out.2.trans (hb.mono HV.out.2.size)).size (.cells #[.int .i64 rv.k, .int .i64 rv.n, .string rv.t] 37)))
            have hsz := B4.out.size
            have h1000 : acc.length + 1 ≤ 1000000 := by omega
            clear hb
            go_wp2_with (at_builtin; refine append_val rfl _ _ rfl w.heap.size _ _ _ rfl O4.out rv (by simp [Act.eval]) h1000 hsz ?_)
            intro v5 w5 ho hb
            have HX := Lib.hid (show VRel w v5 (acc ++ [rv]) w5 from ⟨by rw [List.length_append, hAL]; exact ho, B4.out.trans hb⟩)
            clear ho hb
            go_wp2_with fail
            go_roundw
            case rel => exact ⟨k + 1, p + y, acc ++ [rv], by omega, hpy, by go_num, by go_num, AN.out, HX.out⟩
            case measure => simp [intOf]; omega
          · have HF := Lib.hid (HA.out.fail hlt hR.symm he0)
            obtain ⟨ei, hei⟩ : ∃ ei : Int, ei = (e0 : Int) := ⟨_, rfl⟩
            have HEI := Lib.hid hei
            have e1 : ¬ ei = 0 := by omega
            have e2 : (ei == 0) = false := by simpa using e1
            have e3 : (ei != 0) = true := by simpa using e1
            rw [← hei] at TK
            clear hR hei he0
            go_wp2_with fail
            refine (TK.out).mono ?_
            rintro e w4 ⟨rfl, hb⟩
            have B4 := Lib.hid (((HV.out.2.trans (hb.mono HV.out.2.size)).alloc (HV.out.2.trans (hb.mono HV.out.2.size)).size (.cells #[.int .i64 rv.k, .int .i64 rv.n, .string rv.t] 37)))
            clear hb
            go_wp2_with fail
            go_ret3
            exact TakePost.err HF.out HEI.out B4.out
        · have HF := Lib.hid (HA.out.done hlt)
          have hlt' : decide ((k : Int) < (u : Int)) = false := by simp; omega
          go_wp2_with fail
          go_ret3
          exact TakePost.ok HF.out rfl HV.out
  · have HF := Lib.hid (CodeM.take_err ht.symm hf)
    obtain ⟨ei, hei⟩ : ∃ ei : Int, ei = (f : Int) := ⟨_, rfl⟩
    have HEI := Lib.hid hei
    have e1 : ¬ ei = 0 := by omega
    have e2 : (ei == 0) = false := by simpa using e1
    have e3 : (ei != 0) = true := by simpa using e1
    rw [show ((u, x, f).2.2 : Int) = ei from hei.symm] at VT
    clear hei hf ht
    go_enter Try.func13, Try.ntmps13
    go_wp2_with fail
    refine (VT.out).mono ?_
    rintro e w' ⟨rfl, rfl⟩
    go_wp2_with fail
    go_ret3
    exact TakePost.err HF.out HEI.out (Below.refl _ _)
end Go.Proofs.Ytnjnlbcbdhdipaa
