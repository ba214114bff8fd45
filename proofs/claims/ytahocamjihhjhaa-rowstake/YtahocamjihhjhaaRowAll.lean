/-
  More on rows: append of a whole slice, the slices s[i:j], s[:j], s[i:], a row of bytes that is gathered, contracts that leave the world as it was.
-/
import Derived.Test.YtahocamjihhjhaaRowMore
namespace Go.Proofs.Ytahocamjihhjhaa
open Go.RowKit StrM

theorem below_drew {N : Nat} (w : World) (_ : N ≤ w.heap.size) : Below N w w.drew := ⟨rfl, rfl, rfl, Nat.le_refl _, fun _ _ => rfl⟩

theorem quiet_same {P : Program} {f : FuncId} {args : Array Value} {w : World} {n : Nat} {v : Value}
    (h : Calls P f args (w.drewN n) fun e w' => e = .returned v ∧ w.drewN n = w') : Calls P f args (w.drewN n) fun e w'' => e = .returned v ∧ ∃ m, w'' = w.drewN m :=
  h.mono fun _ _ ⟨he, hm⟩ => ⟨he, n, hm.symm⟩

theorem own_base {w : World} {base base' n : Nat} {e : TypeId} {v : Value} {xs : List Value} (h : w.ownsRow base' e 1 v n xs) (hb : base ≤ base') : w.ownsRow base e 1 v n xs := by
  refine ⟨h.1, ?_⟩
  rcases h.2 with h | ⟨g, cap, cur, h1, h2, h3⟩
  · exact .inl h
  · exact .inr ⟨g, cap, cur, h1, Nat.le_trans hb h2, h3⟩

theorem ofInt_nat (n x : Nat) : BitVec.ofInt n (x : Int) = BitVec.ofNat n x := by
  apply BitVec.eq_of_toNat_eq; simp

/-- The slices s[i:j], s[:j] and s[i:] of a slice that is read as a list. -/
theorem sliced_sees {w : World} {A : Option Addr} {len cap : Nat} {l : List UInt8} (h : SeesV w (.slice A len cap) (bys l)) (hcap : len ≤ cap) {i j : Nat} (hij : i ≤ j) (hj : j ≤ len) :
    ∃ A', sliced A i j cap 1 = .slice A' (j - i) (cap - i) ∧ SeesV w (.slice A' (j - i) (cap - i)) (bys ((l.drop i).take (j - i))) := by
  refine ⟨_, rfl, ?_⟩
  obtain ⟨A1, cap1, e, h⟩ := h
  injection e with e1 e2 e3
  subst e1 e3
  rw [bys_len] at e2
  have hl : (bys ((l.drop i).take (j - i))).length = j - i := by rw [bys_len]; simp; omega
  refine ⟨_, cap - i, by rw [hl], ?_⟩
  by_cases h0 : j - i = 0
  · left; exact List.length_eq_zero_iff.1 (by rw [hl]; exact h0)
  · rcases h with h | ⟨g, off, rfl, hg, hc⟩
    · have := congrArg List.length h
      rw [bys_len, List.length_nil] at this; omega
    · right
      rw [if_neg (by omega)]
      refine ⟨g, off + i, ?_, hg, fun k hk => ?_⟩
      · by_cases i0 : i = 0
        · subst i0; simp [Addr.add]
        · simp [Addr.add, i0]
      · rw [hl] at hk
        have := hc (i + k) (by rw [bys_len]; omega)
        rw [Nat.add_assoc, this]
        simp [bys]

theorem run_append_nil {P : Program} {t e : TypeId} {z : Value} {bytes : Nat} (H : OneCell P t e z bytes) (w : World) (ty : TypeId) {base n : Nat} {v : Value} {xs : List Value} (hown : w.ownsRow base e 1 v n xs) (c : Nat) :
    (Builtin.append_ #[t, t] ty #[v, .slice none 0 c]).run P w = .ok v w := by
  obtain ⟨i0, hi, _⟩ := info_parts H.info
  rcases hown.2 with ⟨rfl, rfl⟩ | ⟨g, cap, cur, rfl, _, _, hnc, _⟩
  · simp [Builtin.append_, run_underlying H.under, sizeOf, typeInfo, hi, Builtin.lenOf, Builtin.firstCells]
  · simp [Builtin.append_, run_underlying H.under, sizeOf, typeInfo, hi, Builtin.lenOf, Builtin.firstCells, hnc, storeCells]

/-- append of all elements of a slice that is read as a list, to a row of the call's own. -/
theorem append_all {P : Program} {t e : TypeId} {z : Value} {bytes : Nat} (H : OneCell P t e z bytes) {w : World} {ops : Array Oper} {rest : List Oper} {o : Oper} {a : Act} {Q : Exit → Act → World → Prop} (hgd : o.guard = none) (s x : Operand)
    (ho : o.op = .call { callee := .builtin .append, args := #[s, x], argTypes := #[t, t] })
    (base : Nat) (v : Value) (n : Nat) (xs : List Value) (hs : a.eval s = v) (hown : w.ownsRow base e 1 v n xs)
    (u : Value) (news : List Value) (hx : a.eval x = u) (hu : SeesV w u news) (h1 : ∀ c ∈ news, c.oneCell' = true)
    (hbound : (n + news.length) * bytes ≤ 140737488355328) (hn : n + news.length ≤ maxLen) (hbase : base ≤ w.heap.size)
    (h : ∀ v' w', w'.ownsRow base e 1 v' (n + news.length) (xs ++ news) → Below base w w' → wpList P ops Q rest (a.put o.dst v') w') : wpList P ops Q (o :: rest) a w := by
  obtain ⟨A, c, rfl, hsee⟩ := hu
  rcases A with _ | ad
  · have hnil : news = [] := by
      rcases hsee with h0 | ⟨g, off, h0, _⟩
      · exact h0
      · cases h0
    subst hnil
    refine wpList_plain hgd fun K hK => ?_
    have hr := run_append_nil H w o.type hown c
    have hfin := hK _ _ (h v w (by simpa using hown) (Below.refl _ _))
    unfold Oper.wp execOp
    simp only [ho, resolve, invoke, builtin, Sem.run_bind, Sem.run_pure, Result.andThen_ok, List.map_toArray, List.map_cons, List.map_nil, hs, hx, List.length_nil, hr]
    exact hfin
  · obtain ⟨i0, hi, hz0, hz1, hz2⟩ := info_parts H.info
    refine wpList_append_own w hgd s x t ho base e i0 z 1 bytes H.under hi hz0 hz1 hz2 H.cells (by decide) v n xs hs hown ad news.length c news hx (by simp) (fun j u hj => ?_) h1 hn hbound hbase ?_
    · rcases hsee with h0 | ⟨g, off, h0, _, hc⟩
      · subst h0; simp at hj
      · have e1 := Option.some.inj h0
        subst e1
        have hjl : j < news.length := (List.getElem?_eq_some_iff.1 hj).1
        have := hc j hjl
        rw [List.getElem?_eq_getElem hjl] at hj
        rw [Option.some.inj hj] at this
        by_cases j0 : j = 0
        · subst j0; simpa [Addr.add] using this
        · simpa [Addr.add, j0] using this
    · intro v' w' h2 h3 _
      exact h v' w' h2 ((Below.refl _ _).grown h3 hbase fun k hk => (hown.lt k hk).1)

theorem bys_ones (l : List UInt8) : ∀ c ∈ bys l, c.oneCell' = true := by
  intro c hc
  simp only [bys, List.mem_map] at hc
  obtain ⟨b, _, rfl⟩ := hc
  rfl

/-- What ending and padded have gathered so far. -/
def ERel (w : World) (v : Value) (acc : List UInt8) (wr : World) : Prop := wr.ownsRow w.heap.size 5 1 v acc.length (bys acc) ∧ Below w.heap.size w wr

theorem ERel.step {w wr w' : World} {v v' : Value} {acc : List UInt8} (h : ERel w v acc wr) {c : UInt8} {x : Int} (hx : x = (c.toNat : Int)) (h1 : w'.ownsRow w.heap.size 5 1 v' (acc.length + 1) (bys acc ++ [.int .u8 x])) (h2 : Below w.heap.size wr w') : ERel w v' (acc ++ [c]) w' := by
  subst hx
  refine ⟨?_, h.2.trans h2⟩
  rw [bys_add]
  simpa [bys] using h1

/-- A row's value, as a slice: its length and its capacity. -/
theorem own_slice {w : World} {base n : Nat} {e : TypeId} {v : Value} {xs : List Value} (h : w.ownsRow base e 1 v n xs) : ∃ A cap, v = .slice A n cap ∧ n ≤ cap := by
  rcases h.2 with ⟨rfl, rfl⟩ | ⟨g, cap, cur, rfl, _, _, hnc, _⟩
  · exact ⟨none, 0, rfl, Nat.le_refl _⟩
  · exact ⟨_, cap, rfl, hnc⟩

/-- What ending returns: a row of the call's own. -/
def EndPost (l : List UInt8) (w : World) (e : Ending) (w' : World) : Prop :=
  ∃ v, e = .returned v ∧ w'.ownsRow w.heap.size 5 1 v l.length (bys l) ∧ Below w.heap.size w w'

/-- A row of bytes that is built with its elements. -/
theorem own_built (w : World) (l : List UInt8) (hl : l.length ≤ maxLen) : (w.alloc (.cells (bys l).toArray 5)).ownsRow w.heap.size 5 1 (.slice (some ⟨w.heap.size, 0, none⟩) l.length l.length) l.length (bys l) :=
  ⟨by simp [bys_len], .inr ⟨w.heap.size, l.length, (bys l).toArray, rfl, Nat.le_refl _, heap_alloc_new w _, Nat.le_refl _, hl, by simp [bys_len], by rw [List.take_of_length_le (by simp [bys_len])]⟩⟩
theorem own_built1 (w : World) {c : UInt8} {x : Int} (hx : x = (c.toNat : Int)) : (w.alloc (.cells #[.int .u8 x] 5)).ownsRow w.heap.size 5 1 (.slice (some ⟨w.heap.size, 0, none⟩) 1 1) 1 (bys [c]) := by
  subst hx
  exact own_built w [c] (by unfold maxLen; simp)

/-- The length of the slice in a slot (a measure). -/
def sliceLen : Value → Nat | .slice _ n _ => n | _ => 0
end Go.Proofs.Ytahocamjihhjhaa
