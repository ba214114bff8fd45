/-
  Joined: RowMore RowAll RowKeep NumMath NumLeaf.
-/
import Derived.Test.YtaklilhnikmmfaaGreatJStr
import Derived.Laws.MakeOwn
import Derived.Test.YtaklilhnikmmfaaGreatRows
import Derived.WalkKit
import Derived.WalkSpells
import Derived.WalkLawsBesides
/-
  More on rows of one-cell elements: two appended at once, a row made with room, a slice of bytes that came in, string(b) of a slice that is read.
-/
namespace Go.Proofs.YtaklilhnikmmfaaGreat
open Go.RowKit StrM

/-- append of two elements, which the walk lays in a block of their own, to a row of the call's own. -/
theorem append_two {P : Program} {t e : TypeId} {z : Value} {bytes : Nat} (H : OneCell P t e z bytes) {w : World} {ops : Array Oper} {rest : List Oper} {o : Oper} {a : Act} {Q : Exit → Act → World → Prop} (hgd : o.guard = none) (s x : Operand)
    (ho : o.op = .call { callee := .builtin .append, args := #[s, x], argTypes := #[t, t] })
    (base : Nat) (v : Value) (n : Nat) (xs : List Value) (hs : a.eval s = v) (hown : w.ownsRow base e 1 v n xs)
    (u u2 : Value) (hu : u.oneCell' = true) (hu2 : u2.oneCell' = true) (hx : a.eval x = .slice (some ⟨w.heap.size, 0, none⟩) 2 2)
    (hbound : (n + 2) * bytes ≤ 140737488355328) (hn : n + 2 ≤ maxLen) (hbase : base ≤ w.heap.size)
    (h : ∀ v' w', w'.ownsRow base e 1 v' (n + 2) (xs ++ [u, u2]) → Below base w w' → wpList P ops Q rest (a.put o.dst v') w') : wpList P ops Q (o :: rest) a (w.alloc (.cells #[u, u2] e)) := by
  obtain ⟨i0, hi, hz0, hz1, hz2⟩ := info_parts H.info
  refine wpList_append_own (w.alloc (.cells #[u, u2] e)) hgd s x t ho base e i0 z 1 bytes H.under hi hz0 hz1 hz2 H.cells (by decide) v n xs hs (hown.alloc _) ⟨w.heap.size, 0, none⟩ 2 2 [u, u2] hx rfl (fun j c hj => ?_) (fun c hc => ?_) hn hbound (by simp; omega) ?_
  · match j, hj with
    | 0, hj => simp at hj; subst hj; simp [Addr.add]
    | 1, hj => simp at hj; subst hj; simp [Addr.add]
  · have : c = u ∨ c = u2 := by simpa using hc
    rcases this with rfl | rfl
    · exact hu
    · exact hu2
  · intro v' w' h1 h2 _
    exact h v' w' h1 (((Below.refl _ _).alloc hbase _).grown h2 (by simp; omega) fun k hk => (hown.lt k hk).1)

/-- The same, as one step of a region that draws its order. -/
theorem step_append_two {P : Program} {t e : TypeId} {z : Value} {bytes : Nat} (H : OneCell P t e z bytes) {w : World} {ops : Array Oper} {o : Oper} {a : Act} {K : Act → World → Prop} {Q : Exit → Act → World → Prop} {E : Prop} (hgd : o.guard = none) (s x : Operand)
    (ho : o.op = .call { callee := .builtin .append, args := #[s, x], argTypes := #[t, t] })
    (base : Nat) (v : Value) (n : Nat) (xs : List Value) (hs : a.eval s = v) (hown : w.ownsRow base e 1 v n xs)
    (u u2 : Value) (hu : u.oneCell' = true) (hu2 : u2.oneCell' = true) (hx : a.eval x = .slice (some ⟨w.heap.size, 0, none⟩) 2 2)
    (hbound : (n + 2) * bytes ≤ 140737488355328) (hn : n + 2 ≤ maxLen) (hbase : base ≤ w.heap.size)
    (h : ∀ v' w', w'.ownsRow base e 1 v' (n + 2) (xs ++ [u, u2]) → Below base w w' → K (a.put o.dst v') w') :
    if Region.wanted o (yielded ops a.tmps) = true then Oper.wp P o a (w.alloc (.cells #[u, u2] e)) K Q else E := by
  obtain ⟨i0, hi, hz0, hz1, hz2⟩ := info_parts H.info
  have hw : Region.wanted o (yielded ops a.tmps) = true := by simp [Region.wanted, hgd]
  rw [if_pos hw]
  refine wp_append_own (w.alloc (.cells #[u, u2] e)) s x t ho base e i0 z 1 bytes H.under hi hz0 hz1 hz2 H.cells (by decide) v n xs hs (hown.alloc _) ⟨w.heap.size, 0, none⟩ 2 2 [u, u2] hx rfl (fun j c hj => ?_) (fun c hc => ?_) hn hbound (by simp; omega) ?_
  · match j, hj with
    | 0, hj => simp at hj; subst hj; simp [Addr.add]
    | 1, hj => simp at hj; subst hj; simp [Addr.add]
  · have : c = u ∨ c = u2 := by simpa using hc
    rcases this with rfl | rfl
    · exact hu
    · exact hu2
  · intro v' w' h1 h2 _
    exact h v' w' h1 (((Below.refl _ _).alloc hbase _).grown h2 (by simp; omega) fun k hk => (hown.lt k hk).1)

/-- make([]T, 0, c). -/
theorem made_own {P : Program} {t e : TypeId} {z : Value} {bytes : Nat} (H : OneCell P t e z bytes) (w : World) (c : Nat) (hb : bytes * c ≤ 281474976710656) (hc : c ≤ maxLen) :
    ∃ w', (Instr.makeSlice t (.int .i64 0) (.int .i64 (c : Int))).run P w = .ok (.slice (some ⟨w.heap.size, 0, none⟩) 0 c) w' ∧ w'.ownsRow w.heap.size e 1 (.slice (some ⟨w.heap.size, 0, none⟩) 0 c) 0 [] ∧ Below w.heap.size w w' := by
  obtain ⟨i0, hi, hz0, hz1, hz2⟩ := info_parts H.info
  obtain ⟨w', h1, h2, h3⟩ := run_make_own w w.heap.size t e i0 z 1 H.under hi hz0 hz1 .i64 .i64 c (by rw [hz2]; exact hb) hc (Nat.le_refl _)
  exact ⟨w', h1, h2, (Below.refl _ _).grown h3 (Nat.le_refl _) (fun k hk => by cases hk)⟩

/-- A slice of bytes that came in, read as a list. -/
theorem SeesV.of_bytes {w : World} {a : Option Addr} {len cap : Nat} {zs : List Int}
    (h : (a = none ∧ len = 0 ∧ cap = 0 ∧ zs = []) ∨ ∃ x, a = some x ∧ len ≤ cap ∧ cap ≤ maxLen ∧ zs.length = cap ∧ (∀ i, i < zs.length → w.cell? (x.add i) = some (.int .u8 (zs.getD i 0))) ∧ ∀ n ∈ zs, (Lit.int .u8 n).wf = true) :
    ∃ l : List UInt8, l.length = len ∧ SeesV w (.slice a len cap) (bys l) := by
  rcases h with ⟨rfl, rfl, rfl, rfl⟩ | ⟨x, rfl, hl, hm, hz, hcell, hwf⟩
  · exact ⟨[], rfl, none, 0, rfl, .inl rfl⟩
  · have hb : ∀ n ∈ zs, (((UInt8.ofNat n.toNat).toNat : Nat) : Int) = n := by
      intro n hn
      have h := hwf n hn
      have hb : 0 ≤ n ∧ n ≤ 255 := by
        simp [Lit.wf, IntKind.min, IntKind.max, IntKind.signed, IntKind.bits] at h
        omega
      rw [UInt8.toNat_ofNat']; omega
    refine ⟨(zs.take len).map fun n => UInt8.ofNat n.toNat, by simp; omega, some x, cap, by simp [bys]; omega, ?_⟩
    by_cases h0 : len = 0
    · left; simp [h0, bys]
    · right
      obtain ⟨b, off, spot⟩ := x
      have hc := hcell 0 (by omega)
      have hspot : spot = none := by simpa [Addr.add] using World.cell?_spot hc
      subst hspot
      have hlt : b < w.heap.size := by
        simp only [World.cell?, Addr.add] at hc
        by_cases g : b < w.heap.size
        · exact g
        · simp [g] at hc
      refine ⟨b, off, rfl, hlt, fun k hk => ?_⟩
      have hk' : k < len := by simp [bys] at hk; omega
      have := hcell k (by omega)
      have e : (bys ((zs.take len).map fun n => UInt8.ofNat n.toNat))[k] = .int .u8 (zs.getD k 0) := by
        have hkz : k < zs.length := by omega
        simp only [bys, List.getElem_map, List.getElem_take]
        rw [hb _ (List.getElem_mem hkz)]
        simp [List.getD, hkz]
      rw [e]
      by_cases hk0 : k = 0
      · subst hk0; simpa [Addr.add] using this
      · simpa [Addr.add, hk0] using this

theorem run_text_empty (w : World) (a : Option Addr) (cap : Nat) : (convert 38 9 (.slice a 0 cap)).run Tryz.prog w = .ok (.string ⟨#[]⟩) w := by
  cases a with
  | none => kernel_rfl
  | some x => exact run_convert_bytes_back w 38 9 5 x cap [] Tryz.underlying38 Tryz.underlying5 Tryz.underlying9 (fun j hj => absurd hj (by simp))

/-- string(b) of a slice of bytes that is read as a list. -/
theorem run_text_sees {w : World} {v : Value} {l : List UInt8} (h : SeesV w v (bys l)) :
    (convert 38 9 v).run Tryz.prog w = .ok (.string ⟨l.toArray⟩) w := by
  obtain ⟨a, cap, rfl, h0 | ⟨g, off, rfl, hg, hc⟩⟩ := h
  · have : l = [] := by simpa [bys] using h0
    subst this
    exact run_text_empty w a cap
  · rw [bys_len]
    refine run_convert_bytes_back w 38 9 5 ⟨g, off, none⟩ cap l Tryz.underlying38 Tryz.underlying5 Tryz.underlying9 (fun j hj => ?_)
    have := hc j (by rw [bys_len]; exact hj)
    rw [show (bys l)[j]'(by rw [bys_len]; exact hj) = .int .u8 (l[j].toNat : Int) from by simp [bys]] at this
    by_cases k0 : j = 0
    · subst k0; simpa [Addr.add] using this
    · simpa [Addr.add, k0] using this
theorem SeesV.cell {w : World} {a : Option Addr} {n cap : Nat} {l : List UInt8} (h : SeesV w (.slice a n cap) (bys l)) {k : Nat} (hk : k < l.length) :
    ∃ g off, a = some ⟨g, off, none⟩ ∧ g < w.heap.size ∧ w.cell? ⟨g, off + k, none⟩ = some (.int .u8 (l[k].toNat : Int)) := by
  obtain ⟨a', cap', e, h⟩ := h
  injection e with e1 e2 e3
  subst e1
  rcases h with h0 | ⟨g, off, rfl, hg, hc⟩
  · have := congrArg List.length h0
    rw [bys_len, List.length_nil] at this; omega
  · refine ⟨g, off, rfl, hg, ?_⟩
    rw [hc k (by rw [bys_len]; exact hk)]; simp [bys]

/-- The same bytes, by the reference's Bytes. -/
theorem bytes_same (v1 v2 : Value) (l : List UInt8) (w : World) (h1 : SeesV w v1 (bys l)) (h2 : SeesV w v2 (bys l)) :
    Calls Tryz.prog 20 #[v1, v2] w fun e w' => e = .returned (.bool true) ∧ w = w' := by
  have r1 := run_text_sees h1
  have r2 := run_text_sees h2
  clear h1 h2
  generalize (⟨l.toArray⟩ : ByteArray) = S at *
  go_enter Tryz.func20, Tryz.ntmps20
  go_wp2_with fail
  go_ret
  exact ⟨rfl, rfl⟩
/-- The same, with a letter for the world behind it. -/
theorem bytes_same' (v1 v2 : Value) (l : List UInt8) (w : World) (h1 : SeesV w v1 (bys l)) (h2 : SeesV w v2 (bys l)) :
    Calls Tryz.prog 20 #[v1, v2] w fun e w' => e = .returned (.bool true) ∧ Below w.heap.size w w' := by
  refine (bytes_same v1 v2 l w h1 h2).mono ?_
  rintro e w' ⟨rfl, rfl⟩
  exact ⟨rfl, Below.refl _ _⟩
end Go.Proofs.YtaklilhnikmmfaaGreat

/-
  More on rows: append of a whole slice, the slices s[i:j], s[:j], s[i:], a row of bytes that is gathered, contracts that leave the world as it was.
-/
namespace Go.Proofs.YtaklilhnikmmfaaGreat
open Go.RowKit StrM

theorem below_drew {N : Nat} (w : World) (_ : N ≤ w.heap.size) : Below N w w.drew := ⟨rfl, rfl, rfl, Nat.le_refl _, fun _ _ => rfl⟩

theorem quiet_same {P : Program} {f : FuncId} {args : Array Value} {w : World} {n : Nat} {v : Value}
    (h : Calls P f args (w.drewN n) fun e w' => e = .returned v ∧ w.drewN n = w') : Calls P f args (w.drewN n) fun e w'' => e = .returned v ∧ ∃ m, w'' = w.drewN m :=
  h.mono fun _ _ ⟨he, hm⟩ => ⟨he, n, hm.symm⟩

theorem own_base {w : World} {base base' n : Nat} {e : TypeId} {v : Value} {xs : List Value} (h : w.ownsRow base' e 1 v n xs) (hb : base ≤ base') : w.ownsRow base e 1 v n xs := by
  refine ⟨h.1, ?_⟩
  rcases h.2 with h | ⟨g, cap, cur, h1, h2, h3⟩
  · exact .inl h
  · exact .inr ⟨g, cap, cur, h1, Nat.le_trans hb h2, h3⟩

theorem ofInt_nat (n x : Nat) : BitVec.ofInt n (x : Int) = BitVec.ofNat n x := by
  apply BitVec.eq_of_toNat_eq; simp

/-- The slices s[i:j], s[:j] and s[i:] of a slice that is read as a list. -/
theorem sliced_sees {w : World} {A : Option Addr} {len cap : Nat} {l : List UInt8} (h : SeesV w (.slice A len cap) (bys l)) (hcap : len ≤ cap) {i j : Nat} (hij : i ≤ j) (hj : j ≤ len) :
    ∃ A', sliced A i j cap 1 = .slice A' (j - i) (cap - i) ∧ SeesV w (.slice A' (j - i) (cap - i)) (bys ((l.drop i).take (j - i))) := by
  refine ⟨_, rfl, ?_⟩
  obtain ⟨A1, cap1, e, h⟩ := h
  injection e with e1 e2 e3
  subst e1 e3
  rw [bys_len] at e2
  have hl : (bys ((l.drop i).take (j - i))).length = j - i := by rw [bys_len]; simp; omega
  refine ⟨_, cap - i, by rw [hl], ?_⟩
  by_cases h0 : j - i = 0
  · left; exact List.length_eq_zero_iff.1 (by rw [hl]; exact h0)
  · rcases h with h | ⟨g, off, rfl, hg, hc⟩
    · have := congrArg List.length h
      rw [bys_len, List.length_nil] at this; omega
    · right
      rw [if_neg (by omega)]
      refine ⟨g, off + i, ?_, hg, fun k hk => ?_⟩
      · by_cases i0 : i = 0
        · subst i0; simp [Addr.add]
        · simp [Addr.add, i0]
      · rw [hl] at hk
        have := hc (i + k) (by rw [bys_len]; omega)
        rw [Nat.add_assoc, this]
        simp [bys]

theorem elem_bytes : Tryz.prog.underlying 38 = some (.slice (Tryz.prog.elem 38)) := by kernel_rfl

theorem size_byte (W : World) : (sizeOf (Tryz.prog.elem 38)).run Tryz.prog W = .ok 1 W := by kernel_rfl

theorem cut_lh {w : World} {A : Option Addr} {len cap : Nat} {l : List UInt8} (h : SeesV w (.slice A len cap) (bys l)) (hcap : len ≤ cap) {i j : Nat} (hij : i ≤ j) (hj : j ≤ len) :
    ∃ A', (∀ W, (Instr.sliceAt 38 (.slice A len cap) (some (.int .i64 (i : Int))) (some (.int .i64 (j : Int))) none).run Tryz.prog W = .ok (.slice A' (j - i) (cap - i)) W) ∧ SeesV w (.slice A' (j - i) (cap - i)) (bys ((l.drop i).take (j - i))) := by
  obtain ⟨A', e, hs⟩ := sliced_sees h hcap hij hj
  refine ⟨A', fun W => ?_, hs⟩
  rw [run_sliceAt_slice W _ _ _ _ _ elem_bytes, run_slice_lh W _ A len cap elem_bytes .i64 .i64 _ _ (by omega) (by omega) (by omega), size_byte]
  simp only [Result.andThen, Int.toNat_natCast, e]

theorem cut_h {w : World} {A : Option Addr} {len cap : Nat} {l : List UInt8} (h : SeesV w (.slice A len cap) (bys l)) (hcap : len ≤ cap) {j : Nat} (hj : j ≤ len) :
    ∃ A', (∀ W, (Instr.sliceAt 38 (.slice A len cap) none (some (.int .i64 (j : Int))) none).run Tryz.prog W = .ok (.slice A' j cap) W) ∧ SeesV w (.slice A' j cap) (bys (l.take j)) := by
  obtain ⟨A', e, hs⟩ := sliced_sees h hcap (Nat.zero_le j) hj
  simp only [Nat.sub_zero, List.drop_zero] at e hs
  refine ⟨A', fun W => ?_, hs⟩
  rw [run_sliceAt_slice W _ _ _ _ _ elem_bytes, run_slice_h W _ A len cap elem_bytes .i64 _ (by omega) (by omega), size_byte]
  simp only [Result.andThen, Int.toNat_natCast, e]

theorem cut_l {w : World} {A : Option Addr} {len cap : Nat} {l : List UInt8} (h : SeesV w (.slice A len cap) (bys l)) (hcap : len ≤ cap) {i : Nat} (hi : i ≤ len) :
    ∃ A', (∀ W, (Instr.sliceAt 38 (.slice A len cap) (some (.int .i64 (i : Int))) none none).run Tryz.prog W = .ok (.slice A' (len - i) (cap - i)) W) ∧ SeesV w (.slice A' (len - i) (cap - i)) (bys (l.drop i)) := by
  have hl : l.length = len := by obtain ⟨_, _, e, _⟩ := h; injection e with _ e _; rw [e, bys_len]
  obtain ⟨A', e, hs⟩ := sliced_sees h hcap hi (Nat.le_refl len)
  rw [List.take_of_length_le (by rw [List.length_drop, hl]; exact Nat.le_refl _)] at hs
  refine ⟨A', fun W => ?_, hs⟩
  rw [run_sliceAt_slice W _ _ _ _ _ elem_bytes, run_slice_l W _ A len cap elem_bytes .i64 _ (by omega) (by omega), size_byte]
  simp only [Result.andThen, Int.toNat_natCast, e]

theorem run_append_nil {P : Program} {t e : TypeId} {z : Value} {bytes : Nat} (H : OneCell P t e z bytes) (w : World) (ty : TypeId) {base n : Nat} {v : Value} {xs : List Value} (hown : w.ownsRow base e 1 v n xs) (c : Nat) :
    (Builtin.append_ #[t, t] ty #[v, .slice none 0 c]).run P w = .ok v w := by
  obtain ⟨i0, hi, _⟩ := info_parts H.info
  rcases hown.2 with ⟨rfl, rfl⟩ | ⟨g, cap, cur, rfl, _, _, hnc, _⟩
  · simp [Builtin.append_, run_underlying H.under, sizeOf, typeInfo, hi, Builtin.lenOf, Builtin.firstCells]
  · simp [Builtin.append_, run_underlying H.under, sizeOf, typeInfo, hi, Builtin.lenOf, Builtin.firstCells, hnc, storeCells]

/-- append of all elements of a slice that is read as a list, to a row of the call's own. -/
theorem append_all {P : Program} {t e : TypeId} {z : Value} {bytes : Nat} (H : OneCell P t e z bytes) {w : World} {ops : Array Oper} {rest : List Oper} {o : Oper} {a : Act} {Q : Exit → Act → World → Prop} (hgd : o.guard = none) (s x : Operand)
    (ho : o.op = .call { callee := .builtin .append, args := #[s, x], argTypes := #[t, t] })
    (base : Nat) (v : Value) (n : Nat) (xs : List Value) (hs : a.eval s = v) (hown : w.ownsRow base e 1 v n xs)
    (u : Value) (news : List Value) (hx : a.eval x = u) (hu : SeesV w u news) (h1 : ∀ c ∈ news, c.oneCell' = true)
    (hbound : (n + news.length) * bytes ≤ 140737488355328) (hn : n + news.length ≤ maxLen) (hbase : base ≤ w.heap.size)
    (h : ∀ v' w', w'.ownsRow base e 1 v' (n + news.length) (xs ++ news) → Below base w w' → wpList P ops Q rest (a.put o.dst v') w') : wpList P ops Q (o :: rest) a w := by
  obtain ⟨A, c, rfl, hsee⟩ := hu
  rcases A with _ | ad
  · have hnil : news = [] := by
      rcases hsee with h0 | ⟨g, off, h0, _⟩
      · exact h0
      · cases h0
    subst hnil
    refine wpList_plain hgd fun K hK => ?_
    have hr := run_append_nil H w o.type hown c
    have hfin := hK _ _ (h v w (by simpa using hown) (Below.refl _ _))
    unfold Oper.wp execOp
    simp only [ho, resolve, invoke, builtin, Sem.run_bind, Sem.run_pure, Result.andThen_ok, List.map_toArray, List.map_cons, List.map_nil, hs, hx, List.length_nil, hr]
    exact hfin
  · obtain ⟨i0, hi, hz0, hz1, hz2⟩ := info_parts H.info
    refine wpList_append_own w hgd s x t ho base e i0 z 1 bytes H.under hi hz0 hz1 hz2 H.cells (by decide) v n xs hs hown ad news.length c news hx (by simp) (fun j u hj => ?_) h1 hn hbound hbase ?_
    · rcases hsee with h0 | ⟨g, off, h0, _, hc⟩
      · subst h0; simp at hj
      · have e1 := Option.some.inj h0
        subst e1
        have hjl : j < news.length := (List.getElem?_eq_some_iff.1 hj).1
        have := hc j hjl
        rw [List.getElem?_eq_getElem hjl] at hj
        rw [Option.some.inj hj] at this
        by_cases j0 : j = 0
        · subst j0; simpa [Addr.add] using this
        · simpa [Addr.add, j0] using this
    · intro v' w' h2 h3 _
      exact h v' w' h2 ((Below.refl _ _).grown h3 hbase fun k hk => (hown.lt k hk).1)

theorem bys_ones (l : List UInt8) : ∀ c ∈ bys l, c.oneCell' = true := by
  intro c hc
  simp only [bys, List.mem_map] at hc
  obtain ⟨b, _, rfl⟩ := hc
  rfl

/-- What ending and padded have gathered so far. -/
def ERel (w : World) (v : Value) (acc : List UInt8) (wr : World) : Prop := wr.ownsRow w.heap.size 5 1 v acc.length (bys acc) ∧ Below w.heap.size w wr

theorem ERel.step {w wr w' : World} {v v' : Value} {acc : List UInt8} (h : ERel w v acc wr) {c : UInt8} {x : Int} (hx : x = (c.toNat : Int)) (h1 : w'.ownsRow w.heap.size 5 1 v' (acc.length + 1) (bys acc ++ [.int .u8 x])) (h2 : Below w.heap.size wr w') : ERel w v' (acc ++ [c]) w' := by
  subst hx
  refine ⟨?_, h.2.trans h2⟩
  rw [bys_add]
  simpa [bys] using h1

/-- A row's value, as a slice: its length and its capacity. -/
theorem own_slice {w : World} {base n : Nat} {e : TypeId} {v : Value} {xs : List Value} (h : w.ownsRow base e 1 v n xs) : ∃ A cap, v = .slice A n cap ∧ n ≤ cap := by
  rcases h.2 with ⟨rfl, rfl⟩ | ⟨g, cap, cur, rfl, _, _, hnc, _⟩
  · exact ⟨none, 0, rfl, Nat.le_refl _⟩
  · exact ⟨_, cap, rfl, hnc⟩

/-- What ending returns: a row of the call's own. -/
def EndPost (l : List UInt8) (w : World) (e : Ending) (w' : World) : Prop :=
  ∃ v, e = .returned v ∧ w'.ownsRow w.heap.size 5 1 v l.length (bys l) ∧ Below w.heap.size w w'

/-- A row of bytes that is built with its elements. -/
theorem own_built (w : World) (l : List UInt8) (hl : l.length ≤ maxLen) : (w.alloc (.cells (bys l).toArray 5)).ownsRow w.heap.size 5 1 (.slice (some ⟨w.heap.size, 0, none⟩) l.length l.length) l.length (bys l) :=
  ⟨by simp [bys_len], .inr ⟨w.heap.size, l.length, (bys l).toArray, rfl, Nat.le_refl _, heap_alloc_new w _, Nat.le_refl _, hl, by simp [bys_len], by rw [List.take_of_length_le (by simp [bys_len])]⟩⟩
theorem own_built1 (w : World) {c : UInt8} {x : Int} (hx : x = (c.toNat : Int)) : (w.alloc (.cells #[.int .u8 x] 5)).ownsRow w.heap.size 5 1 (.slice (some ⟨w.heap.size, 0, none⟩) 1 1) 1 (bys [c]) := by
  subst hx
  exact own_built w [c] (by unfold maxLen; simp)

/-- The length of the slice in a slot (a measure). -/
def sliceLen : Value → Nat | .slice _ n _ => n | _ => 0
end Go.Proofs.YtaklilhnikmmfaaGreat

/-
  What else stays where a row of the call's own grows.
-/
namespace Go.Proofs.YtaklilhnikmmfaaGreat
open Go.RowKit StrM

/-- Whatever block is not the row's own stays as it is. -/
def Stays (w w' : World) (v : Value) : Prop := ∀ q o, w.heap[q]? = some o → some q ≠ v.ownBlock → w'.heap[q]? = some o

theorem append_one_k {P : Program} {t e : TypeId} {z : Value} {bytes : Nat} (H : OneCell P t e z bytes) {w : World} {ops : Array Oper} {rest : List Oper} {o : Oper} {a : Act} {Q : Exit → Act → World → Prop} (hgd : o.guard = none) (s x : Operand)
    (ho : o.op = .call { callee := .builtin .append, args := #[s, x], argTypes := #[t, t] })
    (base : Nat) (v : Value) (n : Nat) (xs : List Value) (hs : a.eval s = v) (hown : w.ownsRow base e 1 v n xs)
    (u : Value) (hu : u.oneCell' = true) (hx : a.eval x = .slice (some ⟨w.heap.size, 0, none⟩) 1 1)
    (hbound : (n + 1) * bytes ≤ 140737488355328) (hn : n + 1 ≤ maxLen) (hbase : base ≤ w.heap.size)
    (h : ∀ v' w', w'.ownsRow base e 1 v' (n + 1) (xs ++ [u]) → Below base w w' → Stays w w' v → wpList P ops Q rest (a.put o.dst v') w') : wpList P ops Q (o :: rest) a (w.alloc (.cells #[u] e)) := by
  obtain ⟨i0, hi, hz0, hz1, hz2⟩ := info_parts H.info
  refine wpList_append_own (w.alloc (.cells #[u] e)) hgd s x t ho base e i0 z 1 bytes H.under hi hz0 hz1 hz2 H.cells (by decide) v n xs hs (hown.alloc _) ⟨w.heap.size, 0, none⟩ 1 1 [u] hx rfl (fun j c hj => ?_) (fun c hc => ?_) hn hbound (by simp; omega) ?_
  · match j, hj with
    | 0, hj => simp at hj; subst hj; simp [Addr.add]
  · have : c = u := by simpa using hc
    subst this; exact hu
  · intro v' w' h1 h2 _
    refine h v' w' h1 (((Below.refl _ _).alloc hbase _).grown h2 (by simp; omega) fun k hk => (hown.lt k hk).1) fun q o hq hne => ?_
    have hlt : q < w.heap.size := (Array.getElem?_eq_some_iff.1 hq).1
    rw [h2.block q (by simp; omega) hne, Below.heap_alloc w _ q hlt]
    exact hq

theorem append_all_k {P : Program} {t e : TypeId} {z : Value} {bytes : Nat} (H : OneCell P t e z bytes) {w : World} {ops : Array Oper} {rest : List Oper} {o : Oper} {a : Act} {Q : Exit → Act → World → Prop} (hgd : o.guard = none) (s x : Operand)
    (ho : o.op = .call { callee := .builtin .append, args := #[s, x], argTypes := #[t, t] })
    (base : Nat) (v : Value) (n : Nat) (xs : List Value) (hs : a.eval s = v) (hown : w.ownsRow base e 1 v n xs)
    (u : Value) (news : List Value) (hx : a.eval x = u) (hu : SeesV w u news) (h1 : ∀ c ∈ news, c.oneCell' = true)
    (hbound : (n + news.length) * bytes ≤ 140737488355328) (hn : n + news.length ≤ maxLen) (hbase : base ≤ w.heap.size)
    (h : ∀ v' w', w'.ownsRow base e 1 v' (n + news.length) (xs ++ news) → Below base w w' → Stays w w' v → wpList P ops Q rest (a.put o.dst v') w') : wpList P ops Q (o :: rest) a w := by
  obtain ⟨A, c, rfl, hsee⟩ := hu
  rcases A with _ | ad
  · have hnil : news = [] := by
      rcases hsee with h0 | ⟨g, off, h0, _⟩
      · exact h0
      · cases h0
    subst hnil
    refine wpList_plain hgd fun K hK => ?_
    have hr := run_append_nil H w o.type hown c
    have hfin := hK _ _ (h v w (by simpa using hown) (Below.refl _ _) (fun _ _ hq _ => hq))
    unfold Oper.wp execOp
    simp only [ho, resolve, invoke, builtin, Sem.run_bind, Sem.run_pure, Result.andThen_ok, List.map_toArray, List.map_cons, List.map_nil, hs, hx, List.length_nil, hr]
    exact hfin
  · obtain ⟨i0, hi, hz0, hz1, hz2⟩ := info_parts H.info
    refine wpList_append_own w hgd s x t ho base e i0 z 1 bytes H.under hi hz0 hz1 hz2 H.cells (by decide) v n xs hs hown ad news.length c news hx (by simp) (fun j u hj => ?_) h1 hn hbound hbase ?_
    · rcases hsee with h0 | ⟨g, off, h0, _, hc⟩
      · subst h0; simp at hj
      · have e1 := Option.some.inj h0
        subst e1
        have hjl : j < news.length := (List.getElem?_eq_some_iff.1 hj).1
        have := hc j hjl
        rw [List.getElem?_eq_getElem hjl] at hj
        rw [Option.some.inj hj] at this
        by_cases j0 : j = 0
        · subst j0; simpa [Addr.add] using this
        · simpa [Addr.add, j0] using this
    · intro v' w' h2 h3 _
      refine h v' w' h2 ((Below.refl _ _).grown h3 hbase fun k hk => (hown.lt k hk).1) fun q o hq hne => ?_
      rw [h3.block q (Array.getElem?_eq_some_iff.1 hq).1 hne]
      exact hq

theorem step_append_all_k {P : Program} {t e : TypeId} {z : Value} {bytes : Nat} (H : OneCell P t e z bytes) {w : World} {ops : Array Oper} {o : Oper} {a : Act} {K : Act → World → Prop} {Q : Exit → Act → World → Prop} {E : Prop} (hgd : o.guard = none) (s x : Operand)
    (ho : o.op = .call { callee := .builtin .append, args := #[s, x], argTypes := #[t, t] })
    (base : Nat) (v : Value) (n : Nat) (xs : List Value) (hs : a.eval s = v) (hown : w.ownsRow base e 1 v n xs)
    (u : Value) (news : List Value) (hx : a.eval x = u) (hu : SeesV w u news) (h1 : ∀ c ∈ news, c.oneCell' = true)
    (hbound : (n + news.length) * bytes ≤ 140737488355328) (hn : n + news.length ≤ maxLen) (hbase : base ≤ w.heap.size)
    (h : ∀ v' w', w'.ownsRow base e 1 v' (n + news.length) (xs ++ news) → Below base w w' → Stays w w' v → K (a.put o.dst v') w') :
    if Region.wanted o (yielded ops a.tmps) = true then Oper.wp P o a w K Q else E := by
  have hw : Region.wanted o (yielded ops a.tmps) = true := by simp [Region.wanted, hgd]
  rw [if_pos hw]
  obtain ⟨A, c, rfl, hsee⟩ := hu
  rcases A with _ | ad
  · have hnil : news = [] := by
      rcases hsee with h0 | ⟨g, off, h0, _⟩
      · exact h0
      · cases h0
    subst hnil
    have hr := run_append_nil H w o.type hown c
    have hfin := h v w (by simpa using hown) (Below.refl _ _) (fun _ _ hq _ => hq)
    unfold Oper.wp execOp
    simp only [ho, resolve, invoke, builtin, Sem.run_bind, Sem.run_pure, Result.andThen_ok, List.map_toArray, List.map_cons, List.map_nil, hs, hx, List.length_nil, hr]
    exact hfin
  · obtain ⟨i0, hi, hz0, hz1, hz2⟩ := info_parts H.info
    refine wp_append_own w s x t ho base e i0 z 1 bytes H.under hi hz0 hz1 hz2 H.cells (by decide) v n xs hs hown ad news.length c news hx (by simp) (fun j u hj => ?_) h1 hn hbound hbase ?_
    · rcases hsee with h0 | ⟨g, off, h0, _, hc⟩
      · subst h0; simp at hj
      · have e1 := Option.some.inj h0
        subst e1
        have hjl : j < news.length := (List.getElem?_eq_some_iff.1 hj).1
        have := hc j hjl
        rw [List.getElem?_eq_getElem hjl] at hj
        rw [Option.some.inj hj] at this
        by_cases j0 : j = 0
        · subst j0; simpa [Addr.add] using this
        · simpa [Addr.add, j0] using this
    · intro v' w' h2 h3 _
      refine h v' w' h2 ((Below.refl _ _).grown h3 hbase fun k hk => (hown.lt k hk).1) fun q o hq hne => ?_
      rw [h3.block q (Array.getElem?_eq_some_iff.1 hq).1 hne]
      exact hq

/-- A row that was made later stays where another one grows. -/
theorem own_stays {w w' : World} {v u : Value} {base' n' : Nat} {ys : List Value} {e' : TypeId} (hu : w.ownsRow base' e' 1 u n' ys) (hs : Stays w w' v) (hlt : ∀ q, v.ownBlock = some q → q < base') : w'.ownsRow base' e' 1 u n' ys := by
  refine ⟨hu.1, ?_⟩
  rcases hu.2 with h | ⟨g, cap, cur, h1, h2, h3, h4⟩
  · exact .inl h
  · refine .inr ⟨g, cap, cur, h1, h2, ?_, h4⟩
    exact hs g _ h3 fun e => by have := hlt g e.symm; omega

theorem step_append_one_k {P : Program} {t e : TypeId} {z : Value} {bytes : Nat} (H : OneCell P t e z bytes) {w : World} {ops : Array Oper} {o : Oper} {a : Act} {K : Act → World → Prop} {Q : Exit → Act → World → Prop} {E : Prop} (hgd : o.guard = none) (s x : Operand)
    (ho : o.op = .call { callee := .builtin .append, args := #[s, x], argTypes := #[t, t] })
    (base : Nat) (v : Value) (n : Nat) (xs : List Value) (hs : a.eval s = v) (hown : w.ownsRow base e 1 v n xs)
    (u : Value) (hu : u.oneCell' = true) (hx : a.eval x = .slice (some ⟨w.heap.size, 0, none⟩) 1 1)
    (hbound : (n + 1) * bytes ≤ 140737488355328) (hn : n + 1 ≤ maxLen) (hbase : base ≤ w.heap.size)
    (h : ∀ v' w', w'.ownsRow base e 1 v' (n + 1) (xs ++ [u]) → Below base w w' → Stays w w' v → K (a.put o.dst v') w') :
    if Region.wanted o (yielded ops a.tmps) = true then Oper.wp P o a (w.alloc (.cells #[u] e)) K Q else E := by
  obtain ⟨i0, hi, hz0, hz1, hz2⟩ := info_parts H.info
  have hw : Region.wanted o (yielded ops a.tmps) = true := by simp [Region.wanted, hgd]
  rw [if_pos hw]
  refine wp_append_own (w.alloc (.cells #[u] e)) s x t ho base e i0 z 1 bytes H.under hi hz0 hz1 hz2 H.cells (by decide) v n xs hs (hown.alloc _) ⟨w.heap.size, 0, none⟩ 1 1 [u] hx rfl (fun j c hj => ?_) (fun c hc => ?_) hn hbound (by simp; omega) ?_
  · match j, hj with
    | 0, hj => simp at hj; subst hj; simp [Addr.add]
  · have : c = u := by simpa using hc
    subst this; exact hu
  · intro v' w' h1 h2 _
    refine h v' w' h1 (((Below.refl _ _).alloc hbase _).grown h2 (by simp; omega) fun k hk => (hown.lt k hk).1) fun q o hq hne => ?_
    have hlt : q < w.heap.size := (Array.getElem?_eq_some_iff.1 hq).1
    rw [h2.block q (by simp; omega) hne, Below.heap_alloc w _ q hlt]
    exact hq

/-- A row of another block stays. -/
theorem own_keep {w w' : World} {base sz n : Nat} {e : TypeId} {u v : Value} {xs : List Value} (h : w.ownsRow base e sz u n xs) (hst : Stays w w' v) (hne : u.ownBlock = none ∨ u.ownBlock ≠ v.ownBlock) : w'.ownsRow base e sz u n xs := by
  refine ⟨h.1, ?_⟩
  rcases h.2 with h | ⟨g, cap, cur, rfl, h2, h3, h4⟩
  · exact .inl h
  · refine .inr ⟨g, cap, cur, rfl, h2, hst g _ h3 ?_, h4⟩
    rcases hne with h | h
    · cases h
    · exact h

/-- Rows of two kinds of elements lie in two blocks. -/
theorem own_diff {w : World} {b b' s s' n m : Nat} {e e' : TypeId} {v u : Value} {xs ys : List Value} (he : e ≠ e') (h : w.ownsRow b e s v n xs) (h' : w.ownsRow b' e' s' u m ys) : u.ownBlock = none ∨ u.ownBlock ≠ v.ownBlock := by
  rcases h'.2 with ⟨rfl, _⟩ | ⟨g', cap', cur', rfl, _, h3', _⟩
  · exact .inl rfl
  · right
    rcases h.2 with ⟨rfl, _⟩ | ⟨g, cap, cur, rfl, _, h3, _⟩
    · intro x; cases x
    · intro x
      have x : g' = g := by simpa [Value.ownBlock] using x
      subst x
      rw [h3] at h3'
      injection h3' with h3'
      injection h3' with _ h3' _
      exact he h3'
theorem own_belowN {w w' : World} {base : Nat} {e : TypeId} {sz n : Nat} {v : Value} {xs : List Value} (h : w.ownsRow base e sz v n xs) (hb : Below w.heap.size w w') : w'.ownsRow base e sz v n xs :=
  h.kept (row := none) ⟨hb.os, hb.tape, hb.output, hb.size, fun k hk _ => hb.block k hk⟩ (by cases v.ownBlock <;> simp)
theorem own_baseN {w : World} {base base' sz n : Nat} {e : TypeId} {v : Value} {xs : List Value} (h : w.ownsRow base' e sz v n xs) (hb : base ≤ base') : w.ownsRow base e sz v n xs := by
  refine ⟨h.1, ?_⟩
  rcases h.2 with h | ⟨g, cap, cur, h1, h2, h3⟩
  · exact .inl h
  · exact .inr ⟨g, cap, cur, h1, Nat.le_trans hb h2, h3⟩
theorem own_one {w : World} {base sz n : Nat} {e : TypeId} {v : Value} {xs : List Value} (h : w.ownsRow base e sz v n xs) : v.oneCell' = true := by
  rcases h.2 with ⟨rfl, _⟩ | ⟨g, cap, cur, rfl, _⟩ <;> rfl
end Go.Proofs.YtaklilhnikmmfaaGreat

/-
  Plain facts about sizes and their sums (no program): what is a size, the sum of two sizes, the sum of a list.
-/
namespace Go.Proofs.YtaklilhnikmmfaaGreat.NumM

def isB (n : Int) : Bool := decide (0 ≤ n) && decide (n ≤ 1099511627776)

theorem isB_iff (n : Int) : isB n = true ↔ 0 ≤ n ∧ n ≤ 1099511627776 := by simp [isB]
theorem isB_true {n : Int} (h : isB n = true) : 0 ≤ n ∧ n ≤ 1099511627776 := (isB_iff n).1 h
theorem isB_false {n : Int} (h : isB n = false) : n < 0 ∨ 1099511627776 < n := by
  by_cases g : 0 ≤ n ∧ n ≤ 1099511627776
  · rw [(isB_iff n).2 g] at h; cases h
  · omega
theorem isB_mk {n : Int} (h : 0 ≤ n) (g : n ≤ 1099511627776) : isB n = true := (isB_iff n).2 ⟨h, g⟩
theorem isB_no {n : Int} (h : n < 0 ∨ 1099511627776 < n) : isB n = false := by
  cases g : isB n
  · rfl
  · have := isB_true g; omega

def plusB (a b : Int) : Bool := isB a && (isB b && isB (a + b))
def plusV (a b : Int) : Int := if plusB a b = true then a + b else 0

theorem plusB_true {a b : Int} (h : plusB a b = true) : isB a = true ∧ isB b = true ∧ isB (a + b) = true := by
  simpa [plusB] using h

/-- The sum of a list on top of t, if every element and every sum on the way is a size. -/
def sumAcc (t : Int) : List Int → Option Int
  | [] => some t
  | n :: r => if plusB t n = true then sumAcc (t + n) r else none

def sumV (l : List Int) : Int := (sumAcc 0 l).getD 0
def sumB (l : List Int) : Bool := (sumAcc 0 l).isSome

theorem sumAcc_nil (t : Int) : sumAcc t [] = some t := rfl
theorem sumAcc_yes {t n : Int} (r : List Int) (h : plusB t n = true) : sumAcc t (n :: r) = sumAcc (t + n) r := by simp [sumAcc, h]
theorem sumAcc_no {t n : Int} (r : List Int) (h : plusB t n = false) : sumAcc t (n :: r) = none := by simp [sumAcc, h]

/-- Whether every element is a size. -/
def allB (l : List Int) : Bool := l.all isB

theorem sum_nonneg : ∀ {l : List Int}, allB l = true → 0 ≤ l.sum
  | [], _ => by simp
  | n :: r, h => by
    simp only [allB, List.all_cons, Bool.and_eq_true] at h
    have h1 := isB_true h.1
    have h2 : 0 ≤ r.sum := sum_nonneg (l := r) h.2
    simp only [List.sum_cons]; omega

theorem sumAcc_eq : ∀ (l : List Int) (t : Int), isB t = true → sumAcc t l = if (allB l && isB (t + l.sum)) = true then some (t + l.sum) else none
  | [], t, ht => by simp [sumAcc, allB, ht]
  | n :: r, t, ht => by
    by_cases h : plusB t n = true
    · rw [sumAcc_yes r h, sumAcc_eq r (t + n) (plusB_true h).2.2]
      have hn := (plusB_true h).2.1
      simp only [allB, List.all_cons, List.sum_cons, hn, Bool.true_and]
      rw [show t + n + r.sum = t + (n + r.sum) from by omega]
      rfl
    · have h' : plusB t n = false := by simpa using h
      rw [sumAcc_no r h']
      have ht' := isB_true ht
      rw [if_neg]
      intro hc
      simp only [allB, List.all_cons, List.sum_cons, Bool.and_eq_true] at hc
      have h1 := isB_true hc.1.1
      have h2 : 0 ≤ r.sum := sum_nonneg (l := r) hc.1.2
      have h3 := isB_true hc.2
      apply h
      simp only [plusB, ht, hc.1.1, Bool.true_and]
      exact isB_mk (by omega) (by omega)

theorem isB_zero : isB 0 = true := by decide

theorem sumB_eq (l : List Int) : sumB l = (allB l && isB l.sum) := by
  unfold sumB
  rw [sumAcc_eq l 0 isB_zero, Int.zero_add]
  split <;> simp_all
theorem sumV_eq (l : List Int) : sumV l = if sumB l = true then l.sum else 0 := by
  rw [sumB_eq]; unfold sumV
  rw [sumAcc_eq l 0 isB_zero, Int.zero_add]
  split <;> simp_all

theorem sumV_isB (l : List Int) : isB (sumV l) = true := by
  rw [sumV_eq]
  split
  · rename_i h; rw [sumB_eq] at h; simp at h; exact h.2
  · exact isB_zero

theorem allB_append (l m : List Int) : allB (l ++ m) = (allB l && allB m) := by simp [allB]
theorem allB_reverse (l : List Int) : allB l.reverse = allB l := by simp [allB]
theorem sum_append (l m : List Int) : (l ++ m).sum = l.sum + m.sum := by simp
theorem sum_reverse : ∀ l : List Int, l.reverse.sum = l.sum
  | [] => rfl
  | n :: r => by rw [List.reverse_cons, sum_append, sum_reverse r]; simp; omega

theorem sumB_reverse (l : List Int) : sumB l.reverse = sumB l := by rw [sumB_eq, sumB_eq, allB_reverse, sum_reverse]
theorem sumV_reverse (l : List Int) : sumV l.reverse = sumV l := by rw [sumV_eq, sumV_eq, sumB_reverse, sum_reverse]

theorem sumB_append (l m : List Int) : sumB (l ++ m) = (sumB l && (sumB m && plusB (sumV l) (sumV m))) := by
  by_cases ha : allB l = true
  · by_cases hm : allB m = true
    · have h1 := sum_nonneg ha
      have h2 := sum_nonneg hm
      by_cases hs : isB (l.sum + m.sum) = true
      · have h3 := isB_true hs
        have e1 : sumB l = true := by rw [sumB_eq, ha, isB_mk h1 (by omega)]; rfl
        have e2 : sumB m = true := by rw [sumB_eq, hm, isB_mk h2 (by omega)]; rfl
        rw [sumB_eq, allB_append, sum_append, ha, hm, hs, e1, e2, sumV_eq, sumV_eq, e1, e2]
        simp [plusB, hs, isB_mk h1 (by omega), isB_mk h2 (by omega)]
      · have hs' : isB (l.sum + m.sum) = false := by simpa using hs
        rw [sumB_eq, allB_append, sum_append, ha, hm, hs', sumV_eq, sumV_eq]
        by_cases e1 : sumB l = true
        · by_cases e2 : sumB m = true
          · simp [e1, e2, plusB, hs']
          · simp [e2]
        · simp [e1]
    · have : sumB m = false := by rw [sumB_eq]; simp [hm]
      rw [sumB_eq, allB_append, this]; simp [hm]
  · have : sumB l = false := by rw [sumB_eq]; simp [ha]
    rw [sumB_eq, allB_append, this]; simp [ha]

theorem sumV_append (l m : List Int) (h : sumB (l ++ m) = true) : sumV (l ++ m) = plusV (sumV l) (sumV m) := by
  have h' := h
  rw [sumB_append] at h'
  simp only [Bool.and_eq_true] at h'
  rw [sumV_eq, h, plusV, h'.2.2, sumV_eq l, sumV_eq m, h'.1, h'.2.1]
  simp

/-- The reference's own test: an element is a size and fits into what is left. -/
theorem plusB_ref {t n : Int} (ht : isB t = true) : plusB t n = (isB n && decide (n ≤ 1099511627776 - t)) := by
  have h := isB_true ht
  unfold plusB
  rw [ht, Bool.true_and]
  cases hn : isB n
  · rfl
  · have g := isB_true hn
    simp only [Bool.true_and]
    by_cases hc : n ≤ 1099511627776 - t
    · rw [isB_mk (by omega) (by omega)]; simp [hc]
    · rw [isB_no (by omega)]; simp [hc]

end Go.Proofs.YtaklilhnikmmfaaGreat.NumM

/-
  The walks of num.Is, num.Plus, num.Clamp and of the reference's Size.
-/
namespace Go.Proofs.YtaklilhnikmmfaaGreat
open Go.RowKit NumM

set_option maxHeartbeats 400000 in
theorem is_yes (n : Int) (w : World) (h0 : 0 ≤ n) (h1 : n ≤ 1099511627776) :
    Calls Tryz.prog 28 #[.int .i64 n] w fun e w' => e = .returned (.bool true) ∧ w = w' := by
  go_enter Tryz.func28, Tryz.ntmps28
  go_wp2
  go_ret
  exact ⟨rfl, rfl⟩

set_option maxHeartbeats 400000 in
theorem is_no (n : Int) (w : World) (h : n < 0 ∨ 1099511627776 < n) :
    Calls Tryz.prog 28 #[.int .i64 n] w fun e w' => e = .returned (.bool false) ∧ w = w' := by
  rcases h with h | h
  · go_enter Tryz.func28, Tryz.ntmps28
    go_wp2
    go_ret
    exact ⟨rfl, rfl⟩
  · have h0 : 0 ≤ n := by omega
    have h1 : decide (n ≤ 1099511627776) = false := by simp; omega
    go_enter Tryz.func28, Tryz.ntmps28
    go_wp2
    go_ret
    exact ⟨rfl, rfl⟩

theorem is_any (n : Int) (w : World) :
    Calls Tryz.prog 28 #[.int .i64 n] w fun e w' => e = .returned (.bool (isB n)) ∧ w = w' := by
  cases h : isB n
  · exact is_no n w (isB_false h)
  · exact is_yes n w (isB_true h).1 (isB_true h).2

set_option maxHeartbeats 400000 in
theorem size_yes (n : Int) (w : World) (h0 : 0 ≤ n) (h1 : n ≤ 1099511627776) :
    Calls Tryz.prog 9 #[.int .i64 n] w fun e w' => e = .returned (.bool true) ∧ w = w' := by
  go_enter Tryz.func9, Tryz.ntmps9
  go_wp2
  go_ret
  exact ⟨rfl, rfl⟩

set_option maxHeartbeats 400000 in
theorem size_no (n : Int) (w : World) (h : n < 0 ∨ 1099511627776 < n) :
    Calls Tryz.prog 9 #[.int .i64 n] w fun e w' => e = .returned (.bool false) ∧ w = w' := by
  rcases h with h | h
  · go_enter Tryz.func9, Tryz.ntmps9
    go_wp2
    go_ret
    exact ⟨rfl, rfl⟩
  · have h0 : 0 ≤ n := by omega
    have h1 : decide (n ≤ 1099511627776) = false := by simp; omega
    go_enter Tryz.func9, Tryz.ntmps9
    go_wp2
    go_ret
    exact ⟨rfl, rfl⟩

theorem size_any (n : Int) (w : World) :
    Calls Tryz.prog 9 #[.int .i64 n] w fun e w' => e = .returned (.bool (isB n)) ∧ w = w' := by
  cases h : isB n
  · exact size_no n w (isB_false h)
  · exact size_yes n w (isB_true h).1 (isB_true h).2

def clampV (n lo hi : Int) : Int := if n < lo then lo else if hi < n then hi else n

end Go.Proofs.YtaklilhnikmmfaaGreat
