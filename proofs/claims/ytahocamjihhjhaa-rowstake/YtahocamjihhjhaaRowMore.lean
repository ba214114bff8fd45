/-
  More on rows of one-cell elements: two appended at once, a row made with room, a slice of bytes that came in, string(b) of a slice that is read.
-/
import Derived.Test.YtahocamjihhjhaaStrSplit
import Derived.Laws.MakeOwn
namespace Go.Proofs.Ytahocamjihhjhaa
open Go.RowKit StrM

/-- append of two elements, which the walk lays in a block of their own, to a row of the call's own. -/
theorem append_two {P : Program} {t e : TypeId} {z : Value} {bytes : Nat} (H : OneCell P t e z bytes) {w : World} {ops : Array Oper} {rest : List Oper} {o : Oper} {a : Act} {Q : Exit → Act → World → Prop} (hgd : o.guard = none) (s x : Operand)
    (ho : o.op = .call { callee := .builtin .append, args := #[s, x], argTypes := #[t, t] })
    (base : Nat) (v : Value) (n : Nat) (xs : List Value) (hs : a.eval s = v) (hown : w.ownsRow base e 1 v n xs)
    (u u2 : Value) (hu : u.oneCell' = true) (hu2 : u2.oneCell' = true) (hx : a.eval x = .slice (some ⟨w.heap.size, 0, none⟩) 2 2)
    (hbound : (n + 2) * bytes ≤ 140737488355328) (hn : n + 2 ≤ maxLen) (hbase : base ≤ w.heap.size)
    (h : ∀ v' w', w'.ownsRow base e 1 v' (n + 2) (xs ++ [u, u2]) → Below base w w' → wpList P ops Q rest (a.put o.dst v') w') : wpList P ops Q (o :: rest) a (w.alloc (.cells #[u, u2] e)) := by
  obtain ⟨i0, hi, hz0, hz1, hz2⟩ := info_parts H.info
  refine wpList_append_own (w.alloc (.cells #[u, u2] e)) hgd s x t ho base e i0 z 1 bytes H.under hi hz0 hz1 hz2 H.cells (by decide) v n xs hs (hown.alloc _) ⟨w.heap.size, 0, none⟩ 2 2 [u, u2] hx rfl (fun j c hj => ?_) (fun c hc => ?_) hn hbound (by simp; omega) ?_
  · match j, hj with
    | 0, hj => simp at hj; subst hj; simp [Addr.add]
    | 1, hj => simp at hj; subst hj; simp [Addr.add]
  · have : c = u ∨ c = u2 := by simpa using hc
    rcases this with rfl | rfl
    · exact hu
    · exact hu2
  · intro v' w' h1 h2 _
    exact h v' w' h1 (((Below.refl _ _).alloc hbase _).grown h2 (by simp; omega) fun k hk => (hown.lt k hk).1)

/-- The same, as one step of a region that draws its order. -/
theorem step_append_two {P : Program} {t e : TypeId} {z : Value} {bytes : Nat} (H : OneCell P t e z bytes) {w : World} {ops : Array Oper} {o : Oper} {a : Act} {K : Act → World → Prop} {Q : Exit → Act → World → Prop} {E : Prop} (hgd : o.guard = none) (s x : Operand)
    (ho : o.op = .call { callee := .builtin .append, args := #[s, x], argTypes := #[t, t] })
    (base : Nat) (v : Value) (n : Nat) (xs : List Value) (hs : a.eval s = v) (hown : w.ownsRow base e 1 v n xs)
    (u u2 : Value) (hu : u.oneCell' = true) (hu2 : u2.oneCell' = true) (hx : a.eval x = .slice (some ⟨w.heap.size, 0, none⟩) 2 2)
    (hbound : (n + 2) * bytes ≤ 140737488355328) (hn : n + 2 ≤ maxLen) (hbase : base ≤ w.heap.size)
    (h : ∀ v' w', w'.ownsRow base e 1 v' (n + 2) (xs ++ [u, u2]) → Below base w w' → K (a.put o.dst v') w') :
    if Region.wanted o (yielded ops a.tmps) = true then Oper.wp P o a (w.alloc (.cells #[u, u2] e)) K Q else E := by
  obtain ⟨i0, hi, hz0, hz1, hz2⟩ := info_parts H.info
  have hw : Region.wanted o (yielded ops a.tmps) = true := by simp [Region.wanted, hgd]
  rw [if_pos hw]
  refine wp_append_own (w.alloc (.cells #[u, u2] e)) s x t ho base e i0 z 1 bytes H.under hi hz0 hz1 hz2 H.cells (by decide) v n xs hs (hown.alloc _) ⟨w.heap.size, 0, none⟩ 2 2 [u, u2] hx rfl (fun j c hj => ?_) (fun c hc => ?_) hn hbound (by simp; omega) ?_
  · match j, hj with
    | 0, hj => simp at hj; subst hj; simp [Addr.add]
    | 1, hj => simp at hj; subst hj; simp [Addr.add]
  · have : c = u ∨ c = u2 := by simpa using hc
    rcases this with rfl | rfl
    · exact hu
    · exact hu2
  · intro v' w' h1 h2 _
    exact h v' w' h1 (((Below.refl _ _).alloc hbase _).grown h2 (by simp; omega) fun k hk => (hown.lt k hk).1)

/-- make([]T, 0, c). -/
theorem made_own {P : Program} {t e : TypeId} {z : Value} {bytes : Nat} (H : OneCell P t e z bytes) (w : World) (c : Nat) (hb : bytes * c ≤ 281474976710656) (hc : c ≤ maxLen) :
    ∃ w', (Instr.makeSlice t (.int .i64 0) (.int .i64 (c : Int))).run P w = .ok (.slice (some ⟨w.heap.size, 0, none⟩) 0 c) w' ∧ w'.ownsRow w.heap.size e 1 (.slice (some ⟨w.heap.size, 0, none⟩) 0 c) 0 [] ∧ Below w.heap.size w w' := by
  obtain ⟨i0, hi, hz0, hz1, hz2⟩ := info_parts H.info
  obtain ⟨w', h1, h2, h3⟩ := run_make_own w w.heap.size t e i0 z 1 H.under hi hz0 hz1 .i64 .i64 c (by rw [hz2]; exact hb) hc (Nat.le_refl _)
  exact ⟨w', h1, h2, (Below.refl _ _).grown h3 (Nat.le_refl _) (fun k hk => by cases hk)⟩

/-- A slice of bytes that came in, read as a list. -/
theorem SeesV.of_bytes {w : World} {a : Option Addr} {len cap : Nat} {zs : List Int}
    (h : (a = none ∧ len = 0 ∧ cap = 0 ∧ zs = []) ∨ ∃ x, a = some x ∧ len ≤ cap ∧ cap ≤ maxLen ∧ zs.length = cap ∧ (∀ i, i < zs.length → w.cell? (x.add i) = some (.int .u8 (zs.getD i 0))) ∧ ∀ n ∈ zs, (Lit.int .u8 n).wf = true) :
    ∃ l : List UInt8, l.length = len ∧ SeesV w (.slice a len cap) (bys l) := by
  rcases h with ⟨rfl, rfl, rfl, rfl⟩ | ⟨x, rfl, hl, hm, hz, hcell, hwf⟩
  · exact ⟨[], rfl, none, 0, rfl, .inl rfl⟩
  · have hb : ∀ n ∈ zs, (((UInt8.ofNat n.toNat).toNat : Nat) : Int) = n := by
      intro n hn
      have h := hwf n hn
      have hb : 0 ≤ n ∧ n ≤ 255 := by
        simp [Lit.wf, IntKind.min, IntKind.max, IntKind.signed, IntKind.bits] at h
        omega
      rw [UInt8.toNat_ofNat']; omega
    refine ⟨(zs.take len).map fun n => UInt8.ofNat n.toNat, by simp; omega, some x, cap, by simp [bys]; omega, ?_⟩
    by_cases h0 : len = 0
    · left; simp [h0, bys]
    · right
      obtain ⟨b, off, spot⟩ := x
      have hc := hcell 0 (by omega)
      have hspot : spot = none := by simpa [Addr.add] using World.cell?_spot hc
      subst hspot
      have hlt : b < w.heap.size := by
        simp only [World.cell?, Addr.add] at hc
        by_cases g : b < w.heap.size
        · exact g
        · simp [g] at hc
      refine ⟨b, off, rfl, hlt, fun k hk => ?_⟩
      have hk' : k < len := by simp [bys] at hk; omega
      have := hcell k (by omega)
      have e : (bys ((zs.take len).map fun n => UInt8.ofNat n.toNat))[k] = .int .u8 (zs.getD k 0) := by
        have hkz : k < zs.length := by omega
        simp only [bys, List.getElem_map, List.getElem_take]
        rw [hb _ (List.getElem_mem hkz)]
        simp [List.getD, hkz]
      rw [e]
      by_cases hk0 : k = 0
      · subst hk0; simpa [Addr.add] using this
      · simpa [Addr.add, hk0] using this

theorem SeesV.cell {w : World} {a : Option Addr} {n cap : Nat} {l : List UInt8} (h : SeesV w (.slice a n cap) (bys l)) {k : Nat} (hk : k < l.length) :
    ∃ g off, a = some ⟨g, off, none⟩ ∧ g < w.heap.size ∧ w.cell? ⟨g, off + k, none⟩ = some (.int .u8 (l[k].toNat : Int)) := by
  obtain ⟨a', cap', e, h⟩ := h
  injection e with e1 e2 e3
  subst e1
  rcases h with h0 | ⟨g, off, rfl, hg, hc⟩
  · have := congrArg List.length h0
    rw [bys_len, List.length_nil] at this; omega
  · refine ⟨g, off, rfl, hg, ?_⟩
    rw [hc k (by rw [bys_len]; exact hk)]; simp [bys]

end Go.Proofs.Ytahocamjihhjhaa
