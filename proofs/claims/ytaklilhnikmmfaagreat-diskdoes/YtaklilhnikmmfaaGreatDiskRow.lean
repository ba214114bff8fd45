/-
  Worlds in which one block, and maps, may have turned; a map of files; the block of a disk.
-/
import Derived.Test.YtaklilhnikmmfaaGreatDiskKeys
import Derived.Test.YtaklilhnikmmfaaGreatDiskMath
import Derived.Test.YtaklilhnikmmfaaGreatJFileB
import Derived.Test.YtaklilhnikmmfaaGreatJDirC
import Derived.Maps.OwnOps
import Derived.Maps.OwnSet
namespace Go.Proofs.YtaklilhnikmmfaaGreat
open Go.RowKit StrM BlockM FileM DirM DiskM Go.Maps

/-! ### What may turn -/
/-- Below N nothing has turned; else block p may have turned, and (where mp says so) maps. -/
structure Veer (mp : Bool) (N p : Nat) (w w' : World) : Prop where
  below : Below N w w'
  keep : ∀ b o, w.heap[b]? = some o → b ≠ p → (mp = true → ∀ es c, o ≠ .map es c) → w'.heap[b]? = some o
theorem Veer.refl (mp : Bool) (N p : Nat) (w : World) : Veer mp N p w w := ⟨Below.refl _ _, fun _ _ h _ _ => h⟩
theorem Veer.trans {mp : Bool} {N p : Nat} {a b c : World} (h : Veer mp N p a b) (k : Veer mp N p b c) : Veer mp N p a c :=
  ⟨h.below.trans k.below, fun q o hq hp hm => k.keep q o (h.keep q o hq hp hm) hp hm⟩
theorem Veer.of_below {mp : Bool} {N p : Nat} {w w' : World} (hb : Below w.heap.size w w') (hN : N ≤ w.heap.size) : Veer mp N p w w' :=
  ⟨hb.mono hN, fun q o hq _ _ => by rw [hb.block q (Array.getElem?_eq_some_iff.1 hq).1]; exact hq⟩
theorem Veer.more {mp : Bool} {N p : Nat} {w w1 w2 : World} (h : Veer mp N p w w1) (hb : Below w1.heap.size w1 w2) (hN : N ≤ w1.heap.size) : Veer mp N p w w2 := h.trans (Veer.of_below hb hN)
theorem Veer.set {mp : Bool} {N p : Nat} {w w1 : World} (h : Veer mp N p w w1) (hN : N ≤ p) (i : Nat) (v : Value) : Veer mp N p w (w1.setCell ⟨p, i, none⟩ v) :=
  ⟨h.below.setCell hN _, fun q o hq hp hm => by
    have := h.keep q o hq hp hm
    rw [Below.heap_setCell w1 ⟨p, i, none⟩ v q hp]; exact this⟩
theorem Veer.grown {N p m : Nat} {w w1 w2 : World} (h : Veer true N p w w1) (hg : w1.grownBy w2 (some m)) (hN : N ≤ m) (hN1 : N ≤ w1.heap.size) (hm : ∃ es c, w1.heap[m]? = some (.map es c)) : Veer true N p w w2 :=
  ⟨h.below.grown hg hN1 (fun k hk => by cases hk; exact hN), fun q o hq hp hx => by
    have h1 := h.keep q o hq hp hx
    rw [hg.block q (Array.getElem?_eq_some_iff.1 h1).1 ?_]
    · exact h1
    · intro e
      cases e
      obtain ⟨es, c, hm⟩ := hm
      rw [hm] at h1
      exact hx rfl es c (Option.some.inj h1).symm⟩
theorem Veer.mono {mp : Bool} {N N' p : Nat} {w w' : World} (h : Veer mp N p w w') (hN : N' ≤ N) : Veer mp N' p w w' := ⟨h.below.mono hN, h.keep⟩
theorem Veer.drew {mp : Bool} {N p : Nat} {w w' : World} (h : Veer mp N p w w') : Veer mp N p w w'.drew := ⟨⟨h.below.os, h.below.tape, h.below.output, h.below.size, h.below.block⟩, h.keep⟩
theorem Veer.weak {mp : Bool} {N p : Nat} {w w' : World} (h : Veer false N p w w') : Veer mp N p w w' := ⟨h.below, fun q o hq hp _ => h.keep q o hq hp (by simp)⟩
theorem Veer.size {mp : Bool} {N p : Nat} {w w' : World} (h : Veer mp N p w w') : w.heap.size ≤ w'.heap.size := h.below.size
theorem Veer.cell {mp : Bool} {N p g i : Nat} {w w' : World} {c : Value} (h : Veer mp N p w w') (hc : w.cell? ⟨g, i, none⟩ = some c) (hg : g ≠ p) : w'.cell? ⟨g, i, none⟩ = some c := by
  have hx := hc
  unfold World.cell? at hx
  cases hb : w.heap[g]? with
  | none => simp [hb] at hx
  | some o =>
    have : ∀ es c, o ≠ .map es c := by
      rintro es c rfl
      simp [hb] at hx
    exact (World.cell?_of_block (a := ⟨g, i, none⟩) ((h.keep g o hb hg fun _ => this).trans hb.symm)).trans hc

/-- Block p holds no string and no byte, and no piece with bytes. -/
structure Shell (w : World) (p : Nat) : Prop where
  str : ∀ i s, w.cell? ⟨p, i, none⟩ ≠ some (.string s)
  byte : ∀ i n, w.cell? ⟨p, i, none⟩ ≠ some (.int .u8 n)
  piece : ∀ i n B l, w.cell? ⟨p, i, none⟩ = some (.int .i64 n) → w.cell? ⟨p, i + 1, none⟩ = some B → SeesV w B (bys l) → l = []

theorem SeesN.veer {mp : Bool} {N p n : Nat} {w w' : World} {v : Value} {xs : List Value} (h : SeesN w v n xs) (ht : Veer mp N p w w') (hx : xs = [] ∨ ∃ (j : Nat) (c : Value), xs[j]? = some c ∧ ∀ i, w.cell? ⟨p, i, none⟩ ≠ some c) : SeesN w' v n xs := by
  obtain ⟨a, cap, rfl, hn, h0 | ⟨g, off, rfl, hg, hc⟩⟩ := h
  · exact ⟨a, cap, rfl, hn, .inl h0⟩
  · rcases hx with hx | ⟨j, c, hj, hi⟩
    · exact ⟨_, cap, rfl, hn, .inl hx⟩
    · have hne : g ≠ p := by
        rintro rfl
        exact hi _ (hc j c hj)
      exact ⟨_, cap, rfl, hn, .inr ⟨g, off, rfl, Nat.lt_of_lt_of_le hg ht.size, fun k c hk => ht.cell (hc k c hk) hne⟩⟩
theorem SeesE.veer {mp : Bool} {N p : Nat} {w w' : World} {v : Value} {l : List E} (h : SeesE w v l) (ht : Veer mp N p w w') (hs : Shell w p) : SeesE w' v l := by
  refine SeesN.veer h ht ?_
  cases l with
  | nil => exact .inl rfl
  | cons x r => exact .inr ⟨0, .string x.name, rfl, fun i => hs.str i _⟩
theorem SeesO.veer {mp : Bool} {N p : Nat} {w w' : World} {v : Value} {l : List O} (h : SeesO w v l) (ht : Veer mp N p w w') (hs : Shell w p) : SeesO w' v l := by
  refine SeesN.veer h ht ?_
  cases l with
  | nil => exact .inl rfl
  | cons x r => exact .inr ⟨1, .string x.name, rfl, fun i => hs.str i _⟩
theorem SeesD.veer {mp : Bool} {N p : Nat} {w w' : World} {v : Value} {d : DirM.D} (h : SeesD w v d) (ht : Veer mp N p w w') (hs : Shell w p) : SeesD w' v d := by
  obtain ⟨A, B, C, e, h1, h2, h3⟩ := h
  exact ⟨A, B, C, e, h1.veer ht hs, h2.veer ht hs, h3.veer ht hs⟩
theorem SeesV.veer {mp : Bool} {N p : Nat} {w w' : World} {v : Value} {l : List UInt8} (h : SeesV w v (bys l)) (ht : Veer mp N p w w') (hs : Shell w p) : SeesV w' v (bys l) := by
  obtain ⟨a, cap, rfl, h0 | ⟨g, off, rfl, hg, hc⟩⟩ := h
  · exact ⟨a, cap, rfl, .inl h0⟩
  · cases l with
    | nil => exact ⟨_, cap, rfl, .inl rfl⟩
    | cons x r =>
      have hne : g ≠ p := by
        rintro rfl
        exact hs.byte _ _ (hc 0 (by simp [bys]))
      exact ⟨_, cap, rfl, .inr ⟨g, off, rfl, Nat.lt_of_lt_of_le hg ht.size, fun k hk => ht.cell (hc k hk) hne⟩⟩
theorem SeesP.veer {mp : Bool} {N p : Nat} {w w' : World} {v : Value} {l : List P} (h : SeesP w v l) (hl : ∀ x ∈ l, x.b ≠ []) (ht : Veer mp N p w w') (hs : Shell w p) : SeesP w' v l := by
  obtain ⟨a, cap, rfl, h0 | ⟨g, off, rfl, hg, hc⟩⟩ := h
  · exact ⟨a, cap, rfl, .inl h0⟩
  · cases l with
    | nil => exact ⟨_, cap, rfl, .inl rfl⟩
    | cons x r =>
      have hne : g ≠ p := by
        rintro rfl
        obtain ⟨h1, B, h2, h3⟩ := hc 0 (by simp)
        exact hl x (by simp) (hs.piece _ _ B _ h1 h2 h3)
      refine ⟨_, cap, rfl, .inr ⟨g, off, rfl, Nat.lt_of_lt_of_le hg ht.size, fun k hk => ?_⟩⟩
      obtain ⟨h1, B, h2, h3⟩ := hc k hk
      exact ⟨ht.cell h1 hne, B, ht.cell h2 hne, h3.veer ht hs⟩
theorem SeesF.veer {mp : Bool} {N p : Nat} {w w' : World} {v : Value} {f : Fl} (h : SeesF w v f) (hv : FileM.valid f = true) (ht : Veer mp N p w w') (hs : Shell w p) : SeesF w' v f := by
  obtain ⟨A, B, C, e, h1, h2, h3⟩ := h
  refine ⟨A, B, C, e, h1.veer ht hs, h2.veer ht hs, h3.veer (fun x hx => ?_) ht hs⟩
  have := List.all_eq_true.1 ((FileM.valid_iff f).1 hv).2.1 x hx
  obtain ⟨n, _, _, h2, _⟩ := ok_facts this
  intro e
  rw [e] at h2
  simp at h2

/-! ### A map of files -/
def RV : Value → Option (DataW Value × List MemPlace) := fun v => some (.held v, [])
def zF : Value := .agg #[.slice none 0 0, .slice none 0 0, .slice none 0 0]
/-- Block m is a map with the values g. -/
def MapAt (w : World) (m k : Nat) (g : Int → Option Value) : Prop :=
  ∃ D0 : DataW Value, w.ownsMap Tryz.prog 3 RV m k D0 ∧ IsMap D0 ∧ ∀ n z, D0.atKey (.int .i64 n) z = match g n with | some v => .held v | none => z
def upd (g : Int → Option Value) (n : Int) (v : Value) : Int → Option Value := fun k => if k = n then some v else g k

theorem MapAt.made (w : World) : MapAt (w.alloc (.map #[] 0)) w.heap.size 0 fun _ => none := ⟨.map [], World.ownsMap_made w _ _ _, isMap_empty, fun _ _ => rfl⟩
theorem MapAt.block {w w' : World} {m k : Nat} {g : Int → Option Value} (h : MapAt w m k g) (hb : w'.heap[m]? = w.heap[m]?) : MapAt w' m k g := by
  obtain ⟨D0, ⟨es, c, h1, h2⟩, h3⟩ := h
  exact ⟨D0, ⟨es, c, hb.trans h1, h2⟩, h3⟩
theorem MapAt.map {w : World} {m k : Nat} {g : Int → Option Value} (h : MapAt w m k g) : ∃ es c, w.heap[m]? = some (.map es c) := by
  obtain ⟨D0, ⟨es, c, h1, _⟩, _⟩ := h
  exact ⟨es, c, h1⟩
theorem MapAt.lt {w : World} {m k : Nat} {g : Int → Option Value} (h : MapAt w m k g) : m < w.heap.size := by
  obtain ⟨es, c, h1⟩ := h.map
  exact (Array.getElem?_eq_some_iff.1 h1).1
theorem MapAt.later {w w' : World} {m k : Nat} {g : Int → Option Value} (h : MapAt w m k g) (hb : Below w.heap.size w w') : MapAt w' m k g := h.block (hb.block m h.lt)
theorem MapAt.veer {N p m k : Nat} {w w' : World} {g : Int → Option Value} (h : MapAt w m k g) (ht : Veer false N p w w') (hne : m ≠ p) : MapAt w' m k g := by
  obtain ⟨es, c, h1⟩ := h.map
  exact h.block ((ht.keep m _ h1 hne (by simp)).trans h1.symm)
theorem MapAt.set {w : World} {m k q i : Nat} {v : Value} {g : Int → Option Value} (h : MapAt w m k g) (hne : m ≠ q) : MapAt (w.setCell ⟨q, i, none⟩ v) m k g := h.block (Below.heap_setCell w ⟨q, i, none⟩ v m hne)
theorem MapAt.mono {w : World} {m k k' : Nat} {g : Int → Option Value} (h : MapAt w m k g) (hk : k ≤ k') : MapAt w m k' g := by
  obtain ⟨D0, h1, h2⟩ := h
  exact ⟨D0, h1.mono hk, h2⟩

theorem intKey : Keyed Tryz.prog 3 := int_keyed Tryz.underlying3
theorem wf_i64 {n : Int} (h1 : -9223372036854775808 ≤ n) (h2 : n ≤ 9223372036854775807) : (Lit.int .i64 n).wf = true := by
  simp [Lit.wf, IntKind.min, IntKind.max, IntKind.signed, IntKind.bits]; omega
theorem zeroFile (w : World) : (zeroValue 70).run Tryz.prog w = .ok zF w := by kernel_rfl

theorem MapAt.look {w : World} {m k : Nat} {g : Int → Option Value} (h : MapAt w m k g) (n : Int) (h1 : -9223372036854775808 ≤ n) (h2 : n ≤ 9223372036854775807) (W : World) (hW : W.heap[m]? = w.heap[m]?) :
    (Instr.lookup 57 (.map (some m)) (.int .i64 n) false).run Tryz.prog W = .ok ((g n).getD zF) W := by
  obtain ⟨D0, h3, _, h5⟩ := h.block hW
  obtain ⟨v, ps, hr, hv⟩ := h3.lookup intKey Tryz.underlying57 (zeroFile W) (zd := .held zF) (zp := []) rfl (keyOf_int_mk Tryz.underlying3 (wf_i64 h1 h2))
  rw [hr]
  rw [h5 n] at hv
  cases hg : g n with
  | none => rw [hg] at hv; simp [RV] at hv; simp [hv.1]
  | some u => rw [hg] at hv; simp [RV] at hv; simp [hv.1]

theorem MapAt.store {w : World} {m k : Nat} {g : Int → Option Value} (h : MapAt w m k g) (n : Int) (v : Value) (h1 : -9223372036854775808 ≤ n) (h2 : n ≤ 9223372036854775807) (hk : k ≤ 1000000) :
    ∃ w', (Instr.mapUpdate 57 (.map (some m)) (.int .i64 n) v).run Tryz.prog w = .ok () w' ∧ MapAt w' m (k + 1) (upd g n v) ∧ w.grownBy w' (some m) := by
  obtain ⟨D0, h3, h4, h5⟩ := h
  obtain ⟨w', hr, ho, hg⟩ := h3.update intKey Tryz.underlying57 (by unfold maxLen; omega) (keyOf_int_mk Tryz.underlying3 (wf_i64 h1 h2)) (val := v) (d := .held v) (ps := []) rfl
  refine ⟨w', hr, ⟨_, ho, h4.put _ _, fun j z => ?_⟩, hg⟩
  unfold upd
  by_cases e : j = n
  · subst e
    rw [if_pos rfl]
    exact atKey_put_same h4 (intKey.key (keyOf_int_mk Tryz.underlying3 (wf_i64 h1 h2))) _ _
  · rw [if_neg e, atKey_put_other (fun x => e (by injection x)), h5]

/-- The keys, in whatever order they come, are the ones that the map has. -/
theorem MapAt.keys {w : World} {m k : Nat} {g : Int → Option Value} (h : MapAt w m k g) (L : List Int) (hnd : L.Nodup) (hs : L.Pairwise fun x y => leI x y = true) (hm : ∀ n, n ∈ L ↔ (g n).isSome = true) :
    ∃ D0 : DataW Value, w.ownsMap Tryz.prog 3 RV m k D0 ∧ Maps.size D0 ≤ k ∧ ∀ ss : List Int, ss.Perm (intKeys D0) → ss.mergeSort leI = L := by
  obtain ⟨D0, h3, _, h5⟩ := h
  have hsz : Maps.size D0 ≤ k := by
    obtain ⟨es, clock, _, _, hs, hD⟩ := h3
    rw [hD]
    show ((es.toList.map _).foldr DataW.insert []).length ≤ k
    rw [length_sorted]; simpa using hs
  refine ⟨D0, h3, hsz, fun ss hp => ?_⟩
  have hL : L.Perm (intKeys D0) := by
    obtain ⟨es, hD, hpw, _⟩ := h3.entries intKey
    obtain ⟨es', hD', hko⟩ := h3.keysOf
    obtain rfl : es = es' := by rw [hD] at hD'; simpa using hD'
    subst hD
    refine perm_intKeys hpw (fun p hp => by obtain ⟨v, hv⟩ := hko p hp; obtain ⟨x, _, hx, _⟩ := Maps.keyOf_i64 Tryz.underlying3 hv; exact ⟨x, hx⟩) hnd fun x => ?_
    rw [hm x]
    cases hg : g x with
    | none => rw [has_false_of_atKey fun z => by rw [h5, hg]]; simp
    | some u => rw [has_true_of_atKey fun z => by rw [h5, hg]]; simp
  rw [mergeSort_of_perm_i (hp.trans hL.symm)]
  exact List.mergeSort_of_pairwise hs

/-! ### The block of a disk -/
structure Raw where
  room : Int
  N : Value
  S : Value
  V : Value
  m : Nat
  last : Int
  ops : Int
  trip : Int
  stop : Int
  down : Bool
def KBox (w : World) (p : Nat) (r : Raw) : Prop := w.heap[p]? = some (.cells #[.int .i64 r.room, r.N, r.S, r.V, .map (some r.m), .int .i64 r.last, .int .i64 r.ops, .int .i64 r.trip, .int .i64 r.stop, .bool r.down] 59 (0, 0))
theorem KBox.lt {w : World} {p : Nat} {r : Raw} (h : KBox w p r) : p < w.heap.size := (Array.getElem?_eq_some_iff.1 h).1
theorem KBox.later {w w' : World} {p : Nat} {r : Raw} (h : KBox w p r) (hb : Below w.heap.size w w') : KBox w' p r := by
  have := hb.block p h.lt
  unfold KBox at h ⊢
  rw [this]; exact h
theorem KBox.drew {w : World} {p : Nat} {r : Raw} (h : KBox w p r) : KBox w.drew p r := h
theorem KBox.block {w w' : World} {p : Nat} {r : Raw} (h : KBox w p r) (hb : w'.heap[p]? = w.heap[p]?) : KBox w' p r := by
  unfold KBox at h ⊢
  rw [hb]; exact h
theorem KBox.cells {w : World} {p : Nat} {r : Raw} (h : KBox w p r) :
    w.cell? ⟨p, 0, none⟩ = some (.int .i64 r.room) ∧ w.cell? ⟨p, 1, none⟩ = some r.N ∧ w.cell? ⟨p, 2, none⟩ = some r.S ∧ w.cell? ⟨p, 3, none⟩ = some r.V ∧ w.cell? ⟨p, 4, none⟩ = some (.map (some r.m)) ∧
    w.cell? ⟨p, 5, none⟩ = some (.int .i64 r.last) ∧ w.cell? ⟨p, 6, none⟩ = some (.int .i64 r.ops) ∧ w.cell? ⟨p, 7, none⟩ = some (.int .i64 r.trip) ∧ w.cell? ⟨p, 8, none⟩ = some (.int .i64 r.stop) ∧ w.cell? ⟨p, 9, none⟩ = some (.bool r.down) := by
  unfold KBox at h
  refine ⟨?_, ?_, ?_, ?_, ?_, ?_, ?_, ?_, ?_, ?_⟩ <;> (rw [cell_of_row w p _ _ _ (0, 0) h]; rfl)
theorem KBox.soft {w : World} {p : Nat} {r : Raw} (h : KBox w p r) (i : Nat) : w.frozen? ⟨p, i, none⟩ = false := by
  unfold KBox at h
  simp [World.frozen?, h]
theorem KBox.setN {w : World} {p : Nat} {r : Raw} (h : KBox w p r) (A B C : Value) : KBox (((w.setCell ⟨p, 1, none⟩ A).setCell ⟨p, 2, none⟩ B).setCell ⟨p, 3, none⟩ C) p { r with N := A, S := B, V := C } := by
  have h1 := heap_setCell_same w p 1 _ _ A h
  have h2 := heap_setCell_same _ p 2 _ _ B h1
  exact heap_setCell_same _ p 3 _ _ C h2
theorem KBox.setM {w : World} {p : Nat} {r : Raw} (h : KBox w p r) (m : Nat) : KBox (w.setCell ⟨p, 4, none⟩ (.map (some m))) p { r with m := m } := heap_setCell_same w p 4 _ _ _ h
theorem KBox.setLast {w : World} {p : Nat} {r : Raw} (h : KBox w p r) (n : Int) : KBox (w.setCell ⟨p, 5, none⟩ (.int .i64 n)) p { r with last := n } := heap_setCell_same w p 5 _ _ _ h
theorem KBox.setOps {w : World} {p : Nat} {r : Raw} (h : KBox w p r) (n : Int) : KBox (w.setCell ⟨p, 6, none⟩ (.int .i64 n)) p { r with ops := n } := heap_setCell_same w p 6 _ _ _ h
theorem KBox.setTrip {w : World} {p : Nat} {r : Raw} (h : KBox w p r) (n : Int) : KBox (w.setCell ⟨p, 7, none⟩ (.int .i64 n)) p { r with trip := n } := heap_setCell_same w p 7 _ _ _ h
theorem KBox.setStop {w : World} {p : Nat} {r : Raw} (h : KBox w p r) (n : Int) : KBox (w.setCell ⟨p, 8, none⟩ (.int .i64 n)) p { r with stop := n } := heap_setCell_same w p 8 _ _ _ h
theorem KBox.setDown {w : World} {p : Nat} {r : Raw} (h : KBox w p r) (b : Bool) : KBox (w.setCell ⟨p, 9, none⟩ (.bool b)) p { r with down := b } := heap_setCell_same w p 9 _ _ _ h

theorem KBox.shell {w : World} {p : Nat} {r : Raw} (h : KBox w p r) {d : DirM.D} (hd : SeesD w (.agg #[r.N, r.S, r.V]) d) : Shell w p := by
  obtain ⟨A0, c0, A1, c1, A2, c2, e, h0, h1, h2⟩ := hd.slices
  injection e with e
  injection e with e
  injection e with e0 e
  injection e with e1 e
  injection e with e2 e
  have hc : ∀ i c, w.cell? ⟨p, i, none⟩ = some c → #[Value.int .i64 r.room, r.N, r.S, r.V, .map (some r.m), .int .i64 r.last, .int .i64 r.ops, .int .i64 r.trip, .int .i64 r.stop, .bool r.down][i]? = some c := by
    intro i c hc
    unfold KBox at h
    rwa [cell_of_row w p _ _ _ (0, 0) h] at hc
  rw [e0, e1, e2] at hc
  refine ⟨fun i s hx => ?_, fun i n hx => ?_, fun i n B l hx hB hl => ?_⟩
  · have := hc i _ hx
    match i, this with
    | 0, h | 1, h | 2, h | 3, h | 4, h | 5, h | 6, h | 7, h | 8, h | 9, h => simp at h
    | i + 10, h => simp at h
  · have := hc i _ hx
    match i, this with
    | 0, h | 1, h | 2, h | 3, h | 4, h | 5, h | 6, h | 7, h | 8, h | 9, h => simp at h
    | i + 10, h => simp at h
  · have h1 := hc i _ hx
    have h2 := hc (i + 1) _ hB
    obtain ⟨a, cap, rfl, hv⟩ := hl
    match i, h1, h2 with
    | 0, h1, h2 =>
      simp at h2
      obtain ⟨rfl, e3, rfl⟩ := h2
      cases hn : d.now with
      | nil => rw [hn] at e3; simpa [bys] using e3.symm
      | cons x t =>
        exfalso
        obtain ⟨g, off, e4, _, k1, _⟩ := SeesE.cells h0 (k := 0) (by rw [hn]; simp)
        rw [hn] at e3
        rcases hv with hv | ⟨g', off', e5, _, k2⟩
        · rw [hv] at e3; simp at e3
        · rw [e4] at e5
          injection e5 with e5
          injection e5 with e6 e7
          subst e6 e7
          have k3 := k2 0 (by rw [← e3]; simp)
          simp only [Nat.zero_mul, Nat.add_zero] at k1 k3
          rw [k1] at k3
          simp [bys] at k3
    | 1, h1, _ | 2, h1, _ | 3, h1, _ | 4, h1, _ | 9, h1, _ => simp at h1
    | 5, _, h2 | 6, _, h2 | 7, _, h2 | 8, _, h2 => simp at h2
    | i + 10, h1, _ => simp at h1
end Go.Proofs.YtaklilhnikmmfaaGreat
