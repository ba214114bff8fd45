/-
  Blocks that are known whole, words as cells, and the bit operations on words.
-/
import Derived.Test.YtcccgcahmnmchaaDoorRowMore
import Derived.Test.YtcccgcahmnmchaaDoorHexGet
import Derived.Test.YtcccgcahmnmchaaDoorShaMath
import Derived.Laws.Tables
import Derived.Deep.RegionHeld3
import Derived.Deep.QuietTactic
import Derived.BigQuiet
import Derived.IntWalk
namespace Go.Proofs.YtcccgcahmnmchaaDoor
open Go.RowKit StrM ShaM

/-- Block g is just the cells cs, of elements of type t, none of them frozen. -/
def Row (w : World) (g : Nat) (t : TypeId) (cs : List Value) : Prop := w.heap[g]? = some (.cells cs.toArray t)

section
variable {w w' : World} {g : Nat} {t : TypeId} {cs : List Value}
theorem Row.lt (h : Row w g t cs) : g < w.heap.size := (Array.getElem?_eq_some_iff.1 h).1
theorem Row.cell (h : Row w g t cs) (i : Nat) : w.cell? ⟨g, i, none⟩ = cs[i]? := by rw [cell_of_row w g i _ t _ h]; simp
theorem Row.frozen (h : Row w g t cs) (i : Nat) : w.frozen? ⟨g, i, none⟩ = false := by
  unfold Row at h
  simp [World.frozen?, h]
theorem Row.new (w : World) (t : TypeId) (cs : List Value) : Row (w.alloc (.cells cs.toArray t)) w.heap.size t cs := by
  unfold Row World.alloc; simp
theorem Row.alloc (h : Row w g t cs) (o : Obj) : Row (w.alloc o) g t cs := (Below.heap_alloc w o g h.lt).trans h
theorem Row.drewN (h : Row w g t cs) (n : Nat) : Row (w.drewN n) g t cs := h
theorem Row.set (h : Row w g t cs) (i : Nat) (u : Value) : Row (w.setCell ⟨g, i, none⟩ u) g t (cs.set i u) := by
  have := heap_setCell_same w g i cs.toArray t u h
  unfold Row
  rw [this]; simp
theorem Row.far (h : Row w g t cs) {p : Addr} (hp : g ≠ p.block) (u : Value) : Row (w.setCell p u) g t cs := (Below.heap_setCell w p u g hp).trans h
theorem Row.below {B : Nat} (h : Row w g t cs) (hb : Below B w w') (hg : g < B) : Row w' g t cs := (hb.block g hg).trans h
theorem Row.put (h : Row w g t cs) (ds : List Value) : Row (w.setRow g ds.toArray) g t ds := setRow_heap w g _ _ t _ h
theorem Row.off (h : Row w g t cs) {k : Nat} (hk : g ≠ k) (ds : Array Value) : Row (w.setRow k ds) g t cs := (setRow_other w k g ds hk).trans h
theorem below_setRow {B : Nat} {a : World} (h : Below B a w) {k : Nat} (hk : B ≤ k) (ds : Array Value) : Below B a (w.setRow k ds) :=
  ⟨h.os, h.tape, h.output, by rw [setRow_size]; exact h.size, fun j hj => (setRow_other w k j ds (by omega)).trans (h.block j hj)⟩
/-- The whole of a block, read and written. -/
theorem Row.load {P : Program} {n : Nat} {e : TypeId} (h : Row w g t cs) (hu : P.underlying t = some (.array n e)) (hi : (P.info? t).map (·.size) = some n) (hn : cs.length = n) :
    (loadVar t ⟨g, 0, none⟩).run P w = .ok (.agg cs.toArray) w :=
  run_loadVar_row w g t t cs.toArray _ _ h hu rfl (by rw [hi]; simp [hn])
theorem Row.store {P : Program} {n : Nat} {ds : List Value} (h : Row w g t cs) (hi : (P.info? t).map (·.size) = some n) (hn : cs.length = n) (hd : ds.length = n) (h1 : (ds.all fun x => x.oneCell') = true) :
    (storeVar t ⟨g, 0, none⟩ (.agg ds.toArray)).run P w = .ok () (w.setRow g ds.toArray) :=
  run_storeVar_row w g t t cs.toArray ds.toArray h (by rw [hi]; simp [hd]) (by simp [hn, hd]) (by simpa using h1)
end

section
variable {P : Program} {ops : Array Oper} {rest : List Oper} {o : Oper} {a : Act} {w w' : World} {Q : Exit → Act → World → Prop} {t : TypeId} {x y : Operand}
theorem exec_load {v : Value} (ho : o.op = .load t x) (p : Value) (hx : a.eval x = p) (hrun : (Instr.loadAt t p).run P w = .ok v w) : (execOp a.eval o).run P w = .ok (.value v) w := by
  unfold execOp
  simp only [ho, Sem.run_bind, Sem.run_pure, hx, hrun, Result.andThen_ok]
theorem exec_store (ho : o.op = .store t x y) (p u : Value) (hx : a.eval x = p) (hy : a.eval y = u) (hrun : (Instr.storeAt t p u).run P w = .ok () w') : (execOp a.eval o).run P w = .ok .skip w' := by
  unfold execOp
  simp only [ho, Sem.run_bind, Sem.run_pure, hx, hy, hrun, Result.andThen_ok]
/-- An array is read whole; is written whole: a step of the text's order, of a region that draws, of one that only reads. -/
theorem wpList_load {v : Value} (hgd : o.guard = none) (ho : o.op = .load t x) (p : Value) (hx : a.eval x = p) (hrun : (Instr.loadAt t p).run P w = .ok v w) (h : wpList P ops Q rest (a.put o.dst v) w) : wpList P ops Q (o :: rest) a w :=
  wpList_plain hgd fun _ hK => by unfold Oper.wp; rw [exec_load ho p hx hrun]; exact hK _ _ h
theorem wpList_store (hgd : o.guard = none) (ho : o.op = .store t x y) (p u : Value) (hx : a.eval x = p) (hy : a.eval y = u) (hrun : (Instr.storeAt t p u).run P w = .ok () w') (h : wpList P ops Q rest (a.put o.dst undef) w') : wpList P ops Q (o :: rest) a w :=
  wpList_plain hgd fun _ hK => by unfold Oper.wp; rw [exec_store ho p u hx hy hrun]; exact hK _ _ h
theorem step_load {K : Act → World → Prop} {E : Prop} {v : Value} (hgd : o.guard = none) (ho : o.op = .load t x) (p : Value) (hx : a.eval x = p) (hrun : (Instr.loadAt t p).run P w = .ok v w) (h : K (a.put o.dst v) w) :
    if Region.wanted o (yielded ops a.tmps) = true then Oper.wp P o a w K Q else E := by
  have hw : Region.wanted o (yielded ops a.tmps) = true := by simp [Region.wanted, hgd]
  rw [if_pos hw]; unfold Oper.wp; rw [exec_load ho p hx hrun]; exact h
theorem step_store {K : Act → World → Prop} {E : Prop} (hgd : o.guard = none) (ho : o.op = .store t x y) (p u : Value) (hx : a.eval x = p) (hy : a.eval y = u) (hrun : (Instr.storeAt t p u).run P w = .ok () w') (h : K (a.put o.dst undef) w') :
    if Region.wanted o (yielded ops a.tmps) = true then Oper.wp P o a w K Q else E := by
  have hw : Region.wanted o (yielded ops a.tmps) = true := by simp [Region.wanted, hgd]
  rw [if_pos hw]; unfold Oper.wp; rw [exec_store ho p u hx hy hrun]; exact h
end
theorem Row.loadAt {P : Program} {w : World} {g : Nat} {t : TypeId} {cs : List Value} {n : Nat} {e : TypeId} (h : Row w g t cs) (hu : P.underlying t = some (.array n e)) (hi : (P.info? t).map (·.size) = some n) (hn : cs.length = n) :
    (Instr.loadAt t (.pointer (some ⟨g, 0, none⟩))).run P w = .ok (.agg cs.toArray) w := by
  unfold Instr.loadAt
  simp only [Instr.sureAddr, Sem.run_bind, Sem.run_pure, Result.andThen_ok]
  exact h.load hu hi hn
theorem Row.storeAt {P : Program} {w : World} {g : Nat} {t : TypeId} {cs : List Value} {n : Nat} {ds : List Value} (h : Row w g t cs) (hi : (P.info? t).map (·.size) = some n) (hn : cs.length = n) (hd : ds.length = n) (h1 : (ds.all fun x => x.oneCell') = true) :
    (Instr.storeAt t (.pointer (some ⟨g, 0, none⟩)) (.agg ds.toArray)).run P w = .ok () (w.setRow g ds.toArray) := by
  unfold Instr.storeAt
  simp only [Instr.sureAddr, Sem.run_bind, Sem.run_pure, Result.andThen_ok]
  exact h.store hi hn hd h1

theorem Row.results {P : Program} {w : World} {g : Nat} {t : TypeId} {cs : List Value} {n : Nat} {e : TypeId} {fn : Func} {p : Tmp} (h : Row w g t cs) (hu : P.underlying t = some (.array n e)) (hi : (P.info? t).map (·.size) = some n) (hn : cs.length = n)
    (hr : fn.results = #[.cell p t]) (tmps : Array Value) (hp : tmps.getD p undef = .pointer (some ⟨g, 0, none⟩)) : (results fn tmps).run P w = .ok (.agg cs.toArray) w :=
  results_cell_row hr tmps w g t cs.toArray _ _ hp h hu rfl (by rw [hi]; simp [hn])

def u32s (l : List Nat) : List Value := l.map fun (n : Nat) => .int .u32 (n : Int)
def u64s (l : List Nat) : List Value := l.map fun (n : Nat) => .int .u64 (n : Int)
theorem u32s_len (l : List Nat) : (u32s l).length = l.length := by simp [u32s]
theorem u64s_len (l : List Nat) : (u64s l).length = l.length := by simp [u64s]
theorem u32s_one (l : List Nat) : ((u32s l).all fun x => x.oneCell') = true := by simp [u32s, Value.oneCell']
theorem u64s_one (l : List Nat) : ((u64s l).all fun x => x.oneCell') = true := by simp [u64s, Value.oneCell']
theorem bys_one (l : List UInt8) : ((bys l).all fun x => x.oneCell') = true := by simp [bys, Value.oneCell']
theorem u32s_at {l : List Nat} {i : Nat} (h : i < l.length) : (u32s l)[i]? = some (.int .u32 ((l.getD i 0 : Nat) : Int)) := by simp [u32s, h]
theorem u64s_at {l : List Nat} {i : Nat} (h : i < l.length) : (u64s l)[i]? = some (.int .u64 ((l.getD i 0 : Nat) : Int)) := by simp [u64s, h]
theorem bys_at {l : List UInt8} {i : Nat} (h : i < l.length) : (bys l)[i]? = some (.int .u8 (((l.getD i 0).toNat : Nat) : Int)) := by simp [bys, h]
theorem u32s_set (l : List Nat) (i n : Nat) : (u32s l).set i (.int .u32 (n : Int)) = u32s (l.set i n) := by simp [u32s, List.map_set]
theorem u64s_set (l : List Nat) (i n : Nat) : (u64s l).set i (.int .u64 (n : Int)) = u64s (l.set i n) := by simp [u64s, List.map_set]
theorem bys_set (l : List UInt8) (i : Nat) (c : UInt8) : (bys l).set i (.int .u8 (c.toNat : Int)) = bys (l.set i c) := by simp [bys, List.map_set]

theorem ofInt_nat (n x : Nat) : BitVec.ofInt n (x : Int) = BitVec.ofNat n x := by
  apply BitVec.eq_of_toNat_eq; simp
theorem wrap_u32 {n : Nat} (h : n < 4294967296) : IntKind.u32.wrap (n : Int) = (n : Int) := by
  simp [IntKind.wrap, IntKind.bits, IntKind.signed]; omega
theorem wrap_u64 {n : Nat} (h : n < 4294967296) : IntKind.u64.wrap (n : Int) = (n : Int) := by
  simp [IntKind.wrap, IntKind.bits, IntKind.signed]; omega
theorem xor32 {x y : Nat} (hx : x < 4294967296) (hy : y < 4294967296) : bits .xor .u32 (x : Int) (y : Int) = ((x ^^^ y : Nat) : Int) := by
  have := xor_lt hx hy
  show IntKind.u32.wrap (((BitVec.ofInt 32 (x : Int) ^^^ BitVec.ofInt 32 (y : Int)).toNat : Nat) : Int) = _
  rw [ofInt_nat, ofInt_nat, BitVec.toNat_xor, BitVec.toNat_ofNat, BitVec.toNat_ofNat]
  rw [Nat.mod_eq_of_lt (by omega : x < 2 ^ 32), Nat.mod_eq_of_lt (by omega : y < 2 ^ 32)]
  exact wrap_u32 (by omega)
theorem and32 {x y : Nat} (hx : x < 4294967296) (hy : y < 4294967296) : bits .and .u32 (x : Int) (y : Int) = ((x &&& y : Nat) : Int) := by
  have := and_lt (x := x) hy
  show IntKind.u32.wrap (((BitVec.ofInt 32 (x : Int) &&& BitVec.ofInt 32 (y : Int)).toNat : Nat) : Int) = _
  rw [ofInt_nat, ofInt_nat, BitVec.toNat_and, BitVec.toNat_ofNat, BitVec.toNat_ofNat]
  rw [Nat.mod_eq_of_lt (by omega : x < 2 ^ 32), Nat.mod_eq_of_lt (by omega : y < 2 ^ 32)]
  exact wrap_u32 (by omega)
theorem or_lt {x y : Nat} (hx : x < 4294967296) (hy : y < 4294967296) : x ||| y < 4294967296 := Nat.or_lt_two_pow (n := 32) hx hy
theorem or32 {x y : Nat} (hx : x < 4294967296) (hy : y < 4294967296) : bits .or .u32 (x : Int) (y : Int) = ((x ||| y : Nat) : Int) := by
  have := or_lt hx hy
  show IntKind.u32.wrap (((BitVec.ofInt 32 (x : Int) ||| BitVec.ofInt 32 (y : Int)).toNat : Nat) : Int) = _
  rw [ofInt_nat, ofInt_nat, BitVec.toNat_or, BitVec.toNat_ofNat, BitVec.toNat_ofNat]
  rw [Nat.mod_eq_of_lt (by omega : x < 2 ^ 32), Nat.mod_eq_of_lt (by omega : y < 2 ^ 32)]
  exact wrap_u32 (by omega)
theorem xor64 {x y : Nat} (hx : x < 4294967296) (hy : y < 4294967296) : bits .xor .u64 (x : Int) (y : Int) = ((x ^^^ y : Nat) : Int) := by
  have := xor_lt hx hy
  show IntKind.u64.wrap (((BitVec.ofInt 64 (x : Int) ^^^ BitVec.ofInt 64 (y : Int)).toNat : Nat) : Int) = _
  rw [ofInt_nat, ofInt_nat, BitVec.toNat_xor, BitVec.toNat_ofNat, BitVec.toNat_ofNat]
  rw [Nat.mod_eq_of_lt (by omega : x < 2 ^ 64), Nat.mod_eq_of_lt (by omega : y < 2 ^ 64)]
  exact wrap_u64 (by omega)
theorem and64 {x y : Nat} (hx : x < 4294967296) (hy : y < 4294967296) : bits .and .u64 (x : Int) (y : Int) = ((x &&& y : Nat) : Int) := by
  have := and_lt (x := x) hy
  show IntKind.u64.wrap (((BitVec.ofInt 64 (x : Int) &&& BitVec.ofInt 64 (y : Int)).toNat : Nat) : Int) = _
  rw [ofInt_nat, ofInt_nat, BitVec.toNat_and, BitVec.toNat_ofNat, BitVec.toNat_ofNat]
  rw [Nat.mod_eq_of_lt (by omega : x < 2 ^ 64), Nat.mod_eq_of_lt (by omega : y < 2 ^ 64)]
  exact wrap_u64 (by omega)
theorem not_xor {x : Nat} (hx : x < 4294967296) : 4294967295 ^^^ x = 4294967295 - x := by
  apply Nat.eq_of_testBit_eq
  intro i
  have e : 4294967295 - x = 2 ^ 32 - (x + 1) := by omega
  rw [e, Nat.testBit_two_pow_sub_succ hx, Nat.testBit_xor, show (4294967295 : Nat) = 2 ^ 32 - 1 from rfl, Nat.testBit_two_pow_sub_one]
  by_cases hi : i < 32
  · simp [hi]
  · simp [hi]
    have h2 : 2 ^ 32 ≤ 2 ^ i := Nat.pow_le_pow_right (by decide) (by omega)
    exact Nat.testBit_lt_two_pow (Nat.lt_of_lt_of_le hx h2)
theorem not32 {x : Nat} (hx : x < 4294967296) : bits .xor .u32 4294967295 (x : Int) = ((4294967295 - x : Nat) : Int) := by
  rw [← not_xor hx]; exact xor32 (x := 4294967295) (by decide) hx
end Go.Proofs.YtcccgcahmnmchaaDoor
