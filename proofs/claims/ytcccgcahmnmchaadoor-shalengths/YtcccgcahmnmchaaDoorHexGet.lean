/-
  The walk of hexa.Get.
-/
import Derived.Test.YtcccgcahmnmchaaDoorHexPut
import Derived.Test.YtcccgcahmnmchaaDoorStrLow
namespace Go.Proofs.YtcccgcahmnmchaaDoor
open Go.RowKit StrM

theorem quiet_same {P : Program} {f : FuncId} {args : Array Value} {w : World} {n : Nat} {v : Value}
    (h : Calls P f args (w.drewN n) fun e w' => e = .returned v ∧ w.drewN n = w') : Calls P f args (w.drewN n) fun e w'' => e = .returned v ∧ ∃ m, w'' = w.drewN m :=
  h.mono fun _ _ ⟨he, hm⟩ => ⟨he, n, hm.symm⟩

/-- What Get returns: the bytes in a row of the call's own, and an error's number. -/
def GetPost (l : List UInt8) (w : World) (e : Ending) (w' : World) : Prop :=
  ∃ v, e = .returned (.tuple #[v, .int .i64 (unE l)]) ∧ w'.ownsRow w.heap.size 5 1 v (unV l).length (bys (unV l)) ∧ Below w.heap.size w w'

theorem get_bad {l : List UInt8} {w w' : World} (h : unV l = [] ∧ unE l = 2) (hb : Below w.heap.size w w') : GetPost l w (.returned (.tuple #[.slice none 0 0, .int .i64 2])) w' :=
  ⟨.slice none 0 0, by rw [h.2], by rw [h.1]; exact World.ownsRow_nil _ _ _ _, hb⟩

/-- What the walk of Get has gathered. -/
def GetRel (w : World) (l : List UInt8) (i : Nat) (acc : List UInt8) (v : Value) (wr : World) : Prop :=
  wr.ownsRow w.heap.size 5 1 v acc.length (bys acc) ∧ Below w.heap.size w wr ∧ HexAt l i acc ∧ 2 * acc.length = i

theorem GetRel.step {w : World} {l : List UInt8} {i : Nat} {acc : List UInt8} {v v' : Value} {wr w1 w2 : World} (h : GetRel w l i acc v wr) (hi : i + 1 < l.length) (ha : 0 ≤ hexV l[i]) (hb : 0 ≤ hexV l[i + 1]) {x : Int} (hx : x = 16 * hexV l[i] + hexV l[i + 1]) (hw : Below w.heap.size w w1)
    (h1 : w2.ownsRow w.heap.size 5 1 v' (acc.length + 1) (bys acc ++ [.int .u8 x])) (h2 : Below w.heap.size w1 w2) : GetRel w l (i + 2) (acc ++ [hexB (hexV l[i]) (hexV l[i + 1])]) v' w2 := by
  refine ⟨?_, hw.trans h2, h.2.2.1.good hi ha hb, by have := h.2.2.2; simp; omega⟩
  rw [bys_add]
  rw [hx, ← hexB_toNat ha (hexV_range _).2 hb (hexV_range _).2] at h1
  simpa [bys] using h1

theorem GetRel.done {w : World} {l : List UInt8} {i : Nat} {acc : List UInt8} {v : Value} {wr : World} (h : GetRel w l i acc v wr) (hi : l.length = i) : GetPost l w (.returned (.tuple #[v, .int .i64 0])) wr := by
  obtain ⟨e1, e2⟩ := h.2.2.1.done hi
  exact ⟨v, by rw [e2], by rw [e1]; exact h.1, h.2.1⟩

theorem own_base {w : World} {base base' n : Nat} {e : TypeId} {v : Value} {xs : List Value} (h : w.ownsRow base' e 1 v n xs) (hb : base ≤ base') : w.ownsRow base e 1 v n xs := by
  refine ⟨h.1, ?_⟩
  rcases h.2 with h | ⟨g, cap, cur, h1, h2, h3⟩
  · exact .inl h
  · exact .inr ⟨g, cap, cur, h1, Nat.le_trans hb h2, h3⟩

theorem low_at (s : ByteArray) (i : Nat) (h : i < s.data.toList.length) (h' : i < (lowS s).size) : (lowS s)[i] = low s.data.toList[i] := by
  show (lowL s.data.toList).toArray[i]'(by simpa [lowL] using h) = _
  simp [lowL]

theorem or16_all : ∀ a, a < 16 → ∀ b, b < 16 → bits .or .i64 (((a : Nat) : Int) * 16) ((b : Nat) : Int) % 256 = 16 * (a : Int) + (b : Int) := by decide +kernel
theorem or16 {x y : Int} (hx : 0 ≤ x) (hx' : x ≤ 15) (hy : 0 ≤ y) (hy' : y ≤ 15) : bits .or .i64 (x * 16) y % 256 = 16 * x + y := by
  obtain ⟨a, rfl⟩ := Int.eq_ofNat_of_zero_le hx
  obtain ⟨b, rfl⟩ := Int.eq_ofNat_of_zero_le hy
  exact or16_all a (by omega) b (by omega)

end Go.Proofs.YtcccgcahmnmchaaDoor
