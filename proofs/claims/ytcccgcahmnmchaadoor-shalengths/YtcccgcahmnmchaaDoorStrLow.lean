/-
  The walks of text.Lower, text.Same and of the reference's Lower.
-/
import Derived.Test.YtcccgcahmnmchaaDoorStrRow
namespace Go.Proofs.YtcccgcahmnmchaaDoor
open Go.RowKit StrM

theorem bool_val {a b : Bool} (h : a = b) : Value.bool a = .bool b := by rw [h]
def sameB (a b : ByteArray) : Bool := (lowS a).toList == (lowS b).toList

/-- What the reference's Lower has gathered. -/
def LowRel (w : World) (s : ByteArray) (k : Nat) (v : Value) (wr : World) : Prop :=
  wr.ownsRow w.heap.size 5 1 v k (bys (lowL (s.data.toList.take k))) ∧ Below w.heap.size w wr

theorem LowRel.step {w : World} {s : ByteArray} {k : Nat} {v v' : Value} {wr w1 : World} (h : LowRel w s k v wr) (hk : k < s.size) {z : Int} (hz : z = ((low s[k]).toNat : Int))
    (h1 : w1.ownsRow w.heap.size 5 1 v' (k + 1) (bys (lowL (s.data.toList.take k)) ++ [.int .u8 z])) (h2 : Below w.heap.size wr w1) : LowRel w s (k + 1) v' w1 := by
  refine ⟨?_, h.2.trans h2⟩
  subst hz
  rw [take_byte s k hk, lowL_snoc, bys_add]
  exact h1

end Go.Proofs.YtcccgcahmnmchaaDoor
