/-
  The walks of vary.Put and the reference's Put.
-/
import Derived.Test.YtahocamjihhjhaaVaryLeaf
import Derived.Deep.RegionHeld3
namespace Go.Proofs.Ytahocamjihhjhaa
open Go.RowKit StrM VaryM

theorem or128_all : ∀ a, a < 256 → bits .or .u8 ((a : Nat) : Int) 128 = ((a % 128 + 128 : Nat) : Int) := by decide +kernel

theorem ERel.start (w : World) : ERel w (.slice none 0 0) [] w := ⟨World.ownsRow_nil _ _ _ _, Below.refl _ _⟩
theorem EndPost.of {w w' : World} {v v' : Value} {acc l : List UInt8} {wr : World} (h : ERel w v acc wr) {c : UInt8} {x : Int} (hx : x = (c.toNat : Int)) (hl : l = acc ++ [c]) (h1 : w'.ownsRow w.heap.size 5 1 v' (acc.length + 1) (bys acc ++ [.int .u8 x])) (h2 : Below w.heap.size wr w') : EndPost l w (.returned v') w' := by
  have := h.step hx h1 h2
  subst hl
  exact ⟨v', rfl, this.1, this.2⟩

end Go.Proofs.Ytahocamjihhjhaa
