/-
  An argument of type byte is the number of a byte.
-/
import Derived.Test.YtpcepkdnclbndaaStrAwake
namespace Go.Proofs.Ytpcepkdnclbndaa
open Go.RowKit

theorem byte_of {n : Int} (h : (Lit.int .u8 n).wf = true) : ∃ c : UInt8, n = (c.toNat : Int) := by
  have hb : 0 ≤ n ∧ n ≤ 255 := by
    simp [Lit.wf, IntKind.min, IntKind.max, IntKind.signed, IntKind.bits] at h
    omega
  exact ⟨UInt8.ofNat n.toNat, by rw [UInt8.toNat_ofNat']; omega⟩
end Go.Proofs.Ytpcepkdnclbndaa
