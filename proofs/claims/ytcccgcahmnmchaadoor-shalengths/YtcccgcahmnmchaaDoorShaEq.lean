/-
  Two arrays of the same 32 bytes are equal.
-/
import Derived.Test.YtcccgcahmnmchaaDoorShaAwake
import Derived.Laws.StructEq
namespace Go.Proofs.YtcccgcahmnmchaaDoor
open Go.RowKit StrM ShaM

theorem forIn_all {P : Program} {β : Type} (f : Nat → β → Sem (ForInStep β)) (b : β) (w : World) : ∀ (xs : List Nat), (∀ i ∈ xs, (f i b).run P w = .ok (.yield b) w) → (forIn xs b f).run P w = .ok b w
  | [], _ => by simp
  | x :: xs, h => by
    rw [List.forIn_cons, Sem.run_bind, h x (by simp)]
    simp only [Result.andThen_ok]
    exact forIn_all f b w xs fun i hi => h i (by simp [hi])

theorem eq_byte (c : UInt8) (w : World) : (Op.equalIn 9999 5 (.int .u8 (c.toNat : Int)) (.int .u8 (c.toNat : Int))).run Tryd.prog w = .ok true w := by
  rw [show (9999 : Nat) = 9998 + 1 from rfl]
  unfold Op.equalIn
  simp [run_underlying Tryd.underlying5]

theorem eq_bytes (l : List UInt8) (hl : l.length = 32) (w : World) : (Op.equalIn 10000 24 (.agg (bys l).toArray) (.agg (bys l).toArray)).run Tryd.prog w = .ok true w := by
  have hz : ∀ W, (sizeOf 5).run Tryd.prog W = .ok 1 W := fun _ => by kernel_rfl
  have ha : ∀ W, (isAgg 5).run Tryd.prog W = .ok false W := fun _ => by kernel_rfl
  rw [show (10000 : Nat) = 9999 + 1 from rfl]
  unfold Op.equalIn
  simp only [Sem.run_bind, run_underlying Tryd.underlying24, Result.andThen_ok, hz, Std.Legacy.Range.forIn_eq_forIn_range']
  rw [forIn_all]
  · rfl
  · intro i hi
    have hi32 : i < 32 := by simpa using (List.mem_range'_1.1 hi).2
    have hc := bys_at (l := l) (i := i) (by omega)
    simp [part, ha, hc, eq_byte]
end Go.Proofs.YtcccgcahmnmchaaDoor
