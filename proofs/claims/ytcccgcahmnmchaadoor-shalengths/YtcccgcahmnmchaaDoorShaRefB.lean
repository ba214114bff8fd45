/-
  The walk of the reference's table.
-/
import Derived.Test.YtcccgcahmnmchaaDoorShaRefA
namespace Go.Proofs.YtcccgcahmnmchaaDoor
open Go.RowKit StrM ShaM

theorem wpList_build {P : Program} {ops : Array Oper} {rest : List Oper} {o : Oper} {a : Act} {w : World} {Q : Exit → Act → World → Prop} {t : TypeId} {parts : Array (Nat × Operand)} {v : Value} (hgd : o.guard = none) (ho : o.op = .build t parts)
    (hrun : (Instr.build t (parts.map fun p => (p.1, a.eval p.2))).run P w = .ok v w) (h : wpList P ops Q rest (a.put o.dst v) w) : wpList P ops Q (o :: rest) a w :=
  wpList_plain hgd fun _ hK => by
    have e : (execOp a.eval o).run P w = .ok (.value v) w := by
      unfold execOp
      simp only [ho, Sem.run_bind, Sem.run_pure]
      rw [show (Instr.build t (Array.map (fun x => (x.1, a.eval x.2)) parts)).run P w = .ok v w from hrun]
      rfl
    unfold Oper.wp; rw [e]; exact hK _ _ h

/-- An array is written whole; of the world behind only p is told. -/
theorem wpList_storeP {P : Program} {ops : Array Oper} {rest : List Oper} {o : Oper} {a : Act} {w w' : World} {Q : Exit → Act → World → Prop} {t : TypeId} {x y : Operand} (p : World → Prop) (hgd : o.guard = none) (ho : o.op = .store t x y) (q u : Value) (hx : a.eval x = q) (hy : a.eval y = u) (hrun : (Instr.storeAt t q u).run P w = .ok () w') (hp : p w')
    (h : ∀ W, p W → wpList P ops Q rest (a.put o.dst undef) W) : wpList P ops Q (o :: rest) a w :=
  wpList_store hgd ho q u hx hy hrun (h w' hp)

set_option maxHeartbeats 800000 in
set_option maxRecDepth 100000 in
theorem table_any (i : Nat) (w : World) (hi : i < 64) :
    Calls Tryd.prog 22 #[.int .i64 (i : Int)] w fun e w' => e = .returned (.int .u64 ((K.getD i 0 : Nat) : Int)) ∧ Below w.heap.size w w' := by
  obtain ⟨ks, hks⟩ : ∃ ks, ks = u64s K := ⟨_, rfl⟩
  have HKL := Lib.hid (show ks.length = 64 by rw [hks, u64s_len]; rfl)
  have R0 := Row.new w 49 (u64s (List.replicate 64 0))
  have k2 := Lib.hid (R0.storeAt (P := Tryd.prog) (ds := ks) infoK (by rw [u64s_len, List.length_replicate]) HKL.out (by rw [hks]; exact u64s_one _))
  have hc := (R0.put ks).cell i
  have hv : ks[i]? = some (.int .u64 ((K.getD i 0 : Nat) : Int)) := by rw [hks, u64s_at (show i < K.length from hi)]
  rw [hv] at hc
  have HB' := Lib.hid (below_setRow (below_made w (.cells (u64s (List.replicate 64 0)).toArray 49)) (Nat.le_refl _) ks.toArray)
  have HKS := Lib.hid hks
  obtain ⟨kv, hkv⟩ : ∃ kv, kv = K.getD i 0 := ⟨_, rfl⟩
  rw [← hkv] at hc ⊢
  have HC := Lib.hid hc
  clear R0 hks hv hkv hc
  go_enter Tryd.func22, Tryd.ntmps22
  go_wp2_with (first
    | (refine wpList_build (t := 49) (v := .agg ks.toArray) rfl rfl (by rw [HKS.out]; kernel_rfl) ?_)
    | (refine wpList_storeP (t := 49) (x := .tmp 3) (y := .tmp 4) (fun W => Below w.heap.size w W ∧ W.cell? ⟨w.heap.size, i, none⟩ = some (.int .u64 (kv : Int))) rfl rfl (.pointer (some ⟨w.heap.size, 0, none⟩)) (.agg ks.toArray) rfl rfl k2.out ⟨HB'.out, HC.out⟩ ?_; rintro W ⟨hbW, hcW⟩; have HBW := Lib.hid hbW; clear hbW))
  go_ret
  exact ⟨rfl, HBW.out⟩
end Go.Proofs.YtcccgcahmnmchaaDoor
