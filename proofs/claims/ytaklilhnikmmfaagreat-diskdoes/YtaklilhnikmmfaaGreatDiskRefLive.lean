/-
  The reference's Do with a disk that it holds.
-/
import Derived.Test.YtaklilhnikmmfaaGreatDiskRefAct
import Derived.Test.YtaklilhnikmmfaaGreatDiskRefDo
import Derived.Test.YtaklilhnikmmfaaGreatDiskRefBoot
import Derived.Test.YtaklilhnikmmfaaGreatDiskDoLive
namespace Go.Proofs.YtaklilhnikmmfaaGreat
open Go.RowKit StrM BlockM FileM DirM DiskM

def LiveQ (N q : Nat) (s : S) (x : A) (w : World) (er : Int) (W : World) : Prop := er = stepE s x ∧ RD N q (stepS s x) W ∧ Veer false N q w W

set_option maxRecDepth 100000 in
theorem rdo_live (N q i : Nat) (s : S) (x : A) (Ad : Option Addr) (lb cb : Nat) (Ab : Option Addr) (nb cbb : Nat) (w : World) (h : RD N q s w) (hI : Inv i s) (hi : i ≤ 100) (hx : OkA x)
    (hb : SeesV w (.slice Ad lb cb) (bys x.b)) (hlb : x.b.length = lb) (ht : ∀ W, Below N w W → SeesV W (.slice Ab nb cbb) (bools x.bits)) (hnb : x.bits.length = nb) (hcbb : nb ≤ cbb) :
    Calls Tryz.prog 11 #[.pointer (some ⟨q, 0, none⟩), .agg (xv x.kind x.name x.dst x.p Ad lb cb Ab nb cbb)] w (DoPost (LiveQ N q s x w)) := by
  have hw := below_made w (.cells (xv x.kind x.name x.dst x.p Ad lb cb Ab nb cbb) 41)
  have h' := h.later hw
  have hv : Veer false N q w _ := Veer.of_below hw h.baseW
  have ends : ∀ er s', stepE s x = er → stepS s x = s' → ∀ e W', REnd N q er s' (w.alloc (.cells (xv x.kind x.name x.dst x.p Ad lb cb Ab nb cbb) 41)) e W' → DoPost (LiveQ N q s x w) e W' := by
    rintro er s' e1 e2 e W' ⟨he, hc, hv'⟩
    exact ⟨er, he, e1.symm, by rw [e2]; exact hc, hv.trans hv'⟩
  have voids : ∀ s', stepE s x = 0 → stepS s x = s' → ∀ e W', (e = .returned (.tuple #[]) ∧ RD N q s' W' ∧ Veer false N q (w.alloc (.cells (xv x.kind x.name x.dst x.p Ad lb cb Ab nb cbb) 41)) W') → VoPost (LiveQ N q s x w) e W' := by
    rintro s' e1 e2 e W' ⟨he, hc, hv'⟩
    exact ⟨he, e1.symm, by rw [e2]; exact hc, hv.trans hv'⟩
  have hb2 := hx.b
  have hbits := hx.bits
  have hz : ByteArray.size ⟨#[]⟩ ≤ 60 := by decide
  obtain ⟨r, H⟩ := id h
  obtain ⟨-, -, -, -, -, -, c6, c7, -⟩ := H.box.cells
  refine rdo_walk q x.kind x.name x.dst x.p Ad lb cb Ab nb cbb w (LiveQ N q s x w) H.box.lt c6 c7 (H.box.soft 6) (H.box.soft 7) ?_ ?_ ?_ ?_ ?_ ?_ ?_ ?_ ?_ ?_
  · exact fun hk => (rdo_any N q i s (linkO x) _ h' hI hi (small_ok hx.name hz _ _)).mono (ends _ _ (by unfold stepE; rw [if_pos hk]) (by unfold stepS; rw [if_pos hk]))
  · exact fun hk => (rwrite_any N q i s x.name x.p Ad lb cb x.b _ h' hI hi (hb.later hw) hlb (by omega)).mono (ends _ _ (by unfold stepE; rw [if_neg (by omega), if_pos hk]) (by unfold stepS; rw [if_neg (by omega), if_pos hk]))
  · exact fun hk => (rsync_any N q i s x.name _ h' hI hi).mono (ends _ _ (by unfold stepE; rw [if_neg (by omega), if_neg (by omega), if_pos hk]) (by unfold stepS; rw [if_neg (by omega), if_neg (by omega), if_pos hk]))
  · exact fun hk => (rsyncdir_any N q i s _ h' hI hi).mono (ends _ _ (by unfold stepE; rw [if_neg (by omega), if_neg (by omega), if_neg (by omega), if_pos hk]) (by unfold stepS; rw [if_neg (by omega), if_neg (by omega), if_neg (by omega), if_pos hk]))
  · exact fun hk => (rdo_any N q i s (moveO x) _ h' hI hi (small_ok hx.name hx.dst _ _)).mono (ends _ _ (by unfold stepE; rw [if_neg (by omega), if_neg (by omega), if_neg (by omega), if_neg (by omega), if_pos hk]) (by unfold stepS; rw [if_neg (by omega), if_neg (by omega), if_neg (by omega), if_neg (by omega), if_pos hk]))
  · exact fun hk => (rdo_any N q i s (cutO x) _ h' hI hi (small_ok hx.name hz _ _)).mono (ends _ _ (by unfold stepE; rw [if_neg (by omega), if_neg (by omega), if_neg (by omega), if_neg (by omega), if_neg (by omega), if_pos hk]) (by unfold stepS; rw [if_neg (by omega), if_neg (by omega), if_neg (by omega), if_neg (by omega), if_neg (by omega), if_pos hk]))
  · intro hk
    have hset := (Veer.refl false N q w).set H.base 6 (.int .i64 (max x.p 0))
    have e2 : stepS s x = { s with trip := x.p } := by unfold stepS; simp [hk]
    have hR : RHeld (w.setCell ⟨q, 6, none⟩ (.int .i64 (max x.p 0))) N q { s with trip := x.p } { r with trip := max x.p 0 } := H.turned hI.fine hset (H.box.setTrip _) rfl rfl rfl rfl rfl rfl H.room H.ops rfl H.stop H.down
    have hm := below_made (w.setCell ⟨q, 6, none⟩ (.int .i64 (max x.p 0))) (.cells (xv x.kind x.name x.dst x.p Ad lb cb Ab nb cbb) 41)
    exact ⟨by unfold stepE; simp [hk], by rw [e2]; exact ⟨_, hR.later hm⟩, hset.more hm hR.baseW⟩
  · intro hk
    have hset := (Veer.refl false N q w).set H.base 7 (.int .i64 (max x.p 0))
    have e2 : stepS s x = { s with stop := x.p } := by unfold stepS; simp [hk]
    have hR : RHeld (w.setCell ⟨q, 7, none⟩ (.int .i64 (max x.p 0))) N q { s with stop := x.p } { r with stop := max x.p 0 } := H.turned hI.fine hset (H.box.setStop _) rfl rfl rfl rfl rfl rfl H.room H.ops H.trip rfl H.down
    have hm := below_made (w.setCell ⟨q, 7, none⟩ (.int .i64 (max x.p 0))) (.cells (xv x.kind x.name x.dst x.p Ad lb cb Ab nb cbb) 41)
    exact ⟨by unfold stepE; simp [hk], by rw [e2]; exact ⟨_, hR.later hm⟩, hset.more hm hR.baseW⟩
  · exact fun hk => (rreboot_any N q i s x.p x.bits Ab nb cbb _ h' hI hi (fun W hB => ht W ((hw.mono h.baseW).trans hB)) hnb hcbb (by omega)).mono (voids _ (by unfold stepE; simp [hk]) (by unfold stepS; simp [hk]))
  · intro hk
    refine ⟨?_, ?_, hv⟩
    · unfold stepE; rw [if_neg (by omega), if_neg (by omega), if_neg (by omega), if_neg (by omega), if_neg (by omega), if_neg (by omega)]
    · have : stepS s x = s := by unfold stepS; rw [if_neg (by omega), if_neg (by omega), if_neg (by omega), if_neg (by omega), if_neg (by omega), if_neg (by omega), if_neg (by omega), if_neg (by omega), if_neg (by omega)]
      rw [this]
      exact h'
end Go.Proofs.YtaklilhnikmmfaaGreat
