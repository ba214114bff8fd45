/-
  The laws' Do with a disk that New created.
-/
import Derived.Test.YtaklilhnikmmfaaGreatDiskDo
namespace Go.Proofs.YtaklilhnikmmfaaGreat
open Go.RowKit StrM BlockM FileM DirM DiskM

def LiveR (N p i : Nat) (s : S) (x : A) (w : World) (er : Int) (W : World) : Prop := er = stepE s x ∧ CD N p (i + 1) (stepS s x) W ∧ Veer true N p w W

set_option maxRecDepth 100000 in
theorem do_live (N p i : Nat) (s : S) (x : A) (Ad : Option Addr) (lb cb : Nat) (Ab : Option Addr) (nb cbb : Nat) (w : World) (h : CD N p i s w) (hI : Inv i s) (hi : i ≤ 100) (hx : OkA x)
    (hb : SeesV w (.slice Ad lb cb) (bys x.b)) (hlb : x.b.length = lb) (hcb : lb ≤ cb) (ht : ∀ W, Below N w W → SeesV W (.slice Ab nb cbb) (bools x.bits)) (hnb : x.bits.length = nb) (hcbb : nb ≤ cbb) :
    Calls Tryz.prog 10 #[.pointer (some ⟨p, 0, none⟩), .agg (xv x.kind x.name x.dst x.p Ad lb cb Ab nb cbb)] w (DoPost (LiveR N p i s x w)) := by
  have hw := below_made w (.cells (xv x.kind x.name x.dst x.p Ad lb cb Ab nb cbb) 41)
  have h' := h.later hw
  have hv : Veer true N p w _ := Veer.of_below hw h.baseW
  have ends : ∀ er s', stepE s x = er → stepS s x = s' → ∀ e W', KEnd N p (i + 1) er s' (w.alloc (.cells (xv x.kind x.name x.dst x.p Ad lb cb Ab nb cbb) 41)) e W' → DoPost (LiveR N p i s x w) e W' := by
    rintro er s' e1 e2 e W' ⟨he, hc, hv'⟩
    exact ⟨er, he, e1.symm, by rw [e2]; exact hc, hv.trans hv'⟩
  have voids : ∀ s', stepE s x = 0 → stepS s x = s' → ∀ e W', (e = .returned (.tuple #[]) ∧ CD N p i s' W' ∧ Veer true N p (w.alloc (.cells (xv x.kind x.name x.dst x.p Ad lb cb Ab nb cbb) 41)) W') → VoPost (LiveR N p i s x w) e W' := by
    rintro s' e1 e2 e W' ⟨he, hc, hv'⟩
    exact ⟨he, e1.symm, by rw [e2]; exact hc.mono (Nat.le_succ i), hv.trans hv'⟩
  have hb2 := hx.b
  have hp1 := hx.p1
  have hbits := hx.bits
  refine do_walk (.pointer (some ⟨p, 0, none⟩)) x.kind x.name x.dst x.p Ad lb cb Ab nb cbb w (LiveR N p i s x w) ?_ ?_ ?_ ?_ ?_ ?_ ?_ ?_ ?_ ?_
  · exact fun hk => (create_any N p i s x.name _ h' hI hi).mono (ends _ _ (by unfold stepE linkO; rw [if_pos hk]) (by unfold stepS linkO; rw [if_pos hk]))
  · exact fun hk => (write_any N p i s x.name x.p Ad lb cb x.b _ h' hI hi (hb.later hw) hlb hcb (by omega) hp1).mono (ends _ _ (by unfold stepE; rw [if_neg (by omega), if_pos hk]) (by unfold stepS; rw [if_neg (by omega), if_pos hk]))
  · exact fun hk => (sync_any N p i s x.name _ h' hI hi).mono (ends _ _ (by unfold stepE; rw [if_neg (by omega), if_neg (by omega), if_pos hk]) (by unfold stepS; rw [if_neg (by omega), if_neg (by omega), if_pos hk]))
  · exact fun hk => (syncdir_any N p i s _ h' hI hi).mono (ends _ _ (by unfold stepE; rw [if_neg (by omega), if_neg (by omega), if_neg (by omega), if_pos hk]) (by unfold stepS; rw [if_neg (by omega), if_neg (by omega), if_neg (by omega), if_pos hk]))
  · exact fun hk => (move_any N p i s x.name x.dst _ h' hI hi).mono (ends _ _ (by unfold stepE moveO; rw [if_neg (by omega), if_neg (by omega), if_neg (by omega), if_neg (by omega), if_pos hk]) (by unfold stepS moveO; rw [if_neg (by omega), if_neg (by omega), if_neg (by omega), if_neg (by omega), if_pos hk]))
  · exact fun hk => (remove_any N p i s x.name _ h' hI hi).mono (ends _ _ (by unfold stepE cutO; rw [if_neg (by omega), if_neg (by omega), if_neg (by omega), if_neg (by omega), if_neg (by omega), if_pos hk]) (by unfold stepS cutO; rw [if_neg (by omega), if_neg (by omega), if_neg (by omega), if_neg (by omega), if_neg (by omega), if_pos hk]))
  · exact fun hk => (trip_any N p i s x.p _ h' hI).mono (voids _ (by unfold stepE; simp [hk]) (by unfold stepS; simp [hk]))
  · exact fun hk => (stop_any N p i s x.p _ h' hI).mono (voids _ (by unfold stepE; simp [hk]) (by unfold stepS; simp [hk]))
  · exact fun hk => (reboot_any N p i s x.p x.bits Ab nb cbb _ h' hI hi (fun W hB => ht W ((hw.mono h.baseW).trans hB)) hnb hcbb (by omega)).mono (voids _ (by unfold stepE; simp [hk]) (by unfold stepS; simp [hk]))
  · intro hk
    refine ⟨?_, ?_, hv⟩
    · unfold stepE; rw [if_neg (by omega), if_neg (by omega), if_neg (by omega), if_neg (by omega), if_neg (by omega), if_neg (by omega)]
    · have : stepS s x = s := by unfold stepS; rw [if_neg (by omega), if_neg (by omega), if_neg (by omega), if_neg (by omega), if_neg (by omega), if_neg (by omega), if_neg (by omega), if_neg (by omega), if_neg (by omega)]
      rw [this]
      exact h'.mono (Nat.le_succ i)
end Go.Proofs.YtaklilhnikmmfaaGreat
