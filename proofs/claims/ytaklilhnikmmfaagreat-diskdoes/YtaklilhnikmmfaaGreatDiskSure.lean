/-
  The walks of SyncDir and of the function literal that it hands to perform.
-/
import Derived.Test.YtaklilhnikmmfaaGreatDiskSettle
namespace Go.Proofs.YtaklilhnikmmfaaGreat
open Go.RowKit StrM BlockM FileM DirM DiskM

theorem sub_some {g : Int → Option Value} {l : List E} {n : Int} {v : Value} (h : sub g l n = some v) : g n = some v ∧ ∃ e ∈ l, e.node = n := by
  unfold sub at h
  split at h
  · next hx =>
    rw [List.any_eq_true] at hx
    obtain ⟨e, he, hn⟩ := hx
    exact ⟨h, e, he, by simpa using hn⟩
  · cases h
theorem sub_of {g : Int → Option Value} {l : List E} {n : Int} (h : ∃ e ∈ l, e.node = n) : sub g l n = g n := by
  unfold sub
  rw [if_pos]
  rw [List.any_eq_true]
  obtain ⟨e, he, hn⟩ := h
  exact ⟨e, he, by simpa using hn⟩
theorem syn_now {d : DirM.D} (h : DirM.valid d = true) : DirM.syn d = ⟨d.now, d.now, []⟩ := by unfold DirM.syn; rw [if_pos h]
theorem enter_syncdir (cs : Array Value) (W : World) : (callFunc 57 cs).run Tryz.prog W = .ok (.enter 57 cs) W := enters_of Tryz.func57 (by kernel_rfl) rfl cs W

/-- What settle leaves, of a directory. -/
def SEnd (N p : Nat) (r : Raw) (g : Int → Option Value) (d : DirM.D) (w : World) (w' : World) : Prop :=
  ∃ m2 A B C, N ≤ m2 ∧ KBox w' p { r with N := A, S := B, V := C, m := m2 } ∧ SeesD w' (.agg #[A, B, C]) d ∧ MapAt w' m2 d.now.length (sub g d.now) ∧ Veer true N p w w'

/-- settle, of a directory. -/
theorem settle_dir (N p k : Nat) (r : Raw) (g : Int → Option Value) (v : Value) (d d0 : DirM.D) (w : World) (hK : KBox w p r) (h0 : SeesD w (.agg #[r.N, r.S, r.V]) d0) (hM : MapAt w r.m k g) (hN : N ≤ p) (hne : r.m ≠ p)
    (hd : SeesD w v d) (hf : d.now.length ≤ 100) (hg : ∀ e ∈ d.now, ∃ v, g e.node = some v) (hb : ∀ e ∈ d.now, 1 ≤ e.node ∧ e.node ≤ 1000000) :
    Calls Tryz.prog 42 #[.pointer (some ⟨p, 0, none⟩), v] w fun e w' => e = .returned (.tuple #[]) ∧ SEnd N p r g d w w' := by
  obtain ⟨A0, c0, A1, c1, A2, c2, rfl, s0, -⟩ := hd.slices
  refine (settle_any N p k r g d.now A0 A1 A2 _ c0 _ c1 _ c2 w hK hM hN hne s0 hf hg hb).mono ?_
  rintro e w' ⟨rfl, m2, hm2, hK2, hM2, hv⟩
  refine ⟨rfl, m2, _, _, _, Nat.le_trans hN (Nat.le_trans (Nat.le_of_lt hK.lt) hm2), hK2, hd.veer hv (hK.shell h0), hM2, hv.weak⟩

set_option maxHeartbeats 4000000 in
set_option maxRecDepth 100000 in
theorem syncdir1_any (N p k z : Nat) (r : Raw) (g : Int → Option Value) (d : DirM.D) (W : World) (hK : KBox W p r) (h0 : SeesD W (.agg #[r.N, r.S, r.V]) d) (hM : MapAt W r.m k g) (hN : N ≤ p) (hne : r.m ≠ p)
    (hv : DirM.valid d = true) (hp : d.pend.length ≤ 1000000) (hg : ∀ e ∈ d.now, ∃ v, g e.node = some v) (hb : ∀ e ∈ d.now, 1 ≤ e.node ∧ e.node ≤ 1000000) (hz : W.cell? ⟨z, 0, none⟩ = some (.pointer (some ⟨p, 0, none⟩))) :
    Calls Tryz.prog 57 #[.pointer (some ⟨z, 0, none⟩)] W fun e w' => e = .returned (.tuple #[]) ∧ SEnd N p r g (DirM.syn d) W w' := by
  have ed := syn_now hv
  have hf : (DirM.syn d).now.length ≤ 100 := by rw [ed]; exact (DirM.valid_now hv).few
  have SY := Lib.hid (fun W' (hB : Below W.heap.size W W') => dsync_any _ d W' (h0.later hB) hp)
  have SE := Lib.hid (fun W' v (hB : Below W.heap.size W W') (hs : SeesD W' v (DirM.syn d)) => (settle_dir N p k r g v (DirM.syn d) d W' (hK.later hB) (h0.later hB) (hM.later hB) hN hne hs hf (by rw [ed]; exact hg) (by rw [ed]; exact hb)).mono fun e w' ⟨he, m2, A, B, C, x1, x2, x3, x4, x5⟩ =>
    (show e = Ending.returned (.tuple #[]) ∧ SEnd N p r g (DirM.syn d) W w' from ⟨he, m2, A, B, C, x1, x2, x3, x4, (Veer.of_below hB (Nat.le_trans hN (Nat.le_of_lt hK.lt))).trans x5⟩))
  obtain ⟨⟨A0, n0, c0, f0⟩, ⟨A1, n1, c1, f1⟩, ⟨A2, n2, c2, f2⟩⟩ := h0.form
  have ZL := Lib.hid (fun W' (hB : Below W.heap.size W W') => (Veer.of_below (mp := true) (N := 0) (p := p) hB (Nat.zero_le _)).cell hz)
  have KX := Lib.hid (fun W' (hB : Below W.heap.size W W') => (hK.later hB).cells)
  have zp := Lib.hid hz
  unfold DPost at SY
  obtain ⟨room, N0, S0, V0, mm, last, ops, trip, stop, dn⟩ := r
  dsimp only at *
  subst f0 f1 f2
  have hzp : z ≠ p := by
    rintro rfl
    have := hK.cells.1
    rw [hz] at this
    cases this
  have HC := Lib.hid (show ∀ W', Below W.heap.size W W' → W'.cell? ⟨z, 0, none⟩ = some (.pointer (some ⟨p, 0, none⟩)) ∧ W'.cell? ⟨p, 1, none⟩ = some (.slice A0 n0 c0) ∧ W'.cell? ⟨p, 2, none⟩ = some (.slice A1 n1 c1) ∧ W'.cell? ⟨p, 3, none⟩ = some (.slice A2 n2 c2) from fun W' hB => ⟨ZL.out W' hB hzp, (KX.out W' hB).2.1, (KX.out W' hB).2.2.1, (KX.out W' hB).2.2.2.1⟩)
  have KD : Below W.heap.size W W.drew := below_drew _ (Nat.le_refl _)
  clear hK h0 hM hN hne hv hp hg hb hz hf ed ZL KX zp hzp
  obtain ⟨x0, x1, x2, x3⟩ := HC.out _ (Below.refl _ _)
  go_enter Tryz.func57, Tryz.ntmps57
  go_wp2_with fail
  go_region_with (first
      | (go_at_call 58; (with_reducible refine (SY.out _ (by first | exact KD | exact Below.refl _ _)).mono ?_); rintro e w2 ⟨v2, rfl, s2, b2⟩; have k2 : Below W.heap.size W w2 := KD.trans b2; obtain ⟨x0, x1, x2, x3⟩ := HC.out _ k2)
      | (go_at_call 42; (with_reducible refine (SE.out _ _ k2 s2).mono ?_); rintro e w3 ⟨rfl, h3⟩))
  all_goals exact bodyPost_end (results_none rfl _ _ _) rfl ⟨rfl, h3⟩

/-- A disk whose directory was replaced by a synced one. -/
theorem Held.settled {w w' : World} {N p i i' k m2 : Nat} {s s' : S} {r r' : Raw} {g : Int → Option Value} {A B C : Value} {l : List E} (h : Held w N p i s r k g) (hI : Inv i s) (hm2 : N ≤ m2) (hi : i ≤ i')
    (hb : KBox w' p { r' with N := A, S := B, V := C, m := m2 }) (hd : SeesD w' (.agg #[A, B, C]) ⟨l, l, []⟩) (hM : MapAt w' m2 l.length (sub g l)) (hv : Veer true N p w w') (hf : l.length ≤ 100) (ha : ∀ e ∈ l, alive s.dir e.node)
    (e1 : s'.dir = ⟨l, l, []⟩) (e2 : s'.files = s.files) (e3 : r'.room = s'.room) (e4 : r'.last = r.last) (e5 : r'.ops = s'.ops) (e6 : r'.trip = s'.trip) (e7 : r'.stop = s'.stop) (e8 : r'.down = s'.down) :
    Held w' N p i' s' { r' with N := A, S := B, V := C, m := m2 } l.length (sub g l) := by
  refine { box := hb, room := e3, last := by rw [e2, ← h.last]; exact e4, ops := e5, trip := e6, stop := e7, down := e8, dir := by rw [e1]; exact hd, map := hM, few := by omega, some := ?_, file := ?_, baseP := h.baseP, baseM := hm2 }
  · intro n hn
    rw [e1, same_alive] at hn
    obtain ⟨e, he, rfl⟩ := hn
    rw [sub_of ⟨e, he, rfl⟩]
    exact h.some _ (ha e he)
  · intro n v hn
    obtain ⟨hg, _⟩ := sub_some hn
    rw [e2]
    obtain ⟨h1, h2, h3⟩ := h.file n v hg
    exact ⟨h1, h2, h3.veer (fl_valid hI.fine n) hv h.shell⟩

theorem Held.nodes {w : World} {N p i k : Nat} {s : S} {r : Raw} {g : Int → Option Value} (h : Held w N p i s r k g) (hI : Inv i s) (hi : i ≤ 100) {l : List E} (ha : ∀ e ∈ l, alive s.dir e.node) : (∀ e ∈ l, ∃ v, g e.node = Option.some v) ∧ ∀ e ∈ l, 1 ≤ e.node ∧ e.node ≤ 1000000 := by
  refine ⟨fun e he => Option.isSome_iff_exists.1 (h.some _ (ha e he)), fun e he => ?_⟩
  have := hI.nodes _ (ha e he)
  have := hI.few
  omega

theorem syncdir_perf {w w3 : World} {N p i k : Nat} {s : S} {r : Raw} {g : Int → Option Value} {b : Nat} (h : Held w N p i s r k g) (hI : Inv i s) (hi : i ≤ 100) (hd : r.down = false)
    (hb : Below w.heap.size w w3) (hy : Blk w3 b #[.pointer (some ⟨p, 0, none⟩)] 25) (hbp : b ≠ p) :
    Calls Tryz.prog 49 #[.pointer (some ⟨p, 0, none⟩), .func (.func 57) #[] #[.pointer (some ⟨b, 0, none⟩)]] w3 (KEnd N p (i + 1) (hit s) (if hit s = 0 then { ticked s with dir := DirM.syn s.dir } else ticked s) w) := by
  have h3 := h.later hb
  have hV : Veer true N p w w3 := Veer.of_below hb h.baseW
  obtain ⟨a1, a2, a3, a4⟩ := h3.perf hI hi
  have ha := now_alive hI.dirs
  obtain ⟨g1, g2⟩ := h3.nodes hI hi ha
  refine (perform_any p r _ _ w3 (fun w' => CD N p (i + 1) { ticked s with dir := DirM.syn s.dir } w' ∧ Veer true N p w w') h3.box a1 a2 a3 a4 (enter_syncdir _) fun hst _ W hW hv => ?_).mono fun e w' hp => PerfEnd.done h3 hI hd hV hp
  have hM : MapAt W (tickR r).m k g := h3.map.veer hv h3.ne
  have hD : SeesD W (.agg #[(tickR r).N, (tickR r).S, (tickR r).V]) s.dir := h3.dir.veer hv h3.shell
  refine (syncdir1_any N p k b (tickR r) g s.dir W hW hD hM h.baseP h3.ne hI.dirs (by have := hI.pend; omega) g1 g2 (hv.cell (hy.cell rfl) hbp)).mono ?_
  rintro e w' ⟨rfl, m2, A, B, C, x1, x2, x3, x4, x5⟩
  have e1 := syn_now hI.dirs
  rw [e1] at x3 x4
  have hv3 : Veer true N p w3 w' := ((hv.mono h.baseP).weak).trans x5
  refine ⟨rfl, ⟨_, _, _, h3.settled hI x1 (Nat.le_succ i) x2 x3 x4 hv3 (DirM.valid_now hI.dirs).few ha (by show DirM.syn s.dir = _; rw [e1]) rfl h.room rfl ?_ ?_ ?_ ?_⟩, hV.trans hv3⟩
  · show r.ops + 1 = s.ops + 1
    rw [h.ops]
  · show tick r.trip = tick s.trip
    rw [h.trip]
  · show tick r.stop = tick s.stop
    rw [h.stop]
  · show r.down = decide (s.stop = 1)
    rw [hd, ← h.stop]; simp [hst]

set_option maxHeartbeats 2000000 in
set_option maxRecDepth 100000 in
theorem syncdir_any (N p i : Nat) (s : S) (w : World) (h : CD N p i s w) (hI : Inv i s) (hi : i ≤ 100) :
    Calls Tryz.prog 26 #[.pointer (some ⟨p, 0, none⟩)] w (KEnd N p (i + 1) (syncDE s) (syncDS s) w) := by
  obtain ⟨r, k, g, H⟩ := h
  have B0 := Lib.hid ((Below.refl w.heap.size w).alloc (Nat.le_refl _) (.cells #[.pointer (some ⟨p, 0, none⟩)] 25))
  have Y0 := Lib.hid (Blk.made w #[.pointer (some ⟨p, 0, none⟩)] 25)
  have H0 := Lib.hid (H.later B0.out)
  have HP := Lib.hid (show p < w.heap.size from H.box.lt)
  have HN := Lib.hid H.baseW
  have DN := Lib.hid H.down
  have HH := Lib.hid H
  have HI := Lib.hid hI
  obtain ⟨q1, q2, q3, q4⟩ := H.perf hI hi
  have AT := Lib.hid (fun hd => attempt_down p r _ H0.out.box hd q1 q2)
  have AU := Lib.hid (fun hd => attempt_up p r _ H0.out.box hd)
  clear H hI q1 q2 q3 q4
  cases hd : r.down with
  | true =>
    have AV := Lib.hid (AT.out hd)
    have HE := Lib.hid (show KEnd N p (i + 1) (syncDE s) (syncDS s) w (.returned (.int .i64 9)) _ from by
      have e : s.down = true := by rw [← DN.out]; exact hd
      rw [syncDE, syncDS, if_pos e, if_pos e]
      exact KEnd.down H0.out HI.out B0.out HN.out)
    clear AU AT hd
    go_enter Tryz.func26, Tryz.ntmps26
    go_wp2_with fail
    refine AV.out.mono ?_
    rintro e w1 ⟨rfl, rfl⟩
    generalize World.setCell _ ⟨p, 6, none⟩ _ = w2 at *
    go_wp2_with fail
    go_ret
    exact HE.out
  | false =>
    have AV := Lib.hid (AU.out hd)
    have DF := Lib.hid (show s.down = false by rw [← DN.out]; exact hd)
    have RP := Lib.hid (syncdir_perf HH.out HI.out hi hd B0.out Y0.out (by have := HP.out; omega))
    have RQ := Lib.hid (show Calls Tryz.prog _ _ _ (KEnd N p (i + 1) (syncDE s) (syncDS s) w) from by
      have := RP.out
      rw [syncDE, syncDS, DF.out]
      exact this)
    clear AT AU hd DN H0 RP
    go_enter Tryz.func26, Tryz.ntmps26
    go_wp2_with fail
    refine AV.out.mono ?_
    rintro e w1 ⟨rfl, rfl⟩
    have y0 := Y0.out.cell (i := 0) rfl
    generalize World.alloc _ _ = w0 at *
    clear AV
    go_wp2_with fail
    refine RQ.out.mono ?_
    rintro e w4 ⟨rfl, hk4⟩
    have HK4 := Lib.hid hk4
    clear hk4 RQ
    go_wp2_with fail
    go_ret
    exact ⟨rfl, HK4.out⟩
end Go.Proofs.YtaklilhnikmmfaaGreat
