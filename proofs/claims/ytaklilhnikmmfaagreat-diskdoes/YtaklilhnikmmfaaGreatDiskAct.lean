/-
  perform with the function literals of rename, Create and alter.
-/
import Derived.Test.YtaklilhnikmmfaaGreatDiskKept
namespace Go.Proofs.YtaklilhnikmmfaaGreat
open Go.RowKit StrM BlockM FileM DirM DiskM

/-- A block that is known whole. -/
def Blk (w : World) (q : Nat) (cs : Array Value) (t : TypeId) : Prop := w.heap[q]? = some (.cells cs t (0, 0))
theorem Blk.made (w : World) (cs : Array Value) (t : TypeId) : Blk (w.alloc (.cells cs t)) w.heap.size cs t := heap_alloc_new w _
theorem Blk.lt {w : World} {q : Nat} {cs : Array Value} {t : TypeId} (h : Blk w q cs t) : q < w.heap.size := (Array.getElem?_eq_some_iff.1 h).1
theorem Blk.later {w w' : World} {q : Nat} {cs : Array Value} {t : TypeId} (h : Blk w q cs t) (hb : Below w.heap.size w w') : Blk w' q cs t := by
  have := hb.block q h.lt
  unfold Blk at h ⊢
  rw [this]; exact h
theorem Blk.cell {w : World} {q : Nat} {cs : Array Value} {t : TypeId} (h : Blk w q cs t) {i : Nat} {v : Value} (hi : cs[i]? = some v) : w.cell? ⟨q, i, none⟩ = some v := by
  unfold Blk at h
  rw [cell_of_row w q _ _ _ (0, 0) h, hi]
theorem Blk.soft {w : World} {q : Nat} {cs : Array Value} {t : TypeId} (h : Blk w q cs t) (i : Nat) : w.frozen? ⟨q, i, none⟩ = false := by
  unfold Blk at h
  simp [World.frozen?, h]

theorem SeesD.form {w : World} {A B C : Value} {d : DirM.D} (h : SeesD w (.agg #[A, B, C]) d) : (∃ a b c, A = .slice a b c) ∧ (∃ a b c, B = .slice a b c) ∧ (∃ a b c, C = .slice a b c) := by
  obtain ⟨A0, c0, A1, c1, A2, c2, e, -⟩ := h.slices
  injection e with e
  injection e with e
  injection e with e0 e
  injection e with e1 e
  injection e with e2 e
  exact ⟨⟨_, _, _, e0⟩, ⟨_, _, _, e1⟩, ⟨_, _, _, e2⟩⟩
theorem enter_rename (cs : Array Value) (W : World) : (callFunc 84 cs).run Tryz.prog W = .ok (.enter 84 cs) W := enters_of Tryz.func84 (by kernel_rfl) rfl cs W
theorem enter_create (cs : Array Value) (W : World) : (callFunc 50 cs).run Tryz.prog W = .ok (.enter 50 cs) W := enters_of Tryz.func50 (by kernel_rfl) rfl cs W
theorem enter_alter (cs : Array Value) (W : World) : (callFunc 81 cs).run Tryz.prog W = .ok (.enter 81 cs) W := enters_of Tryz.func81 (by kernel_rfl) rfl cs W

/-- From what perform returns. -/
theorem PerfEnd.done {w w3 w' : World} {e : Ending} {N p i k : Nat} {s s' : S} {r : Raw} {g : Int → Option Value} (h : Held w3 N p i s r k g) (hI : Inv i s) (hd : r.down = false) (ht : Veer true N p w w3)
    (hp : PerfEnd p r (fun w' => CD N p (i + 1) s' w' ∧ Veer true N p w w') w3 e w') : KEnd N p (i + 1) (hit s) (if hit s = 0 then s' else ticked s) w e w' := by
  obtain ⟨h1, h2, h3⟩ := hp
  by_cases hs : r.stop = 1
  · obtain ⟨rfl, hb, hv⟩ := h1 hs
    have e1 : hit s = 9 := hit_stop (by rw [← h.stop]; exact hs)
    rw [e1]
    exact ⟨rfl, h.stopped hI.fine hs hb hv, ht.trans (hv.mono h.baseP).weak⟩
  · by_cases htr : r.trip = 1
    · obtain ⟨rfl, hb, hv⟩ := h2 hs htr
      have e1 : hit s = 8 := hit_trip (by rw [← h.stop]; exact hs) (by rw [← h.trip]; exact htr)
      rw [e1]
      exact ⟨rfl, h.tripped hI.fine hd hs hb hv, ht.trans (hv.mono h.baseP).weak⟩
    · obtain ⟨rfl, hc, hv⟩ := h3 hs htr
      have e1 : hit s = 0 := hit_none (by rw [← h.stop]; exact hs) (by rw [← h.trip]; exact htr)
      rw [e1]
      exact ⟨rfl, hc, hv⟩
theorem Held.perf {w3 : World} {N p i k : Nat} {s : S} {r : Raw} {g : Int → Option Value} (h : Held w3 N p i s r k g) (hI : Inv i s) (hi : i ≤ 100) : 0 ≤ r.ops ∧ r.ops ≤ 1000000 ∧ r.trip ≤ 9223372036854775807 ∧ r.stop ≤ 9223372036854775807 := by
  rw [h.ops, h.trip, h.stop]
  have := hI.ops0
  have := hI.opsI
  exact ⟨by omega, by omega, hI.trip1, hI.stop1⟩
theorem Held.baseW {w3 : World} {N p i k : Nat} {s : S} {r : Raw} {g : Int → Option Value} (h : Held w3 N p i s r k g) : N ≤ w3.heap.size := Nat.le_trans h.baseP (Nat.le_of_lt h.box.lt)

theorem rename_perf {w w3 : World} {N p i k : Nat} {s : S} {r : Raw} {g : Int → Option Value} {o : O} {q b : Nat} {A B C : Value} (h : Held w N p i s r k g) (hI : Inv i s) (hi : i ≤ 100) (hd : r.down = false)
    (hk : ¬ o.kind = 1) (he : doE s.dir (opOf s o) = 0) (hb : Below w.heap.size w w3) (hD : SeesD w3 (.agg #[A, B, C]) (doD s.dir (opOf s o)))
    (hq : Blk w3 q #[A, B, C] 32) (hy : Blk w3 b #[.pointer (some ⟨p, 0, none⟩)] 25) (hqp : q ≠ p) (hbp : b ≠ p) :
    Calls Tryz.prog 49 #[.pointer (some ⟨p, 0, none⟩), .func (.func 84) #[] #[.pointer (some ⟨q, 0, none⟩), .pointer (some ⟨b, 0, none⟩)]] w3 (KEnd N p (i + 1) (hit s) (if hit s = 0 then grown s o else ticked s) w) := by
  have h3 := h.later hb
  have hV : Veer true N p w w3 := Veer.of_below hb h.baseW
  obtain ⟨a1, a2, a3, a4⟩ := h3.perf hI hi
  obtain ⟨fA, fB, fC⟩ := hD.form
  refine (perform_any p r _ _ w3 (fun w' => CD N p (i + 1) (grown s o) w' ∧ Veer true N p w w') h3.box a1 a2 a3 a4 (enter_rename _) fun hst _ W hW hv => ?_).mono fun e w' hp => PerfEnd.done h3 hI hd hV hp
  refine (rename1_any q b p A B C (tickR r) W N hW h.baseP (hv.cell (hq.cell rfl) hqp) (hv.cell (hq.cell rfl) hqp) (hv.cell (hq.cell rfl) hqp) (hv.cell (hy.cell rfl) hbp) fA fB fC).mono ?_
  rintro e w' ⟨rfl, -, hK, hv2⟩
  have hv3 := (hv.mono h.baseP).trans hv2
  exact ⟨rfl, h.renamed hI.fine hk he hd hst hb hD hv3 hK, hV.trans hv3.weak⟩

theorem create_perf {w w3 : World} {N p i k : Nat} {s : S} {r : Raw} {g : Int → Option Value} {o : O} {q b z : Nat} {A B C : Value} (h : Held w N p i s r k g) (hI : Inv i s) (hi : i ≤ 100) (hd : r.down = false)
    (hk : o.kind = 1) (he : doE s.dir (opOf s o) = 0) (hb : Below w.heap.size w w3) (hD : SeesD w3 (.agg #[A, B, C]) (doD s.dir (opOf s o)))
    (hq : Blk w3 q #[A, B, C] 32) (hy : Blk w3 b #[.pointer (some ⟨p, 0, none⟩)] 25) (hz : Blk w3 z #[.int .i64 (r.last + 1)] 3) (hqp : q ≠ p) (hbp : b ≠ p) (hzp : z ≠ p) :
    Calls Tryz.prog 49 #[.pointer (some ⟨p, 0, none⟩), .func (.func 50) #[] #[.pointer (some ⟨q, 0, none⟩), .pointer (some ⟨b, 0, none⟩), .pointer (some ⟨z, 0, none⟩)]] w3 (KEnd N p (i + 1) (hit s) (if hit s = 0 then grown s o else ticked s) w) := by
  have h3 := h.later hb
  have hV : Veer true N p w w3 := Veer.of_below hb h.baseW
  obtain ⟨a1, a2, a3, a4⟩ := h3.perf hI hi
  obtain ⟨fA, fB, fC⟩ := hD.form
  have hl := h.last
  have hfew := hI.few
  have hkk := h.few
  refine (perform_any p r _ _ w3 (fun w' => CD N p (i + 1) (grown s o) w' ∧ Veer true N p w w') h3.box a1 a2 a3 a4 (enter_create _) fun hst _ W hW hv => ?_).mono fun e w' hp => PerfEnd.done h3 hI hd hV hp
  have hM : MapAt W (tickR r).m k g := h3.map.veer hv h3.ne
  refine (create1_any q b z p k A B C (r.last + 1) (tickR r) g W N hW hM h3.ne h.baseP h.baseM (hv.cell (hq.cell rfl) hqp) (hv.cell (hq.cell rfl) hqp) (hv.cell (hq.cell rfl) hqp) (hv.cell (hy.cell rfl) hbp) (hv.cell (hz.cell rfl) hzp) hbp hzp fA fB fC (by omega) (by omega) (by omega)).mono ?_
  rintro e w' ⟨rfl, hK, hM2, hv2⟩
  have hv3 : Veer true N p w3 w' := ((hv.mono h.baseP).weak).trans hv2
  exact ⟨rfl, h.linked hI.fine hk he hd hst hb hD hv3 hK hM2, hV.trans hv3⟩

theorem alter_perf {w w3 : World} {N p i k : Nat} {s : S} {r : Raw} {g : Int → Option Value} {nm : ByteArray} {f : Fl} {q b z : Nat} {A B C : Value} (h : Held w N p i s r k g) (hI : Inv i s) (hi : i ≤ 100) (hd : r.down = false)
    (hh : has s.dir.now nm = true) (hf : FileM.valid f = true) (hb : Below w.heap.size w w3) (hF : SeesG w3 (.agg #[A, B, C]) f)
    (hq : Blk w3 q #[A, B, C] 70) (hy : Blk w3 b #[.pointer (some ⟨p, 0, none⟩)] 25) (hz : Blk w3 z #[.int .i64 (node s nm)] 3) (hqp : q ≠ p) (hbp : b ≠ p) (hzp : z ≠ p) :
    Calls Tryz.prog 49 #[.pointer (some ⟨p, 0, none⟩), .func (.func 81) #[] #[.pointer (some ⟨q, 0, none⟩), .pointer (some ⟨b, 0, none⟩), .pointer (some ⟨z, 0, none⟩)]] w3 (KEnd N p (i + 1) (hit s) (if hit s = 0 then setF s nm f else ticked s) w) := by
  have h3 := h.later hb
  have hV : Veer true N p w w3 := Veer.of_below hb h.baseW
  obtain ⟨a1, a2, a3, a4⟩ := h3.perf hI hi
  obtain ⟨n1, n2⟩ := hI.node hh
  have hfew := hI.few
  have hkk := h.few
  refine (perform_any p r _ _ w3 (fun w' => CD N p (i + 1) (setF s nm f) w' ∧ Veer true N p w w') h3.box a1 a2 a3 a4 (enter_alter _) fun hst _ W hW hv => ?_).mono fun e w' hp => PerfEnd.done h3 hI hd hV hp
  have hM : MapAt W (tickR r).m k g := h3.map.veer hv h3.ne
  refine (alter1_any q b z p k A B C (node s nm) (tickR r) g W N hW hM h3.ne h.baseP h.baseM (hv.cell (hq.cell rfl) hqp) (hv.cell (hq.cell rfl) hqp) (hv.cell (hq.cell rfl) hqp) (hv.cell (hy.cell rfl) hbp) (hv.cell (hz.cell rfl) hzp) (by omega) (by omega) (by omega)).mono ?_
  rintro e w' ⟨rfl, hK, hM2, hv2⟩
  have hv3 : Veer true N p w3 w' := ((hv.mono h.baseP).weak).trans hv2
  exact ⟨rfl, h.altered hI.fine n1 n2 hd hst hb hf hF hv3 hK hM2, hV.trans hv3⟩
end Go.Proofs.YtaklilhnikmmfaaGreat
