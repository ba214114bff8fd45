/-
  What a disk in memory is behind each of the things that may be done to it.
-/
import Derived.Test.YtaklilhnikmmfaaGreatDiskHeld
namespace Go.Proofs.YtaklilhnikmmfaaGreat
open Go.RowKit StrM BlockM FileM DirM DiskM

/-- What a method that counts returns. -/
def KEnd (N p i : Nat) (er : Int) (s' : S) (w : World) (e : Ending) (w' : World) : Prop := e = .returned (.int .i64 er) ∧ CD N p i s' w' ∧ Veer true N p w w'

theorem Held.turned {w w' : World} {N p i i' k : Nat} {s s' : S} {r r' : Raw} {g : Int → Option Value} (h : Held w N p i s r k g) (hv : ∀ f ∈ s.files, FileM.valid f = true) (ht : Veer false N p w w') (hb : KBox w' p r')
    (e0 : r'.N = r.N) (e1 : r'.S = r.S) (e2 : r'.V = r.V) (e3 : r'.m = r.m) (e4 : r'.last = r.last) (e5 : s'.dir = s.dir) (e6 : s'.files = s.files)
    (e7 : r'.room = s'.room) (e8 : r'.ops = s'.ops) (e9 : r'.trip = s'.trip) (e10 : r'.stop = s'.stop) (e11 : r'.down = s'.down) (hi : i ≤ i') : Held w' N p i' s' r' k g := by
  have hs := h.shell
  refine { box := hb, room := e7, last := by rw [e4, e6]; exact h.last, ops := e8, trip := e9, stop := e10, down := e11, dir := ?_, map := ?_, few := by have := h.few; omega, some := by rw [e5]; exact h.some, file := ?_, baseP := h.baseP, baseM := by rw [e3]; exact h.baseM }
  · rw [e0, e1, e2, e5]; exact h.dir.veer ht hs
  · rw [e3]; exact h.map.veer ht h.ne
  · rw [e6]
    intro n v hn
    obtain ⟨h1, h2, h3⟩ := h.file n v hn
    exact ⟨h1, h2, h3.veer (fl_valid hv n) ht hs⟩

theorem Held.low {w : World} {N p i k : Nat} {s : S} {r : Raw} {g : Int → Option Value} (h : Held w N p i s r k g) (hv : ∀ f ∈ s.files, FileM.valid f = true) : CD N p (i + 1) (low s) (w.setCell ⟨p, 6, none⟩ (.int .i64 (r.ops + 1))) :=
  ⟨_, k, g, h.turned hv ((Veer.refl _ _ _ _).set h.baseP 6 _) (h.box.setOps _) rfl rfl rfl rfl rfl rfl rfl h.room (by rw [h.ops]; rfl) h.trip h.stop h.down (Nat.le_succ i)⟩
theorem Held.stopped {w w' : World} {N p i k : Nat} {s : S} {r : Raw} {g : Int → Option Value} (h : Held w N p i s r k g) (hv : ∀ f ∈ s.files, FileM.valid f = true) (hs : r.stop = 1) (hb : KBox w' p { tickR r with down := true }) (ht : Veer false p p w w') : CD N p (i + 1) (ticked s) w' :=
  ⟨_, k, g, h.turned hv (ht.mono h.baseP) hb rfl rfl rfl rfl rfl rfl rfl h.room (by rw [ticked, ← h.ops]; rfl) (by rw [ticked, ← h.trip]; rfl) (by rw [ticked, ← h.stop]; rfl) (by simp [ticked, ← h.stop, hs]) (Nat.le_succ i)⟩
theorem Held.tripped {w w' : World} {N p i k : Nat} {s : S} {r : Raw} {g : Int → Option Value} (h : Held w N p i s r k g) (hv : ∀ f ∈ s.files, FileM.valid f = true) (hd : r.down = false) (hs : ¬ r.stop = 1) (hb : KBox w' p (tickR r)) (ht : Veer false p p w w') : CD N p (i + 1) (ticked s) w' :=
  ⟨_, k, g, h.turned hv (ht.mono h.baseP) hb rfl rfl rfl rfl rfl rfl rfl h.room (by rw [ticked, ← h.ops]; rfl) (by rw [ticked, ← h.trip]; rfl) (by rw [ticked, ← h.stop]; rfl) (by simp [ticked, ← h.stop, hs, tickR, hd]) (Nat.le_succ i)⟩
theorem CD.mono {N p i j : Nat} {s : S} {w : World} (h : CD N p i s w) (hij : i ≤ j) : CD N p j s w := by
  obtain ⟨r, k, g, h⟩ := h
  exact ⟨r, k, g, { h with few := by have := h.few; omega }⟩

theorem fl_app {fs : List Fl} {f : Fl} {n : Int} (h1 : 1 ≤ n) (h2 : n ≤ (fs.length : Int)) : fl (fs ++ [f]) n = fl fs n := by
  unfold fl
  rw [List.getD_eq_getElem?_getD, List.getD_eq_getElem?_getD, List.getElem?_append_left (by omega)]
theorem fl_new (fs : List Fl) (f : Fl) : fl (fs ++ [f]) ((fs.length : Int) + 1) = f := by
  unfold fl
  rw [show ((fs.length : Int) + 1).toNat - 1 = fs.length by omega]
  simp [List.getD]
theorem fl_set {fs : List Fl} {f : Fl} {n : Int} (h1 : 1 ≤ n) (h2 : n ≤ (fs.length : Int)) : fl (fs.set (n.toNat - 1) f) n = f := by
  unfold fl
  rw [List.getD_eq_getElem?_getD, List.getElem?_set_self (by omega)]; rfl
theorem fl_other {fs : List Fl} {f : Fl} {n m : Int} (h1 : 1 ≤ n) (h2 : 1 ≤ m) (h : m ≠ n) : fl (fs.set (n.toNat - 1) f) m = fl fs m := by
  unfold fl
  rw [List.getD_eq_getElem?_getD, List.getD_eq_getElem?_getD, List.getElem?_set_ne (by omega)]

/-- A new node has come. -/
theorem Held.linked {w w1 w' : World} {N p i k : Nat} {s : S} {r : Raw} {g : Int → Option Value} {A B C : Value} {o : O} (h : Held w N p i s r k g) (hv : ∀ f ∈ s.files, FileM.valid f = true) (hk : o.kind = 1) (he : doE s.dir (opOf s o) = 0)
    (hd : r.down = false) (hst : ¬ r.stop = 1) (hb1 : Below w.heap.size w w1) (hD : SeesD w1 (.agg #[A, B, C]) (doD s.dir (opOf s o))) (ht : Veer true N p w1 w')
    (hb : KBox w' p { tickR r with N := A, S := B, V := C, last := r.last + 1 }) (hm : MapAt w' r.m (k + 1) (upd g (r.last + 1) zF)) : CD N p (i + 1) (grown s o) w' := by
  have h1 := h.later hb1
  have hs := h1.shell
  have hl := h.last
  refine ⟨_, k + 1, _, { box := hb, room := h.room, last := ?_, ops := ?_, trip := ?_, stop := ?_, down := ?_, dir := hD.veer ht hs, map := hm, few := by have := h.few; omega, some := ?_, file := ?_, baseP := h.baseP, baseM := h.baseM }⟩
  · show r.last + 1 = ((if o.kind = 1 then s.files ++ [zf] else s.files).length : Int)
    rw [if_pos hk, hl]; simp
  · show r.ops + 1 = s.ops + 1
    rw [h.ops]
  · show tick r.trip = tick s.trip
    rw [h.trip]
  · show tick r.stop = tick s.stop
    rw [h.stop]
  · show r.down = decide (s.stop = 1)
    rw [hd, ← h.stop]; simp [hst]
  · intro n hn
    have hn : alive (doD s.dir (opOf s o)) n := hn
    unfold upd
    rcases do_alive he hn with ha | ⟨_, hx⟩
    · split
      · rfl
      · exact h.some n ha
    · rw [if_pos]
      · rfl
      · rw [← hx, opOf, if_pos hk, hl]
  · intro n v hn
    show 1 ≤ n ∧ n ≤ ((if o.kind = 1 then s.files ++ [zf] else s.files).length : Int) ∧ SeesG w' v (fl (if o.kind = 1 then s.files ++ [zf] else s.files) n)
    rw [if_pos hk]
    unfold upd at hn
    split at hn
    · next e =>
      cases hn
      rw [e, hl, fl_new]
      refine ⟨by omega, by simp, SeesG.zero w'⟩
    · obtain ⟨k1, k2, k3⟩ := h1.file n v hn
      rw [fl_app k1 k2]
      exact ⟨k1, by simp; omega, k3.veer (fl_valid hv n) ht hs⟩
/-- Something else was done to the directory. -/
theorem Held.renamed {w w1 w' : World} {N p i k : Nat} {s : S} {r : Raw} {g : Int → Option Value} {A B C : Value} {o : O} (h : Held w N p i s r k g) (hv : ∀ f ∈ s.files, FileM.valid f = true) (hk : ¬ o.kind = 1) (he : doE s.dir (opOf s o) = 0)
    (hd : r.down = false) (hst : ¬ r.stop = 1) (hb1 : Below w.heap.size w w1) (hD : SeesD w1 (.agg #[A, B, C]) (doD s.dir (opOf s o))) (ht : Veer false N p w1 w')
    (hb : KBox w' p { tickR r with N := A, S := B, V := C }) : CD N p (i + 1) (grown s o) w' := by
  have h1 := h.later hb1
  have hs := h1.shell
  refine ⟨_, k, _, { box := hb, room := h.room, last := ?_, ops := ?_, trip := ?_, stop := ?_, down := ?_, dir := hD.veer ht hs, map := h1.map.veer ht h1.ne, few := by have := h.few; omega, some := ?_, file := ?_, baseP := h.baseP, baseM := h.baseM }⟩
  · show r.last = ((if o.kind = 1 then s.files ++ [zf] else s.files).length : Int)
    rw [if_neg hk, h.last]
  · show r.ops + 1 = s.ops + 1
    rw [h.ops]
  · show tick r.trip = tick s.trip
    rw [h.trip]
  · show tick r.stop = tick s.stop
    rw [h.stop]
  · show r.down = decide (s.stop = 1)
    rw [hd, ← h.stop]; simp [hst]
  · intro n hn
    have hn : alive (doD s.dir (opOf s o)) n := hn
    rcases do_alive he hn with ha | ⟨hx, _⟩
    · exact h.some n ha
    · unfold opOf at hx
      rw [if_neg hk] at hx
      exact absurd hx hk
  · intro n v hn
    show 1 ≤ n ∧ n ≤ ((if o.kind = 1 then s.files ++ [zf] else s.files).length : Int) ∧ SeesG w' v (fl (if o.kind = 1 then s.files ++ [zf] else s.files) n)
    rw [if_neg hk]
    obtain ⟨k1, k2, k3⟩ := h1.file n v hn
    exact ⟨k1, k2, k3.veer (fl_valid hv n) ht hs⟩
/-- A file was altered. -/
theorem Held.altered {w w1 w' : World} {N p i k : Nat} {s : S} {r : Raw} {g : Int → Option Value} {u : Value} {f : Fl} {nm : ByteArray} (h : Held w N p i s r k g) (hv : ∀ f ∈ s.files, FileM.valid f = true) (n1 : 1 ≤ node s nm) (n2 : node s nm ≤ (s.files.length : Int))
    (hd : r.down = false) (hst : ¬ r.stop = 1) (hb1 : Below w.heap.size w w1) (hf : FileM.valid f = true) (hF : SeesG w1 u f) (ht : Veer true N p w1 w')
    (hb : KBox w' p (tickR r)) (hm : MapAt w' r.m (k + 1) (upd g (node s nm) u)) : CD N p (i + 1) (setF s nm f) w' := by
  have h1 := h.later hb1
  have hs := h1.shell
  refine ⟨_, k + 1, _, { box := hb, room := h.room, last := ?_, ops := ?_, trip := ?_, stop := ?_, down := ?_, dir := h1.dir.veer ht hs, map := hm, few := by have := h.few; omega, some := ?_, file := ?_, baseP := h.baseP, baseM := h.baseM }⟩
  · show r.last = ((s.files.set _ f).length : Int)
    rw [List.length_set, h.last]
  · show r.ops + 1 = s.ops + 1
    rw [h.ops]
  · show tick r.trip = tick s.trip
    rw [h.trip]
  · show tick r.stop = tick s.stop
    rw [h.stop]
  · show r.down = decide (s.stop = 1)
    rw [hd, ← h.stop]; simp [hst]
  · intro n hn
    unfold upd
    split
    · rfl
    · exact h.some n hn
  · intro n v hn
    show 1 ≤ n ∧ n ≤ ((s.files.set ((node s nm).toNat - 1) f).length : Int) ∧ SeesG w' v (fl (s.files.set ((node s nm).toNat - 1) f) n)
    rw [List.length_set]
    unfold upd at hn
    split at hn
    · next e =>
      cases hn
      rw [e, fl_set n1 n2]
      exact ⟨n1, n2, hF.veer hf ht hs⟩
    · next e =>
      obtain ⟨k1, k2, k3⟩ := h1.file n v hn
      rw [fl_other n1 k1 e]
      exact ⟨k1, k2, k3.veer (fl_valid hv n) ht hs⟩
end Go.Proofs.YtaklilhnikmmfaaGreat
