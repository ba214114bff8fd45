/-
  Layer 11's mathematics: disks, what is done to them, what a reboot leaves.
-/
import Derived.Test.YtaklilhnikmmfaaGreatJFileB
import Derived.Test.YtaklilhnikmmfaaGreatJDirC
namespace DiskM
open DirM FileM BlockM
open Go.Proofs.YtaklilhnikmmfaaGreat (pErr pList OkO)

/-! ### The nodes of a directory -/
/-- A node that has a name, or may have one behind a crash. -/
def alive (d : DirM.D) (n : Int) : Prop := (∃ e ∈ d.sure, e.node = n) ∨ ∃ o ∈ d.pend, o.kind = 1 ∧ o.node = n

theorem done_node {l : List E} {o : O} (he : err l o = 0) : ∀ e ∈ done l o, (∃ x ∈ l, x.node = e.node) ∨ (o.kind = 1 ∧ o.node = e.node) := by
  intro e h
  rcases err_kinds he with ⟨hk, _⟩ | ⟨hk, h1, _⟩ | ⟨hk, _⟩
  · rw [done, if_pos hk] at h
    rcases mem_wi.1 h with rfl | h
    · exact .inr ⟨hk, rfl⟩
    · exact .inl ⟨e, h, rfl⟩
  · rw [done, if_neg (by omega), if_pos hk] at h
    rcases mem_wi.1 h with rfl | h
    · obtain ⟨k, hk, _, hn, _⟩ := av_has h1
      exact .inl ⟨_, List.getElem_mem hk, hn⟩
    · exact .inl ⟨e, (mem_wo.1 (mem_wo.1 h).1).1, rfl⟩
  · rw [done, if_neg (by omega), if_neg (by omega)] at h
    exact .inl ⟨e, (mem_wo.1 h).1, rfl⟩
theorem all_node : ∀ (os : List O) (l : List E), (all l os).2 = 0 → ∀ e ∈ (all l os).1, (∃ x ∈ l, x.node = e.node) ∨ ∃ o ∈ os, o.kind = 1 ∧ o.node = e.node
  | [], l, _ => fun e h => .inl ⟨e, h, rfl⟩
  | o :: r, l, h0 => by
    intro e h
    unfold all at h0 h
    by_cases he : err l o = 0
    · rw [if_pos he] at h0 h
      rcases all_node r _ h0 e h with ⟨x, hx, hn⟩ | ⟨o', ho', h1⟩
      · rcases done_node he x hx with ⟨y, hy, hn'⟩ | ⟨hk, hn'⟩
        · exact .inl ⟨y, hy, hn'.trans hn⟩
        · exact .inr ⟨o, List.mem_cons_self, hk, hn'.trans hn⟩
      · exact .inr ⟨o', List.mem_cons_of_mem _ ho', h1⟩
    · rw [if_neg he] at h0; exact absurd h0 he
theorem now_alive {d : DirM.D} (h : DirM.valid d = true) : ∀ e ∈ d.now, alive d e.node := by
  obtain ⟨_, h2, h3⟩ := DirM.valid_iff.1 h
  intro e he
  rw [← h3] at he
  exact all_node _ _ h2 e he
theorem cr_alive {d : DirM.D} (h : DirM.valid d = true) (n : Int) : ∀ e ∈ crL d n, alive d e.node := by
  intro e he
  rcases all_node _ _ (DirM.valid_pre h _).1 e he with h1 | ⟨o, ho, h1⟩
  · exact .inl h1
  · exact .inr ⟨o, List.mem_of_mem_take ho, h1⟩
theorem same_alive {l : List E} {n : Int} : alive ⟨l, l, []⟩ n ↔ ∃ e ∈ l, e.node = n := by
  simp [alive]
theorem do_alive {d : DirM.D} {o : O} (h : doE d o = 0) {n : Int} (ha : alive (doD d o) n) : alive d n ∨ (o.kind = 1 ∧ o.node = n) := by
  obtain ⟨_, _, e⟩ := DirM.do_ok h
  rw [e] at ha
  rcases ha with h | ⟨p, hp, h1⟩
  · exact .inl (.inl h)
  · rcases List.mem_append.1 hp with hp | hp
    · exact .inl (.inr ⟨p, hp, h1⟩)
    · rw [List.mem_singleton] at hp
      subst hp
      exact .inr h1

/-! ### Disks -/
structure S where
  room : Int
  dir : DirM.D
  files : List Fl
  ops : Int
  trip : Int
  stop : Int
  down : Bool
def fl (fs : List Fl) (n : Int) : Fl := fs.getD (n.toNat - 1) zf
def nowLen (fs : List Fl) (e : E) : Nat := (fl fs e.node).now.length
def usedL (l : List E) (fs : List Fl) : Nat := (l.map (nowLen fs)).sum
def used (s : S) : Nat := usedL s.dir.now s.files
theorem usedL_next {l : List E} {fs : List Fl} {k : Nat} (hk : k < l.length) : usedL (l.take (k + 1)) fs = usedL (l.take k) fs + nowLen fs l[k] := by
  unfold usedL
  rw [List.take_succ_eq_append_getElem hk, List.map_append, List.sum_append]; simp
theorem usedL_le {l : List E} {fs : List Fl} {m : Nat} (h : ∀ e ∈ l, nowLen fs e ≤ m) : usedL l fs ≤ l.length * m := by
  unfold usedL
  induction l with
  | nil => simp
  | cons x r ih =>
    have h1 := h x (by simp)
    have h2 := ih fun e he => h e (by simp [he])
    simp only [List.map_cons, List.sum_cons, List.length_cons]
    rw [Nat.succ_mul]; omega

def tick (n : Int) : Int := if n < 1 then n else n - 1
def hit (s : S) : Int := if s.stop = 1 then 9 else if s.trip = 1 then 8 else 0
def low (s : S) : S := { s with ops := s.ops + 1 }
def ticked (s : S) : S := { s with ops := s.ops + 1, trip := tick s.trip, stop := tick s.stop, down := decide (s.stop = 1) }
theorem hit_stop {s : S} (h : s.stop = 1) : hit s = 9 := by rw [hit, if_pos h]
theorem hit_trip {s : S} (h : ¬ s.stop = 1) (h2 : s.trip = 1) : hit s = 8 := by rw [hit, if_neg h, if_pos h2]
theorem hit_none {s : S} (h : ¬ s.stop = 1) (h2 : ¬ s.trip = 1) : hit s = 0 := by rw [hit, if_neg h, if_neg h2]
theorem hit_zero {s : S} (h : hit s = 0) : ¬ s.stop = 1 ∧ ¬ s.trip = 1 := by
  unfold hit at h
  split at h
  · cases h
  · split at h
    · cases h
    · exact ⟨by assumption, by assumption⟩
theorem tick_max (n : Int) : max (tick n) 0 = if max n 0 > 0 then max n 0 - 1 else max n 0 := by
  unfold tick
  split <;> split <;> omega
theorem max_one (n : Int) : max n 0 = 1 ↔ n = 1 := by omega

/-- Something done to the directory. -/
def opOf (s : S) (o : O) : O := if o.kind = 1 then { o with node := (s.files.length : Int) + 1 } else o
def dirE (s : S) (o : O) : Int := if s.down then 9 else if doE s.dir (opOf s o) = 0 then hit s else doE s.dir (opOf s o)
def grown (s : S) (o : O) : S := { ticked s with dir := doD s.dir (opOf s o), files := if o.kind = 1 then s.files ++ [zf] else s.files }
def dirS (s : S) (o : O) : S := if s.down then low s else if doE s.dir (opOf s o) = 0 then (if hit s = 0 then grown s o else ticked s) else s

/-- What is done to a file. -/
def node (s : S) (nm : ByteArray) : Int := fv s.dir.now nm
def file (s : S) (nm : ByteArray) : Fl := fl s.files (node s nm)
def setF (s : S) (nm : ByteArray) (f : Fl) : S := { ticked s with files := s.files.set ((node s nm).toNat - 1) f }
def newF (s : S) (nm : ByteArray) (p : Int) (b : List UInt8) : Fl := wrote (file s nm) (pList p b)
def full (s : S) (nm : ByteArray) (p : Int) (b : List UInt8) : Bool := decide (s.room < (used s : Int) - ((file s nm).now.length : Int) + ((newF s nm p b).now.length : Int))
def fE (s : S) (nm : ByteArray) (e : Int) : Int := if s.down then 9 else if has s.dir.now nm then (if e = 0 then hit s else e) else 5
def fS (s : S) (nm : ByteArray) (e : Int) (f : Fl) : S := if s.down then low s else if has s.dir.now nm then (if e = 0 then (if hit s = 0 then setF s nm f else ticked s) else s) else s
def wE (s : S) (nm : ByteArray) (p : Int) (b : List UInt8) : Int := if pErr p b.length = 0 then (if full s nm p b then 7 else 0) else pErr p b.length

def syncDE (s : S) : Int := if s.down then 9 else hit s
def syncDS (s : S) : S := if s.down then low s else if hit s = 0 then { ticked s with dir := syn s.dir } else ticked s

/-- What a reboot leaves of the files. -/
def named (l : List E) (k : Nat) : Bool := l.any fun e => decide (e.node = (k : Int) + 1)
def idx (l : List E) (k n : Nat) : List Nat := (List.range' k (n - k)).filter (named l)
def rb : List Nat → List Fl → List Bool → List Fl
  | [], fs, _ => fs
  | i :: r, fs, bs => rb r (fs.set i (crF (fs.getD i zf) bs)) (bs.drop (crN (fs.getD i zf)))
def mask (l : List E) (fs : List Fl) : List Fl := fs.mapIdx fun k f => if named l k then f else zf
def reboot (s : S) (bs : List Bool) (n : Int) : S :=
  { s with dir := cr s.dir n, files := rb (idx (cr s.dir n).now 0 s.files.length) (mask (cr s.dir n).now s.files) bs, trip := 0, stop := 0, down := false }

/-! ### Acts -/
structure A where
  kind : Int
  name : ByteArray
  dst : ByteArray
  p : Int
  b : List UInt8
  bits : List Bool
def linkO (x : A) : O := ⟨1, x.name, ⟨#[]⟩, 0⟩
def moveO (x : A) : O := ⟨2, x.name, x.dst, 0⟩
def cutO (x : A) : O := ⟨3, x.name, ⟨#[]⟩, 0⟩
def stepE (s : S) (x : A) : Int :=
  if x.kind = 0 then dirE s (linkO x) else if x.kind = 1 then fE s x.name (wE s x.name x.p x.b) else if x.kind = 2 then fE s x.name 0
  else if x.kind = 3 then syncDE s else if x.kind = 4 then dirE s (moveO x) else if x.kind = 5 then dirE s (cutO x) else 0
def stepS (s : S) (x : A) : S :=
  if x.kind = 0 then dirS s (linkO x) else if x.kind = 1 then fS s x.name (wE s x.name x.p x.b) (newF s x.name x.p x.b) else if x.kind = 2 then fS s x.name 0 (syn (file s x.name))
  else if x.kind = 3 then syncDS s else if x.kind = 4 then dirS s (moveO x) else if x.kind = 5 then dirS s (cutO x)
  else if x.kind = 6 then { s with trip := x.p } else if x.kind = 7 then { s with stop := x.p } else if x.kind = 8 then reboot s x.bits x.p else s

/-! ### What holds of every disk -/
structure Inv (i : Nat) (s : S) : Prop where
  dirs : DirM.valid s.dir = true
  fine : ∀ f ∈ s.files, FileM.valid f = true
  few : s.files.length ≤ i
  pend : s.dir.pend.length ≤ i
  bits : ∀ f ∈ s.files, f.pend.length ≤ 300 * i
  nodes : ∀ n, alive s.dir n → 1 ≤ n ∧ n ≤ (s.files.length : Int)
  ops : ∀ o ∈ s.dir.pend, OkO o
  ops0 : 0 ≤ s.ops
  opsI : s.ops ≤ (i : Int)
  room0 : 0 ≤ s.room
  room1 : s.room ≤ 1099511627776
  trip0 : -9223372036854775808 ≤ s.trip
  trip1 : s.trip ≤ 9223372036854775807
  stop0 : -9223372036854775808 ≤ s.stop
  stop1 : s.stop ≤ 9223372036854775807

theorem fl_at {fs : List Fl} {n : Int} (h1 : 1 ≤ n) (h2 : n ≤ (fs.length : Int)) : ∃ h : n.toNat - 1 < fs.length, fl fs n = fs[n.toNat - 1] := by
  have h : n.toNat - 1 < fs.length := by omega
  refine ⟨h, ?_⟩
  unfold fl
  simp [List.getD, h]
theorem fl_mem {fs : List Fl} {n : Int} (h1 : 1 ≤ n) (h2 : n ≤ (fs.length : Int)) : fl fs n ∈ fs := by
  obtain ⟨h, e⟩ := fl_at h1 h2
  rw [e]; exact List.getElem_mem h
theorem fl_valid {fs : List Fl} (h : ∀ f ∈ fs, FileM.valid f = true) (n : Int) : FileM.valid (fl fs n) = true := by
  unfold fl
  rcases Nat.lt_or_ge (n.toNat - 1) fs.length with hk | hk
  · rw [List.getD_eq_getElem?_getD, List.getElem?_eq_getElem hk]; exact h _ (List.getElem_mem hk)
  · rw [List.getD_eq_getElem?_getD, List.getElem?_eq_none hk]; exact FileM.valid_zf
theorem Inv.node {i : Nat} {s : S} (h : Inv i s) {nm : ByteArray} (hh : has s.dir.now nm = true) : 1 ≤ node s nm ∧ node s nm ≤ (s.files.length : Int) := by
  obtain ⟨k, hk, _, hn, _⟩ := av_has hh
  unfold DiskM.node
  rw [← hn]
  exact h.nodes _ (now_alive h.dirs _ (List.getElem_mem hk))
theorem Inv.file {i : Nat} {s : S} (h : Inv i s) (nm : ByteArray) : FileM.valid (file s nm) = true := fl_valid h.fine _
theorem Inv.used {i : Nat} {s : S} (h : Inv i s) : used s ≤ 6553600 := by
  have h1 := usedL_le (l := s.dir.now) (fs := s.files) (m := 65536) fun e _ => FileM.valid_now (fl_valid h.fine _)
  have h2 := (DirM.valid_now h.dirs).few
  unfold DiskM.used
  have h3 : s.dir.now.length * 65536 ≤ 100 * 65536 := Nat.mul_le_mul_right _ h2
  omega
theorem Inv.mono {i j : Nat} {s : S} (h : Inv i s) (hij : i ≤ j) : Inv j s :=
  { h with few := Nat.le_trans h.few hij, pend := Nat.le_trans h.pend hij, bits := fun f hf => Nat.le_trans (h.bits f hf) (Nat.mul_le_mul_left _ hij), opsI := by have := h.opsI; omega }

theorem tick_lo {n : Int} (h : -9223372036854775808 ≤ n) : -9223372036854775808 ≤ tick n := by unfold tick; split <;> omega
theorem tick_hi {n : Int} (h : n ≤ 9223372036854775807) : tick n ≤ 9223372036854775807 := by unfold tick; split <;> omega
theorem Inv.low {i : Nat} {s : S} (h : Inv i s) : Inv (i + 1) (low s) :=
  { h.mono (Nat.le_succ i) with ops0 := (by have := h.ops0; show 0 ≤ s.ops + 1; omega), opsI := (by have := h.opsI; show s.ops + 1 ≤ ((i + 1 : Nat) : Int); omega) }
theorem Inv.ticked {i : Nat} {s : S} (h : Inv i s) : Inv (i + 1) (ticked s) :=
  { h.mono (Nat.le_succ i) with ops0 := (by have := h.ops0; show 0 ≤ s.ops + 1; omega), opsI := (by have := h.opsI; show s.ops + 1 ≤ ((i + 1 : Nat) : Int); omega), trip0 := tick_lo h.trip0, trip1 := tick_hi h.trip1, stop0 := tick_lo h.stop0, stop1 := tick_hi h.stop1 }

theorem pList_len (p : Int) (b : List UInt8) : (pList p b).length ≤ b.length := by
  unfold pList
  split
  · simp
  · split
    · simp
    · exact pieces_len _ _
theorem pList_ok {p : Int} {b : List UInt8} : ∀ x ∈ pList p b, ok x = true := by
  unfold pList
  split
  · simp
  · split
    · simp
    · exact pieces_ok _ _ (by omega)

theorem Inv.dirS {i : Nat} {s : S} (h : Inv i s) {o : O} (ho : OkO o) : Inv (i + 1) (dirS s o) := by
  unfold DiskM.dirS
  split
  · exact h.low
  · split
    · next he =>
      split
      · have hc := h.ticked
        obtain ⟨hv, h0, hd⟩ := DirM.do_ok he
        have hl : s.files.length ≤ (if o.kind = 1 then s.files ++ [zf] else s.files).length := by split <;> simp
        refine { hc with dirs := DirM.valid_do, fine := ?_, few := ?_, pend := ?_, bits := ?_, nodes := ?_, ops := ?_ }
        · show ∀ f ∈ (if o.kind = 1 then s.files ++ [zf] else s.files), _
          intro f hf
          split at hf
          · rcases List.mem_append.1 hf with hf | hf
            · exact h.fine f hf
            · rw [List.mem_singleton] at hf; subst hf; exact FileM.valid_zf
          · exact h.fine f hf
        · show (if o.kind = 1 then s.files ++ [zf] else s.files).length ≤ _
          have := h.few
          split <;> simp <;> omega
        · have := DirM.pend_do s.dir (opOf s o)
          have := h.pend
          show (doD s.dir (opOf s o)).pend.length ≤ _
          omega
        · show ∀ f ∈ (if o.kind = 1 then s.files ++ [zf] else s.files), _
          intro f hf
          split at hf
          · rcases List.mem_append.1 hf with hf | hf
            · exact hc.bits f hf
            · rw [List.mem_singleton] at hf; subst hf; simp [zf]
          · exact hc.bits f hf
        · intro n hn
          show 1 ≤ n ∧ n ≤ ((if o.kind = 1 then s.files ++ [zf] else s.files).length : Int)
          rcases do_alive he hn with ha | ⟨hk, rfl⟩
          · have := h.nodes n ha; omega
          · have hk' : o.kind = 1 := by
              unfold opOf at hk
              split at hk
              · assumption
              · exact hk
            rw [if_pos hk']
            unfold opOf
            rw [if_pos hk']
            simp; omega
        · show ∀ p ∈ (doD s.dir (opOf s o)).pend, OkO p
          rw [hd]
          intro p hp
          rcases List.mem_append.1 hp with hp | hp
          · exact h.ops p hp
          · rw [List.mem_singleton] at hp
            subst hp
            unfold opOf
            split
            · exact ho
            · exact ho
      · exact h.ticked
    · exact h.mono (Nat.le_succ i)

theorem Inv.setF {i : Nat} {s : S} (h : Inv i s) {nm : ByteArray} {f : Fl} (hf : FileM.valid f = true) (hl : f.pend.length ≤ 300 * (i + 1)) : Inv (i + 1) (setF s nm f) := by
  have hc := h.ticked
  refine { hc with fine := ?_, few := ?_, bits := ?_, nodes := ?_ }
  · intro g hg
    rcases List.mem_or_eq_of_mem_set hg with hg | rfl
    · exact h.fine g hg
    · exact hf
  · show (s.files.set _ f).length ≤ _
    rw [List.length_set]; exact hc.few
  · intro g hg
    rcases List.mem_or_eq_of_mem_set hg with hg | rfl
    · exact hc.bits g hg
    · exact hl
  · intro n hn
    show 1 ≤ n ∧ n ≤ ((s.files.set _ f).length : Int)
    rw [List.length_set]; exact h.nodes n hn
theorem Inv.fS {i : Nat} {s : S} (h : Inv i s) {nm : ByteArray} {e : Int} {f : Fl} (hf : FileM.valid f = true) (hl : f.pend.length ≤ 300 * (i + 1)) : Inv (i + 1) (fS s nm e f) := by
  unfold DiskM.fS
  split
  · exact h.low
  · split
    · split
      · split
        · exact h.setF hf hl
        · exact h.ticked
      · exact h.mono (Nat.le_succ i)
    · exact h.mono (Nat.le_succ i)
theorem Inv.filePend {i : Nat} {s : S} (h : Inv i s) (nm : ByteArray) : (DiskM.file s nm).pend.length ≤ 300 * i := by
  unfold DiskM.file fl
  rcases Nat.lt_or_ge ((DiskM.node s nm).toNat - 1) s.files.length with hk | hk
  · rw [List.getD_eq_getElem?_getD, List.getElem?_eq_getElem hk]; exact h.bits _ (List.getElem_mem hk)
  · rw [List.getD_eq_getElem?_getD, List.getElem?_eq_none hk]; simp [zf]
theorem Inv.newF {i : Nat} {s : S} (h : Inv i s) (nm : ByteArray) (p : Int) {b : List UInt8} (hb : b.length ≤ 300) : FileM.valid (newF s nm p b) = true ∧ (newF s nm p b).pend.length ≤ 300 * (i + 1) := by
  refine ⟨FileM.valid_wrote (h.file nm) pList_ok, ?_⟩
  show (_ ++ pList p b).length ≤ _
  rw [List.length_append]
  have h1 := h.filePend nm
  have h2 := pList_len p b
  omega
theorem pend_syn (f : Fl) : (FileM.syn f).pend = [] := by unfold FileM.syn; split <;> rfl
theorem Inv.syncDS {i : Nat} {s : S} (h : Inv i s) : Inv (i + 1) (syncDS s) := by
  unfold DiskM.syncDS
  split
  · exact h.low
  · split
    · have hc := h.ticked
      have e : DirM.syn s.dir = ⟨s.dir.now, s.dir.now, []⟩ := by unfold DirM.syn; rw [if_pos h.dirs]
      refine { hc with dirs := DirM.valid_syn, pend := ?_, nodes := ?_, ops := ?_ }
      · show (DirM.syn s.dir).pend.length ≤ _
        rw [DirM.pend_syn]; simp
      · intro n hn
        have hn : alive (DirM.syn s.dir) n := hn
        rw [e, same_alive] at hn
        obtain ⟨x, hx, rfl⟩ := hn
        exact h.nodes _ (now_alive h.dirs x hx)
      · show ∀ o ∈ (DirM.syn s.dir).pend, OkO o
        rw [DirM.pend_syn]; simp
    · exact h.ticked

/-! ### Reboot -/
theorem rb_len : ∀ (l : List Nat) (fs : List Fl) (bs : List Bool), (rb l fs bs).length = fs.length
  | [], _, _ => rfl
  | i :: r, fs, bs => by unfold rb; rw [rb_len r]; simp
theorem rb_all {Q : Fl → Prop} (hq : ∀ f bs, Q (crF f bs)) : ∀ (l : List Nat) (fs : List Fl) (bs : List Bool), (∀ f ∈ fs, Q f) → ∀ f ∈ rb l fs bs, Q f
  | [], _, _, h => h
  | i :: r, fs, bs, h => by
    unfold rb
    refine rb_all hq r _ _ fun f hf => ?_
    rcases List.mem_or_eq_of_mem_set hf with hf | rfl
    · exact h f hf
    · exact hq _ _
theorem mask_len (l : List E) (fs : List Fl) : (mask l fs).length = fs.length := by simp [mask]
theorem mask_at {l : List E} {fs : List Fl} {k : Nat} (hk : k < fs.length) : (mask l fs)[k]'(by rw [mask_len]; exact hk) = if named l k then fs[k] else zf := by simp [mask]
theorem mask_all {Q : Fl → Prop} (hz : Q zf) {l : List E} {fs : List Fl} (h : ∀ f ∈ fs, Q f) : ∀ f ∈ mask l fs, Q f := by
  intro f hf
  obtain ⟨k, hk, rfl⟩ := List.mem_iff_getElem.1 hf
  rw [mask_len] at hk
  rw [mask_at hk]
  split
  · exact h _ (List.getElem_mem hk)
  · exact hz
theorem crF_valid (f : Fl) (bs : List Bool) : FileM.valid (crF f bs) = true := by
  cases h : FileM.valid f with
  | false => rw [crF_no h]; exact FileM.valid_zf
  | true =>
    rw [crF_ok h]
    exact (FileM.valid_iff _).2 ⟨crC_len h bs, rfl, rfl⟩
theorem crF_pend (f : Fl) (bs : List Bool) : (crF f bs).pend = [] := by unfold crF; split <;> rfl
theorem cr_now {d : DirM.D} (h : DirM.valid d = true) (n : Int) : cr d n = ⟨crL d n, crL d n, []⟩ := by unfold cr; rw [if_pos h]
theorem Inv.reboot {i : Nat} {s : S} (h : Inv i s) (bs : List Bool) (n : Int) : Inv i (reboot s bs n) := by
  have e := cr_now h.dirs n
  refine { h with dirs := DirM.valid_cr, fine := ?_, few := ?_, pend := ?_, bits := ?_, nodes := ?_, ops := ?_, trip0 := (by show _ ≤ (0 : Int); omega), trip1 := (by show (0 : Int) ≤ _; omega), stop0 := (by show _ ≤ (0 : Int); omega), stop1 := (by show (0 : Int) ≤ _; omega) }
  · exact rb_all crF_valid _ _ _ (mask_all FileM.valid_zf h.fine)
  · show (rb _ _ _).length ≤ _
    rw [rb_len, mask_len]; exact h.few
  · show (cr s.dir n).pend.length ≤ _
    rw [e]; exact Nat.zero_le _
  · refine rb_all (Q := fun f => f.pend.length ≤ 300 * i) (fun f bs => ?_) _ _ _ (mask_all ?_ h.bits)
    · rw [crF_pend]; exact Nat.zero_le _
    · exact Nat.zero_le _
  · intro m hm
    show 1 ≤ m ∧ m ≤ ((rb _ _ _).length : Int)
    rw [rb_len, mask_len]
    have hm : alive (cr s.dir n) m := hm
    rw [e, same_alive] at hm
    obtain ⟨x, hx, rfl⟩ := hm
    exact h.nodes _ (cr_alive h.dirs n x hx)
  · show ∀ o ∈ (cr s.dir n).pend, OkO o
    rw [e]; simp

/-- An act that the statements speak of. -/
structure OkA (x : A) : Prop where
  name : x.name.size ≤ 60
  dst : x.dst.size ≤ 60
  b : x.b.length ≤ 200
  bits : x.bits.length ≤ 200
  p0 : -9223372036854775808 ≤ x.p
  p1 : x.p ≤ 9223372036854775807
theorem small_ok {n m : ByteArray} (h1 : n.size ≤ 60) (h2 : m.size ≤ 60) (k j : Int) : OkO ⟨k, n, m, j⟩ := by
  have : (60 : Nat) ≤ Go.maxLen := by unfold Go.maxLen; omega
  exact ⟨Nat.le_trans h1 this, Nat.le_trans h2 this⟩
theorem Inv.step {i : Nat} {s : S} (h : Inv i s) {x : A} (hx : OkA x) : Inv (i + 1) (stepS s x) := by
  have hz : ByteArray.size ⟨#[]⟩ ≤ 60 := by decide
  unfold stepS
  split
  · exact h.dirS (small_ok hx.name hz _ _)
  · split
    · have := h.newF x.name x.p (b := x.b) (by have := hx.b; omega)
      exact h.fS this.1 this.2
    · split
      · exact h.fS (FileM.valid_syn _) (by rw [pend_syn]; simp)
      · split
        · exact h.syncDS
        · split
          · exact h.dirS (small_ok hx.name hx.dst _ _)
          · split
            · exact h.dirS (small_ok hx.name hz _ _)
            · have hm := h.mono (Nat.le_succ i)
              split
              · exact { hm with trip0 := hx.p0, trip1 := hx.p1 }
              · split
                · exact { hm with stop0 := hx.p0, stop1 := hx.p1 }
                · split
                  · exact hm.reboot _ _
                  · exact hm
end DiskM
