/-
  The reference's disk in memory: its block, its files, what it is told to hold.
-/
import Derived.Test.YtaklilhnikmmfaaGreatDiskDo
import Derived.Test.YtaklilhnikmmfaaGreatJFileC
import Derived.Test.YtaklilhnikmmfaaGreatJDirD
namespace Go.Proofs.YtaklilhnikmmfaaGreat
open Go.RowKit StrM BlockM FileM DirM DiskM

/-! ### The files, a row of its own -/
abbrev U3 := Value × Value × Value
def u3 (u : U3) : List Value := [u.1, u.2.1, u.2.2]
def u3s (us : List U3) : List Value := us.flatMap u3
theorem u3s_len (us : List U3) : (u3s us).length = us.length * 3 := by
  induction us with
  | nil => rfl
  | cons x r ih => simp [u3s, u3] at ih ⊢; omega
theorem u3s_app (a b : List U3) : u3s (a ++ b) = u3s a ++ u3s b := by simp [u3s]
theorem u3s_at : ∀ (us : List U3) {k : Nat} (h : k < us.length), (u3s us)[k * 3]? = some us[k].1 ∧ (u3s us)[k * 3 + 1]? = some us[k].2.1 ∧ (u3s us)[k * 3 + 2]? = some us[k].2.2
  | x :: r, 0, _ => ⟨rfl, rfl, rfl⟩
  | x :: r, k + 1, h => by
    have ih := u3s_at r (k := k) (by simpa using h)
    have e : u3s (x :: r) = x.1 :: x.2.1 :: x.2.2 :: u3s r := rfl
    rw [e, show (k + 1) * 3 = k * 3 + 3 by omega]
    exact ih
theorem u3s_set : ∀ (us : List U3) (k : Nat) (A B C : Value), k < us.length → (((u3s us).set (k * 3) A).set (k * 3 + 1) B).set (k * 3 + 2) C = u3s (us.set k (A, B, C))
  | x :: r, 0, A, B, C, _ => rfl
  | x :: r, k + 1, A, B, C, h => by
    have ih := u3s_set r k A B C (by simpa using h)
    have e : ∀ (y : U3) (t : List U3), u3s (y :: t) = y.1 :: y.2.1 :: y.2.2 :: u3s t := fun _ _ => rfl
    rw [List.set_cons_succ, e, e, show (k + 1) * 3 = k * 3 + 3 by omega]
    simp only [List.set_cons_succ, show k * 3 + 3 + 1 = k * 3 + 1 + 3 by omega, show k * 3 + 3 + 2 = k * 3 + 2 + 3 by omega]
    rw [ih]

structure FsHas (w : World) (us : List U3) (fs : List Fl) : Prop where
  len : us.length = fs.length
  file : ∀ k (h : k < us.length) (h' : k < fs.length), SeesF w (.agg #[us[k].1, us[k].2.1, us[k].2.2]) fs[k]
def FsIn (w : World) (v : Value) (fs : List Fl) : Prop := ∃ us : List U3, FsHas w us fs ∧ w.ownsRow 0 70 3 v fs.length (u3s us)
theorem FsHas.later {w w' : World} {us : List U3} {fs : List Fl} (h : FsHas w us fs) (hb : Below w.heap.size w w') : FsHas w' us fs := ⟨h.len, fun k h1 h2 => (h.file k h1 h2).later hb⟩
theorem FsHas.veer {mp : Bool} {N p : Nat} {w w' : World} {us : List U3} {fs : List Fl} (h : FsHas w us fs) (hv : ∀ f ∈ fs, FileM.valid f = true) (ht : Veer mp N p w w') (hs : Shell w p) : FsHas w' us fs :=
  ⟨h.len, fun k h1 h2 => (h.file k h1 h2).veer (hv _ (List.getElem_mem h2)) ht hs⟩
theorem FsIn.nil (w : World) : FsIn w (.slice none 0 0) [] := ⟨[], ⟨rfl, fun k h => by cases h⟩, rfl, .inl ⟨rfl, rfl⟩⟩
theorem FsIn.later {w w' : World} {v : Value} {fs : List Fl} (h : FsIn w v fs) (hb : Below w.heap.size w w') : FsIn w' v fs := by
  obtain ⟨us, h1, h2⟩ := h
  exact ⟨us, h1.later hb, own_belowN h2 hb⟩
theorem own_veerN {mp : Bool} {N p base sz n : Nat} {e t : TypeId} {w w' : World} {v : Value} {xs : List Value} {cs : Array Value} (h : w.ownsRow base e sz v n xs) (ht : Veer mp N p w w') (hp : w.heap[p]? = some (.cells cs t (0, 0))) (hne : t ≠ e) : w'.ownsRow base e sz v n xs := by
  refine ⟨h.1, ?_⟩
  rcases h.2 with h0 | ⟨g, cap, cur, hv, hb, hg, h1⟩
  · exact .inl h0
  · refine .inr ⟨g, cap, cur, hv, hb, ht.keep g _ hg ?_ (fun _ es c hx => by cases hx), h1⟩
    rintro rfl
    rw [hg] at hp
    injection hp with hp
    injection hp with _ hp
    exact hne hp.symm
theorem FsIn.veer {mp : Bool} {N p : Nat} {w w' : World} {v : Value} {fs : List Fl} {t : TypeId} {cs : Array Value} (h : FsIn w v fs) (hv : ∀ f ∈ fs, FileM.valid f = true) (ht : Veer mp N p w w') (hs : Shell w p) (hp : w.heap[p]? = some (.cells cs t (0, 0))) (hne : t ≠ 70) : FsIn w' v fs := by
  obtain ⟨us, h1, h2⟩ := h
  exact ⟨us, h1.veer hv ht hs, own_veerN h2 ht hp hne⟩
theorem FsIn.form {w : World} {v : Value} {fs : List Fl} (h : FsIn w v fs) : ∃ A cap, v = .slice A fs.length cap ∧ fs.length ≤ cap := by
  obtain ⟨us, h1, h2⟩ := h
  exact (SeesN.of_own h2).form
/-- One file's cells. -/
theorem FsIn.at {w : World} {A : Option Addr} {n cap : Nat} {fs : List Fl} (h : FsIn w (.slice A n cap) fs) {k : Nat} (hk : k < fs.length) :
    ∃ g A0 n0 c0 A1 n1 c1 A2 n2 c2, A = some ⟨g, 0, none⟩ ∧ g < w.heap.size ∧ w.cell? ⟨g, k * 3, none⟩ = some (.slice A0 n0 c0) ∧ w.cell? ⟨g, k * 3 + 1, none⟩ = some (.slice A1 n1 c1) ∧ w.cell? ⟨g, k * 3 + 2, none⟩ = some (.slice A2 n2 c2) ∧
      n0 = fs[k].now.length ∧ n1 = fs[k].sure.length ∧ n2 = fs[k].pend.length ∧ SeesF w (.agg #[.slice A0 n0 c0, .slice A1 n1 c1, .slice A2 n2 c2]) fs[k] := by
  obtain ⟨us, h1, h2⟩ := h
  have hu : k < us.length := by rw [h1.len]; exact hk
  have hF := h1.file k hu hk
  obtain ⟨A0, c0, A1, c1, A2, c2, e, -, -, -⟩ := hF.slices
  rw [e] at hF
  injection e with e
  injection e with e
  injection e with e0 e
  injection e with e1 e
  injection e with e2 e
  obtain ⟨x0, x1, x2⟩ := u3s_at us hu
  obtain ⟨a, cp, e5, _, h0 | ⟨g, off, rfl, hg, hc⟩⟩ := SeesN.of_own h2
  · exfalso
    have := u3s_len us
    rw [h0] at this
    simp at this; omega
  · injection e5 with e5 e6 e7
    subst e5
    rcases h2.2 with ⟨h3, _⟩ | ⟨g', cap', cur, h3, _⟩
    · injection h3 with h3; cases h3
    · injection h3 with h3
      injection h3 with h3
      injection h3 with h3 h4
      subst h3 h4
      refine ⟨g, A0, _, c0, A1, _, c1, A2, _, c2, rfl, hg, ?_, ?_, ?_, rfl, rfl, rfl, hF⟩
      · have := hc _ _ x0; rw [e0] at this; simpa using this
      · have := hc _ _ x1; rw [e1] at this; simpa using this
      · have := hc _ _ x2; rw [e2] at this; simpa using this

/-! ### The block -/
structure RR where
  room : Int
  N : Value
  S : Value
  V : Value
  F : Value
  ops : Int
  trip : Int
  stop : Int
  down : Bool
def RBox (w : World) (q : Nat) (r : RR) : Prop := w.heap[q]? = some (.cells #[.int .i64 r.room, r.N, r.S, r.V, r.F, .int .i64 r.ops, .int .i64 r.trip, .int .i64 r.stop, .bool r.down] 35 (0, 0))
theorem RBox.lt {w : World} {p : Nat} {r : RR} (h : RBox w p r) : p < w.heap.size := (Array.getElem?_eq_some_iff.1 h).1
theorem RBox.later {w w' : World} {p : Nat} {r : RR} (h : RBox w p r) (hb : Below w.heap.size w w') : RBox w' p r := by
  have := hb.block p h.lt
  unfold RBox at h ⊢
  rw [this]; exact h
theorem RBox.drew {w : World} {p : Nat} {r : RR} (h : RBox w p r) : RBox w.drew p r := h
theorem RBox.keep {mp : Bool} {N p q : Nat} {w w' : World} {r : RR} (h : RBox w q r) (ht : Veer mp N p w w') (hne : q ≠ p) : RBox w' q r := ht.keep q _ h hne (fun _ es c hx => by cases hx)
theorem RBox.cells {w : World} {p : Nat} {r : RR} (h : RBox w p r) :
    w.cell? ⟨p, 0, none⟩ = some (.int .i64 r.room) ∧ w.cell? ⟨p, 1, none⟩ = some r.N ∧ w.cell? ⟨p, 2, none⟩ = some r.S ∧ w.cell? ⟨p, 3, none⟩ = some r.V ∧ w.cell? ⟨p, 4, none⟩ = some r.F ∧
    w.cell? ⟨p, 5, none⟩ = some (.int .i64 r.ops) ∧ w.cell? ⟨p, 6, none⟩ = some (.int .i64 r.trip) ∧ w.cell? ⟨p, 7, none⟩ = some (.int .i64 r.stop) ∧ w.cell? ⟨p, 8, none⟩ = some (.bool r.down) := by
  unfold RBox at h
  refine ⟨?_, ?_, ?_, ?_, ?_, ?_, ?_, ?_, ?_⟩ <;> (rw [cell_of_row w p _ _ _ (0, 0) h]; rfl)
theorem RBox.soft {w : World} {p : Nat} {r : RR} (h : RBox w p r) (i : Nat) : w.frozen? ⟨p, i, none⟩ = false := by
  unfold RBox at h
  simp [World.frozen?, h]
theorem RBox.setN {w : World} {p : Nat} {r : RR} (h : RBox w p r) (A B C : Value) : RBox (((w.setCell ⟨p, 1, none⟩ A).setCell ⟨p, 2, none⟩ B).setCell ⟨p, 3, none⟩ C) p { r with N := A, S := B, V := C } := by
  have h1 := heap_setCell_same w p 1 _ _ A h
  have h2 := heap_setCell_same _ p 2 _ _ B h1
  exact heap_setCell_same _ p 3 _ _ C h2
theorem RBox.setF {w : World} {p : Nat} {r : RR} (h : RBox w p r) (F : Value) : RBox (w.setCell ⟨p, 4, none⟩ F) p { r with F := F } := heap_setCell_same w p 4 _ _ _ h
theorem RBox.setOps {w : World} {p : Nat} {r : RR} (h : RBox w p r) (n : Int) : RBox (w.setCell ⟨p, 5, none⟩ (.int .i64 n)) p { r with ops := n } := heap_setCell_same w p 5 _ _ _ h
theorem RBox.setTrip {w : World} {p : Nat} {r : RR} (h : RBox w p r) (n : Int) : RBox (w.setCell ⟨p, 6, none⟩ (.int .i64 n)) p { r with trip := n } := heap_setCell_same w p 6 _ _ _ h
theorem RBox.setStop {w : World} {p : Nat} {r : RR} (h : RBox w p r) (n : Int) : RBox (w.setCell ⟨p, 7, none⟩ (.int .i64 n)) p { r with stop := n } := heap_setCell_same w p 7 _ _ _ h
theorem RBox.setDown {w : World} {p : Nat} {r : RR} (h : RBox w p r) (b : Bool) : RBox (w.setCell ⟨p, 8, none⟩ (.bool b)) p { r with down := b } := heap_setCell_same w p 8 _ _ _ h
theorem RBox.shell {w : World} {p : Nat} {r : RR} (h : RBox w p r) {d : DirM.D} (hd : SeesD w (.agg #[r.N, r.S, r.V]) d) {fs : List Fl} (hf : FsIn w r.F fs) : Shell w p := by
  obtain ⟨A0, c0, A1, c1, A2, c2, e, h0, h1, h2⟩ := hd.slices
  obtain ⟨A3, c3, e3', _⟩ := hf.form
  injection e with e
  injection e with e
  injection e with e0 e
  injection e with e1 e
  injection e with e2 e
  have hc : ∀ i c, w.cell? ⟨p, i, none⟩ = some c → #[Value.int .i64 r.room, r.N, r.S, r.V, r.F, .int .i64 r.ops, .int .i64 r.trip, .int .i64 r.stop, .bool r.down][i]? = some c := by
    intro i c hc
    unfold RBox at h
    rwa [cell_of_row w p _ _ _ (0, 0) h] at hc
  rw [e0, e1, e2, e3'] at hc
  refine ⟨fun i s hx => ?_, fun i n hx => ?_, fun i n B l hx hB hl => ?_⟩
  · have := hc i _ hx
    match i, this with
    | 0, h | 1, h | 2, h | 3, h | 4, h | 5, h | 6, h | 7, h | 8, h => simp at h
    | i + 9, h => simp at h
  · have := hc i _ hx
    match i, this with
    | 0, h | 1, h | 2, h | 3, h | 4, h | 5, h | 6, h | 7, h | 8, h => simp at h
    | i + 9, h => simp at h
  · have h1 := hc i _ hx
    have h2 := hc (i + 1) _ hB
    obtain ⟨a, cap, rfl, hv⟩ := hl
    match i, h1, h2 with
    | 0, h1, h2 =>
      simp at h2
      obtain ⟨rfl, e3, rfl⟩ := h2
      cases hn : d.now with
      | nil => rw [hn] at e3; simpa [bys] using e3.symm
      | cons x t =>
        exfalso
        obtain ⟨g, off, e4, _, k1, _⟩ := SeesE.cells h0 (k := 0) (by rw [hn]; simp)
        rw [hn] at e3
        rcases hv with hv | ⟨g', off', e5, _, k2⟩
        · rw [hv] at e3; simp at e3
        · rw [e4] at e5
          injection e5 with e5
          injection e5 with e6 e7
          subst e6 e7
          have k3 := k2 0 (by rw [← e3]; simp)
          simp only [Nat.zero_mul, Nat.add_zero] at k1 k3
          rw [k1] at k3
          simp [bys] at k3
    | 1, h1, _ | 2, h1, _ | 3, h1, _ | 4, h1, _ | 8, h1, _ => simp at h1
    | 5, _, h2 | 6, _, h2 | 7, _, h2 => simp at h2
    | i + 9, h1, _ => simp at h1

/-! ### What the reference's disk holds -/
structure RHeld (w : World) (N q : Nat) (s : S) (r : RR) : Prop where
  box : RBox w q r
  room : r.room = s.room
  ops : r.ops = s.ops
  trip : r.trip = max s.trip 0
  stop : r.stop = max s.stop 0
  down : r.down = s.down
  dir : SeesD w (.agg #[r.N, r.S, r.V]) s.dir
  files : FsIn w r.F s.files
  base : N ≤ q
def RD (N q : Nat) (s : S) (w : World) : Prop := ∃ r, RHeld w N q s r
theorem RHeld.shell {w : World} {N q : Nat} {s : S} {r : RR} (h : RHeld w N q s r) : Shell w q := h.box.shell h.dir h.files
theorem RHeld.later {w w' : World} {N q : Nat} {s : S} {r : RR} (h : RHeld w N q s r) (hb : Below w.heap.size w w') : RHeld w' N q s r :=
  { h with box := h.box.later hb, dir := h.dir.later hb, files := h.files.later hb }
theorem RHeld.baseW {w : World} {N q : Nat} {s : S} {r : RR} (h : RHeld w N q s r) : N ≤ w.heap.size := Nat.le_of_lt (Nat.lt_of_le_of_lt h.base h.box.lt)
/-- What else is changed leaves it. -/
theorem RHeld.veer {w w' : World} {mp : Bool} {N M p q : Nat} {s : S} {r : RR} {cs : Array Value} {t : TypeId} (h : RHeld w N q s r) (hv : ∀ f ∈ s.files, FileM.valid f = true) (ht : Veer mp M p w w') (hs : Shell w p) (hne : q ≠ p) (hp : w.heap[p]? = some (.cells cs t (0, 0))) (hte : t ≠ 70) : RHeld w' N q s r :=
  { h with box := h.box.keep ht hne, dir := h.dir.veer ht hs, files := h.files.veer hv ht hs hp hte }
/-- Its own cells change, but neither the directory nor the files. -/
theorem RHeld.turned {w w' : World} {N q : Nat} {s s' : S} {r r' : RR} (h : RHeld w N q s r) (hv : ∀ f ∈ s.files, FileM.valid f = true) (ht : Veer false N q w w') (hb : RBox w' q r')
    (e0 : r'.N = r.N) (e1 : r'.S = r.S) (e2 : r'.V = r.V) (e3 : r'.F = r.F) (e5 : s'.dir = s.dir) (e6 : s'.files = s.files)
    (e7 : r'.room = s'.room) (e8 : r'.ops = s'.ops) (e9 : r'.trip = max s'.trip 0) (e10 : r'.stop = max s'.stop 0) (e11 : r'.down = s'.down) : RHeld w' N q s' r' := by
  have hs := h.shell
  refine { box := hb, room := e7, ops := e8, trip := e9, stop := e10, down := e11, dir := ?_, files := ?_, base := h.base }
  · rw [e0, e1, e2, e5]; exact h.dir.veer ht hs
  · rw [e3, e6]; exact h.files.veer hv ht hs h.box (by decide)
theorem RHeld.entries {w : World} {N q : Nat} {s : S} {r : RR} (h : RHeld w N q s r) : ∃ A0 n0 c0 A1 n1 c1 A2 n2 c2, r.N = .slice A0 n0 c0 ∧ r.S = .slice A1 n1 c1 ∧ r.V = .slice A2 n2 c2 ∧ n0 = s.dir.now.length ∧ n1 = s.dir.sure.length ∧ n2 = s.dir.pend.length := by
  obtain ⟨A0, c0, A1, c1, A2, c2, e, _⟩ := h.dir.slices
  injection e with e
  injection e with e
  injection e with e0 e
  injection e with e1 e
  injection e with e2 e
  exact ⟨A0, _, c0, A1, _, c1, A2, _, c2, e0, e1, e2, rfl, rfl, rfl⟩
/-- What a thing done to it returns. -/
def REnd (N q : Nat) (er : Int) (s' : S) (w : World) (e : Ending) (w' : World) : Prop := e = .returned (.int .i64 er) ∧ RD N q s' w' ∧ Veer false N q w w'
end Go.Proofs.YtaklilhnikmmfaaGreat
