/-
  The reference's files, copied and then changed in one place; the walk of its Sync.
-/
import Derived.Test.YtaklilhnikmmfaaGreatDiskRefSync
namespace Go.Proofs.YtaklilhnikmmfaaGreat
open Go.RowKit StrM BlockM FileM DirM DiskM

theorem append_files {w : World} {ops : Array Oper} {rest : List Oper} {o : Oper} {a : Act} {Q : Exit → Act → World → Prop} (hgd : o.guard = none) (s x : Operand)
    (ho : o.op = .call { callee := .builtin .append, args := #[s, x], argTypes := #[33, 33] })
    (A : Option Addr) (v : Value) {us : List U3} {fs : List Fl} (hs : a.eval s = .slice A 0 0) (hx : a.eval x = v) (hh : FsHas w us fs) (hsn : SeesN w v fs.length (u3s us)) (hpos : 0 < fs.length) (hlim : fs.length ≤ 100000)
    (h : ∀ cap w', w'.ownsRow w.heap.size 70 3 (.slice (some ⟨w.heap.size, 0, none⟩) fs.length cap) fs.length (u3s us) → AllSl w' w.heap.size → Below w.heap.size w w' → wpList Tryz.prog ops Q rest (a.put o.dst (.slice (some ⟨w.heap.size, 0, none⟩) fs.length cap)) w') :
    wpList Tryz.prog ops Q (o :: rest) a w := by
  obtain ⟨cap, w', hr, h1, h2, h3⟩ := copy_files o.type hh hsn hpos hlim
  exact Lib.wpList_append_run w hgd s x _ _ ho _ v hs hx _ w' hr (h cap w' h1 h2 h3)

/-- The disk, its files in a row of their own that is known whole. -/
structure Cp (w : World) (N q g n cap : Nat) (s : S) (r : RR) (us : List U3) : Prop where
  held : RHeld w N q s r
  F : r.F = .slice (some ⟨g, 0, none⟩) n cap
  own : w.ownsRow 0 70 3 (.slice (some ⟨g, 0, none⟩) n cap) n (u3s us)
  has : FsHas w us s.files
  sl : AllSl w g
  ne : g ≠ q
  n : n = s.files.length
  lt : g < w.heap.size
theorem Cp.later {w w' : World} {N q g n cap : Nat} {s : S} {r : RR} {us : List U3} (h : Cp w N q g n cap s r us) (hb : Below w.heap.size w w') : Cp w' N q g n cap s r us :=
  { h with held := h.held.later hb, own := own_belowN h.own hb, has := h.has.later hb, sl := h.sl.block (hb.block g h.lt), lt := Nat.lt_of_lt_of_le h.lt hb.size }
theorem Cp.made {w0 w w' : World} {N q g cap : Nat} {s : S} {r : RR} {us : List U3} (h : RHeld w N q s r) (hv : ∀ f ∈ s.files, FileM.valid f = true) (hh : FsHas w us s.files) (hgs : w.heap.size = g)
    (ho : w'.ownsRow g 70 3 (.slice (some ⟨g, 0, none⟩) s.files.length cap) s.files.length (u3s us)) (hs : AllSl w' g) (hb : Below g w w') (h0 : Veer false N q w0 w) :
    Cp (w'.setCell ⟨q, 4, none⟩ (.slice (some ⟨g, 0, none⟩) s.files.length cap)) N q g s.files.length cap s { r with F := .slice (some ⟨g, 0, none⟩) s.files.length cap } us ∧
      Veer false N q w0 (w'.setCell ⟨q, 4, none⟩ (.slice (some ⟨g, 0, none⟩) s.files.length cap)) := by
  subst hgs
  have h' := h.later hb
  have hh' := hh.later hb
  have hset := (Veer.refl false N q w').set h.base 4 (.slice (some ⟨w.heap.size, 0, none⟩) s.files.length cap)
  have ho0 : w'.ownsRow 0 70 3 (.slice (some ⟨w.heap.size, 0, none⟩) s.files.length cap) s.files.length (u3s us) := own_baseN ho (Nat.zero_le _)
  have hne : w.heap.size ≠ q := fun e => by have := h.box.lt; omega
  have hlt : w.heap.size < w'.heap.size := (ho.lt _ rfl).2
  have hown := own_veerN ho0 hset h'.box (by decide)
  have hhas := hh'.veer hv hset h'.shell
  exact ⟨{ held := { h' with box := h'.box.setF _, dir := h'.dir.veer hset h'.shell, files := ⟨us, hhas, hown⟩ }, F := rfl, own := hown, has := hhas, sl := hs.block (Below.heap_setCell w' ⟨q, 4, none⟩ _ _ hne), ne := hne, n := rfl, lt := by simpa using hlt }, (h0.more hb h.baseW).set h.base 4 _⟩
/-- One file's cells. -/
theorem Cp.cells {w : World} {N q g n cap : Nat} {s : S} {r : RR} {us : List U3} (h : Cp w N q g n cap s r us) {k : Nat} (hk : k < s.files.length) :
    ∃ A0 n0 c0 A1 n1 c1 A2 n2 c2, w.cell? ⟨q, 4, none⟩ = some (.slice (some ⟨g, 0, none⟩) n cap) ∧ w.cell? ⟨g, k * 3, none⟩ = some (.slice A0 n0 c0) ∧ w.cell? ⟨g, k * 3 + 1, none⟩ = some (.slice A1 n1 c1) ∧ w.cell? ⟨g, k * 3 + 2, none⟩ = some (.slice A2 n2 c2) ∧ SeesF w (.agg #[.slice A0 n0 c0, .slice A1 n1 c1, .slice A2 n2 c2]) s.files[k] := by
  have hf := h.held.files
  rw [h.F] at hf
  obtain ⟨g', A0, n0, c0, A1, n1, c1, A2, n2, c2, e, hg, x0, x1, x2, -, -, -, hS⟩ := hf.at hk
  injection e with e
  injection e with e
  subst e
  obtain ⟨-, -, -, -, x4, -⟩ := h.held.box.cells
  rw [h.F] at x4
  exact ⟨A0, n0, c0, A1, n1, c1, A2, n2, c2, x4, x0, x1, x2, hS⟩
theorem Cp.soft {w : World} {N q g n cap : Nat} {s : S} {r : RR} {us : List U3} (h : Cp w N q g n cap s r us) (j : Nat) : w.frozen? ⟨g, j, none⟩ = false := h.own.frozenAt j
def set3 (w : World) (g k : Nat) (A B C : Value) : World := ((w.setCell ⟨g, k * 3, none⟩ A).setCell ⟨g, k * 3 + 1, none⟩ B).setCell ⟨g, k * 3 + 2, none⟩ C
theorem Veer.setNew {mp : Bool} {N p g : Nat} {w w1 : World} (h : Veer mp N p w w1) (hg : w.heap.size ≤ g) (hN : N ≤ g) (i : Nat) (v : Value) : Veer mp N p w (w1.setCell ⟨g, i, none⟩ v) :=
  ⟨h.below.setCell hN _, fun q o hq hp hm => by
    have h1 := h.keep q o hq hp hm
    have : q < w.heap.size := (Array.getElem?_eq_some_iff.1 hq).1
    rw [Below.heap_setCell w1 ⟨g, i, none⟩ v q (by show q ≠ g; omega)]; exact h1⟩
theorem Cp.stored {w0 w : World} {N q g n cap k : Nat} {s : S} {r : RR} {us : List U3} {f : Fl} {A B C : Value} (h : Cp w N q g n cap s r us) (hv : ∀ f ∈ s.files, FileM.valid f = true) (hf : SeesF w (.agg #[A, B, C]) f) (hvf : FileM.valid f = true) (hk : k < s.files.length)
    (h0 : Veer false N q w0 w) (hg : w0.heap.size ≤ g) (hN : N ≤ g) : RD N q { s with files := s.files.set k f } (set3 w g k A B C) ∧ Veer false N q w0 (set3 w g k A B C) := by
  have hset : Veer false N g w (set3 w g k A B C) := (((Veer.refl false N g w).set hN _ A).set hN _ B).set hN _ C
  have hown := own_store3 (k := k) h.own (by rw [h.has.len, h.n]) (by rw [h.n]; exact hk) A B C
  have hhas := (h.has.veer hv hset h.sl.shell).set (k := k) (hf.veer hvf hset h.sl.shell)
  refine ⟨⟨r, { h.held with box := h.held.box.keep hset (fun e => h.ne e.symm), dir := h.held.dir.veer hset h.sl.shell, files := ?_ }⟩, ((h0.setNew hg hN _ A).setNew hg hN _ B).setNew hg hN _ C⟩
  rw [h.F]
  refine ⟨_, hhas, ?_⟩
  rw [List.length_set, ← h.n]
  exact hown
end Go.Proofs.YtaklilhnikmmfaaGreat
