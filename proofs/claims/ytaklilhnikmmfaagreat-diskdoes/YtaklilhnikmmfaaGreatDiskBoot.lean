/-
  What Reboot needs: the nodes in order, the bits that are left, a store into the map.
-/
import Derived.Test.YtaklilhnikmmfaaGreatDiskSure
namespace Go.Proofs.YtaklilhnikmmfaaGreat
open Go.RowKit StrM BlockM FileM DirM DiskM Go.Maps

theorem named_iff {l : List E} {k : Nat} : named l k = true ↔ ∃ e ∈ l, e.node = (k : Int) + 1 := by
  unfold named
  rw [List.any_eq_true]
  constructor
  · rintro ⟨e, he, h⟩; exact ⟨e, he, by simpa using h⟩
  · rintro ⟨e, he, h⟩; exact ⟨e, he, by simpa using h⟩
theorem idx_mem {l : List E} {k n i : Nat} : i ∈ idx l k n ↔ k ≤ i ∧ i < n ∧ named l i = true := by
  unfold idx
  rw [List.mem_filter, List.mem_range']
  constructor
  · rintro ⟨⟨j, hj, rfl⟩, h⟩; exact ⟨by omega, by omega, h⟩
  · rintro ⟨h1, h2, h3⟩; exact ⟨⟨i - k, by omega, by omega⟩, h3⟩
theorem idx_len (l : List E) (k n : Nat) : (idx l k n).length ≤ n := by
  unfold idx
  refine Nat.le_trans (List.length_filter_le _ _) ?_
  rw [List.length_range']; omega
theorem idx_sorted (l : List E) (k n : Nat) : (idx l k n).Pairwise (· < ·) := by
  unfold idx
  exact List.Pairwise.filter _ (List.pairwise_lt_range')
/-- The nodes, in increasing order. -/
def nodesOf (l : List E) (n : Nat) : List Int := (idx l 0 n).map fun (i : Nat) => (i : Int) + 1
theorem nodes_len (l : List E) (n : Nat) : (nodesOf l n).length = (idx l 0 n).length := by simp [nodesOf]
theorem nodes_sorted (l : List E) (n : Nat) : (nodesOf l n).Pairwise fun x y => leI x y = true := by
  unfold nodesOf
  rw [List.pairwise_map]
  refine (idx_sorted l 0 n).imp ?_
  intro a b h
  simp only [leI, decide_eq_true_eq]; omega
theorem nodes_nodup (l : List E) (n : Nat) : (nodesOf l n).Nodup := by
  unfold nodesOf List.Nodup
  rw [List.pairwise_map]
  refine (idx_sorted l 0 n).imp ?_
  intro a b h; omega
theorem nodes_mem {l : List E} {n : Nat} (hl : ∀ e ∈ l, 1 ≤ e.node ∧ e.node ≤ (n : Int)) (m : Int) : m ∈ nodesOf l n ↔ ∃ e ∈ l, e.node = m := by
  unfold nodesOf
  rw [List.mem_map]
  constructor
  · rintro ⟨i, hi, rfl⟩
    exact named_iff.1 (idx_mem.1 hi).2.2
  · rintro ⟨e, he, rfl⟩
    obtain ⟨h1, h2⟩ := hl e he
    exact ⟨e.node.toNat - 1, idx_mem.2 ⟨Nat.zero_le _, by omega, named_iff.2 ⟨e, he, by omega⟩⟩, by omega⟩

/-- One round more. -/
theorem rb_next {L : List Nat} (fs : List Fl) (bs : List Bool) {j : Nat} (hj : j < L.length) : rb (L.drop j) fs bs = rb (L.drop (j + 1)) (fs.set L[j] (crF (fs.getD L[j] zf) bs)) (bs.drop (crN (fs.getD L[j] zf))) := by
  conv => lhs; rw [List.drop_eq_getElem_cons hj, rb]
theorem fl_succ (fs : List Fl) (i : Nat) : fl fs ((i : Int) + 1) = fs.getD i zf := by
  unfold fl
  rw [show ((i : Int) + 1).toNat - 1 = i by omega]
theorem getD_all {Q : Fl → Prop} (hz : Q zf) {fs : List Fl} (h : ∀ f ∈ fs, Q f) (i : Nat) : Q (fs.getD i zf) := by
  rcases Nat.lt_or_ge i fs.length with hk | hk
  · rw [List.getD_eq_getElem?_getD, List.getElem?_eq_getElem hk]; exact h _ (List.getElem_mem hk)
  · rw [List.getD_eq_getElem?_getD, List.getElem?_eq_none hk]; exact hz

theorem bits_elem : Tryz.prog.underlying 39 = some (.slice (Tryz.prog.elem 39)) := by kernel_rfl
theorem bits_size (W : World) : (sizeOf (Tryz.prog.elem 39)).run Tryz.prog W = .ok 1 W := by kernel_rfl
theorem bools_drop (bs : List Bool) (k : Nat) : bools (bs.drop k) = (bools bs).drop k := by simp [bools]
/-- bits[k:]. -/
def cutA (A : Option Addr) (c k : Nat) : Option Addr := if c = k then A else A.map (·.add (k * 1))
theorem cut_bits_run (A : Option Addr) (n c k : Nat) (hk : k ≤ n) (W : World) : (Instr.sliceAt 39 (.slice A n c) (some (.int .i64 (k : Int))) none none).run Tryz.prog W = .ok (.slice (cutA A c k) (n - k) (c - k)) W := by
  rw [run_sliceAt_slice W _ _ _ _ _ bits_elem, run_slice_l W _ A n c bits_elem .i64 _ (by omega) (by omega), bits_size]
  simp only [Result.andThen, Int.toNat_natCast, sliced, cutA]
theorem cut_bits {w : World} {A : Option Addr} {n c : Nat} {bs : List Bool} (h : SeesV w (.slice A n c) (bools bs)) (hn : bs.length = n) (hc : n ≤ c) {k : Nat} (hk : k ≤ n) :
    SeesV w (.slice (cutA A c k) (n - k) (c - k)) (bools (bs.drop k)) := by
  obtain ⟨A1, cap1, e, h⟩ := h
  injection e with e1 e2 e3
  subst e1 e3
  rw [bools_len] at e2
  have hl : (bools (bs.drop k)).length = n - k := by rw [bools_len, List.length_drop, hn]
  unfold cutA
  refine ⟨_, c - k, by rw [hl], ?_⟩
  by_cases h0 : n - k = 0
  · left; exact List.length_eq_zero_iff.1 (by rw [hl]; exact h0)
  · rcases h with h | ⟨g, off, rfl, hg, hcc⟩
    · have := congrArg List.length h
      rw [bools_len, List.length_nil] at this; omega
    · right
      rw [if_neg (by omega)]
      refine ⟨g, off + k, ?_, hg, fun j hj => ?_⟩
      · by_cases i0 : k = 0
        · subst i0; simp [Addr.add]
        · simp [Addr.add, i0]
      · rw [hl] at hj
        have := hcc (k + j) (by rw [bools_len, hn]; omega)
        rw [Nat.add_assoc, this]
        simp [bools]

/-- A store into the map of a disk in memory. -/
theorem Held.stored {w w' : World} {N p i k : Nat} {s : S} {r : Raw} {g : Int → Option Value} (h : Held w N p i s r k g) (hI : ∀ f ∈ s.files, FileM.valid f = true) {n : Int} {v : Value} {f : Fl} (n1 : 1 ≤ n) (n2 : n ≤ (s.files.length : Int)) (hf : FileM.valid f = true) (hv : SeesG w v f)
    (hg : w.grownBy w' (Option.some r.m)) (hm : MapAt w' r.m (k + 1) (upd g n v)) (hk : k + 1 ≤ 300 + i) : Held w' N p i { s with files := s.files.set (n.toNat - 1) f } r (k + 1) (upd g n v) ∧ Veer true N p w w' := by
  have hvr : Veer true N p w w' := (Veer.refl true N p w).grown hg h.baseM h.baseW h.map.map
  have hs := h.shell
  refine ⟨{ box := ?_, room := h.room, last := by show r.last = ((s.files.set _ f).length : Int); rw [List.length_set]; exact h.last, ops := h.ops, trip := h.trip, stop := h.stop, down := h.down, dir := h.dir.veer hvr hs, map := hm, few := hk, some := ?_, file := ?_, baseP := h.baseP, baseM := h.baseM }, hvr⟩
  · exact h.box.block (hg.block p h.box.lt (by simp; exact fun e => h.ne e.symm))
  · intro m hm'
    unfold upd
    split
    · rfl
    · exact h.some m hm'
  · intro m u hu
    show 1 ≤ m ∧ m ≤ ((s.files.set (n.toNat - 1) f).length : Int) ∧ SeesG w' u (fl (s.files.set (n.toNat - 1) f) m)
    rw [List.length_set]
    unfold upd at hu
    split at hu
    · next e =>
      cases hu
      rw [e, fl_set n1 n2]
      exact ⟨n1, n2, hv.veer hf hvr hs⟩
    · next e =>
      obtain ⟨k1, k2, k3⟩ := h.file m u hu
      rw [fl_other n1 k1 e]
      exact ⟨k1, k2, k3.veer (fl_valid hI m) hvr hs⟩

theorem own_veer {w w' : World} {mp : Bool} {N p base n : Nat} {e : TypeId} {v : Value} {xs : List Value} (h : w.ownsRow base e 1 v n xs) (hp : p < base) (hv : Veer mp N p w w') : SeesV w' v xs := by
  rcases own_form h with ⟨rfl, _, rfl⟩ | ⟨g, cap, rfl, hbg, hlt, rfl, hc⟩
  · exact ⟨none, 0, rfl, .inl rfl⟩
  · refine ⟨_, cap, rfl, .inr ⟨g, 0, rfl, Nat.lt_of_lt_of_le hlt hv.size, fun k hk => ?_⟩⟩
    rw [Nat.zero_add]
    exact hv.cell (hc k hk) (by omega)
theorem fl_mask {l : List E} {fs : List Fl} {n : Int} (h1 : 1 ≤ n) (h2 : n ≤ (fs.length : Int)) (h : ∃ e ∈ l, e.node = n) : fl (mask l fs) n = fl fs n := by
  have hk : n.toNat - 1 < fs.length := by omega
  unfold fl
  rw [List.getD_eq_getElem?_getD, List.getD_eq_getElem?_getD, List.getElem?_eq_getElem (by rw [mask_len]; exact hk), List.getElem?_eq_getElem hk, mask_at hk, if_pos]
  rw [named_iff]
  obtain ⟨e, he, hn⟩ := h
  exact ⟨e, he, by omega⟩
theorem Held.masked {w : World} {N p i k : Nat} {s : S} {r : Raw} {g : Int → Option Value} {l : List E} (h : Held w N p i s r k (sub g l)) : Held w N p i { s with files := mask l s.files } r k (sub g l) := by
  refine { h with last := by show r.last = ((mask l s.files).length : Int); rw [mask_len]; exact h.last, file := ?_ }
  intro n v hn
  obtain ⟨h1, h2, h3⟩ := h.file n v hn
  show 1 ≤ n ∧ n ≤ ((mask l s.files).length : Int) ∧ SeesG w v (fl (mask l s.files) n)
  rw [mask_len, fl_mask h1 h2 (sub_some hn).2]
  exact ⟨h1, h2, h3⟩
end Go.Proofs.YtaklilhnikmmfaaGreat
