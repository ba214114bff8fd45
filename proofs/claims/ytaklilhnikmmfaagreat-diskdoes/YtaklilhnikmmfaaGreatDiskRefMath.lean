/-
  What the reference's Reboot leaves of the files, file by file, is what a reboot leaves.
-/
import Derived.Test.YtaklilhnikmmfaaGreatDiskMath
namespace DiskM
open DirM FileM BlockM

/-- What is left of the files from place k on. -/
def rfs (l : List E) : Nat → List Fl → List Bool → List Fl
  | _, [], _ => []
  | k, f :: r, bs => if named l k then crF f bs :: rfs l (k + 1) r (bs.drop (crN f)) else zf :: rfs l (k + 1) r bs
def mfs (l : List E) : Nat → List Fl → List Fl
  | _, [] => []
  | k, f :: r => (if named l k then f else zf) :: mfs l (k + 1) r
theorem mfs_mapIdx (l : List E) : ∀ (fs : List Fl) (k : Nat), mfs l k fs = fs.mapIdx fun j f => if named l (k + j) then f else zf
  | [], k => by simp [mfs]
  | f :: r, k => by
    rw [List.mapIdx_cons, mfs, mfs_mapIdx l r (k + 1), Nat.add_zero]
    congr 1
    congr 1
    funext j
    rw [show k + 1 + j = k + (j + 1) by omega]
theorem mask_mfs (l : List E) (fs : List Fl) : mask l fs = mfs l 0 fs := by rw [mfs_mapIdx]; simp [mask]
theorem idx_next {l : List E} {k n : Nat} (hk : k < n) : idx l k n = if named l k then k :: idx l (k + 1) n else idx l (k + 1) n := by
  unfold idx
  rw [show n - k = (n - (k + 1)) + 1 by omega, List.range'_succ, List.filter_cons]
theorem idx_end (l : List E) (k : Nat) : idx l k k = [] := by simp [idx]
theorem rb_rfs (l : List E) : ∀ (r pre : List Fl) (k n : Nat) (bs : List Bool), pre.length = k → k + r.length = n → rb (idx l k n) (pre ++ mfs l k r) bs = pre ++ rfs l k r bs
  | [], pre, k, n, bs, _, hn => by
    have : n = k := by simpa using hn.symm
    subst this
    rw [idx_end]; simp [rb, mfs, rfs]
  | f :: r, pre, k, n, bs, hk, hn => by
    have hn' : k + 1 + r.length = n := by rw [← hn, List.length_cons]; omega
    rw [idx_next (by omega), mfs, rfs]
    cases h : named l k with
    | true =>
      simp only [if_true]
      rw [rb]
      have e1 : (pre ++ f :: mfs l (k + 1) r).getD k zf = f := by
        rw [List.getD_eq_getElem?_getD, ← hk, List.getElem?_append_right (Nat.le_refl _)]; simp
      have e2 : (pre ++ f :: mfs l (k + 1) r).set k (crF f bs) = (pre ++ [crF f bs]) ++ mfs l (k + 1) r := by
        rw [← hk, List.set_append_right _ _ (Nat.le_refl _)]; simp
      rw [e1, e2, rb_rfs l r (pre ++ [crF f bs]) (k + 1) n _ (by simp [hk]) hn']
      simp
    | false =>
      simp only [Bool.false_eq_true, if_false]
      rw [show pre ++ zf :: mfs l (k + 1) r = (pre ++ [zf]) ++ mfs l (k + 1) r by simp, rb_rfs l r (pre ++ [zf]) (k + 1) n _ (by simp [hk]) hn']
      simp
theorem reboot_files (l : List E) (fs : List Fl) (bs : List Bool) : rb (idx l 0 fs.length) (mask l fs) bs = rfs l 0 fs bs := by
  rw [mask_mfs]
  have := rb_rfs l fs [] 0 fs.length bs rfl (by simp)
  simpa using this

/-- How far the reference has come: behind k files, with `used` bits gone. -/
structure Far (l : List E) (fs : List Fl) (bs : List Bool) (k used : Nat) (pre : List Fl) : Prop where
  len : pre.length = k
  rest : pre ++ rfs l k (fs.drop k) (bs.drop used) = rfs l 0 fs bs
  used : used ≤ bs.length
theorem Far.start (l : List E) (fs : List Fl) (bs : List Bool) : Far l fs bs 0 0 [] := ⟨rfl, by simp, Nat.zero_le _⟩
theorem Far.yes {l : List E} {fs : List Fl} {bs : List Bool} {k used : Nat} {pre : List Fl} (h : Far l fs bs k used pre) (hk : k < fs.length) (hn : named l k = true) :
    Far l fs bs (k + 1) (min (used + crN fs[k]) bs.length) (pre ++ [crF fs[k] (bs.drop used)]) := by
  refine ⟨by simp [h.len], ?_, Nat.min_le_right _ _⟩
  have h1 := h.rest
  rw [List.drop_eq_getElem_cons hk, rfs, if_pos hn, List.drop_drop] at h1
  rw [← h1, List.append_assoc, List.singleton_append]
  congr 3
  rcases Nat.le_total (used + crN fs[k]) bs.length with hx | hx
  · rw [Nat.min_eq_left hx]
  · rw [Nat.min_eq_right hx, List.drop_length, List.drop_eq_nil_of_le hx]
theorem Far.no {l : List E} {fs : List Fl} {bs : List Bool} {k used : Nat} {pre : List Fl} (h : Far l fs bs k used pre) (hk : k < fs.length) (hn : named l k = false) :
    Far l fs bs (k + 1) used (pre ++ [zf]) := by
  refine ⟨by simp [h.len], ?_, h.used⟩
  have h1 := h.rest
  rw [List.drop_eq_getElem_cons hk, rfs, if_neg (by rw [hn]; decide)] at h1
  rw [← h1, List.append_assoc, List.singleton_append]
theorem Far.done {l : List E} {fs : List Fl} {bs : List Bool} {k used : Nat} {pre : List Fl} (h : Far l fs bs k used pre) (hk : fs.length ≤ k) : pre = rb (idx l 0 fs.length) (mask l fs) bs := by
  rw [reboot_files, ← h.rest, List.drop_eq_nil_of_le hk]; simp [rfs]
/-- A loop over the names: is one of the first i entries' nodes k + 1? -/
def namedTo (l : List E) (k i : Nat) : Bool := named (l.take i) k
theorem namedTo_zero (l : List E) (k : Nat) : namedTo l k 0 = false := by simp [namedTo, named]
theorem namedTo_next {l : List E} {k i : Nat} (hi : i < l.length) : namedTo l k (i + 1) = (namedTo l k i || decide (l[i].node = (k : Int) + 1)) := by
  unfold namedTo named
  rw [List.take_succ_eq_append_getElem hi, List.any_append]; simp
theorem namedTo_all {l : List E} {k i : Nat} (hi : l.length ≤ i) : namedTo l k i = named l k := by unfold namedTo; rw [List.take_of_length_le hi]
end DiskM
