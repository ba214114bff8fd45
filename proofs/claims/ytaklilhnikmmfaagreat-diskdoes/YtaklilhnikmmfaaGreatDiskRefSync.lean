/-
  Rows of files; the walk of the reference's Sync.
-/
import Derived.Test.YtaklilhnikmmfaaGreatDiskRefList
namespace Go.Proofs.YtaklilhnikmmfaaGreat
open Go.RowKit StrM BlockM FileM DirM DiskM

theorem nFiles : NCell Tryz.prog 33 70 (.agg #[.slice none 0 0, .slice none 0 0, .slice none 0 0]) 3 72 := ⟨Tryz.underlying33, by kernel_rfl, rfl, by decide⟩
theorem SeesF.ones {w : World} {A B C : Value} {f : Fl} (h : SeesF w (.agg #[A, B, C]) f) : ∀ c ∈ u3 (A, B, C), c.oneCell' = true := by
  obtain ⟨A0, c0, A1, c1, A2, c2, e, -⟩ := h.slices
  injection e with e
  injection e with e
  injection e with e0 e
  injection e with e1 e
  injection e with e2 e
  subst e0 e1 e2
  intro c hc
  simp [u3] at hc
  rcases hc with rfl | rfl | rfl <;> rfl
theorem FsHas.ones {w : World} {us : List U3} {fs : List Fl} (h : FsHas w us fs) : ∀ c ∈ u3s us, c.oneCell' = true := by
  intro c hc
  obtain ⟨u, hu, hc⟩ := List.mem_flatMap.1 hc
  obtain ⟨k, hk, rfl⟩ := List.getElem_of_mem hu
  exact (h.file k hk (by rw [← h.len]; exact hk)).ones c hc
/-- The files' row, copied: what the copy's row holds. -/
theorem FsIn.src {w : World} {v : Value} {fs : List Fl} (h : FsIn w v fs) : ∃ us : List U3, FsHas w us fs ∧ SeesN w v fs.length (u3s us) ∧ (u3s us).length = fs.length * 3 := by
  obtain ⟨us, h1, h2⟩ := h
  exact ⟨us, h1, SeesN.of_own h2, by rw [u3s_len, h1.len]⟩
/-- Turning one element of a row of one's own. -/
theorem own_store3 {w : World} {base n k g cap : Nat} {us : List U3} (h : w.ownsRow base 70 3 (.slice (some ⟨g, 0, none⟩) n cap) n (u3s us)) (hl : us.length = n) (hk : k < n) (A B C : Value) :
    (((w.setCell ⟨g, k * 3, none⟩ A).setCell ⟨g, k * 3 + 1, none⟩ B).setCell ⟨g, k * 3 + 2, none⟩ C).ownsRow base 70 3 (.slice (some ⟨g, 0, none⟩) n cap) n (u3s (us.set k (A, B, C))) := by
  have h1 := (h.stored (k * 3) A).1
  have h2 := (h1.stored (k * 3 + 1) B).1
  have h3 := (h2.stored (k * 3 + 2) C).1
  rw [u3s_set us k A B C (by rw [hl]; exact hk)] at h3
  exact h3
theorem FsHas.set {w : World} {us : List U3} {fs : List Fl} (h : FsHas w us fs) {k : Nat} {A B C : Value} {f : Fl} (hf : SeesF w (.agg #[A, B, C]) f) : FsHas w (us.set k (A, B, C)) (fs.set k f) := by
  refine ⟨by simp [h.len], fun j h1 h2 => ?_⟩
  by_cases e : k = j
  · subst e
    simpa using hf
  · have h1' : j < us.length := by simpa using h1
    have h2' : j < fs.length := by simpa using h2
    have := h.file j h1' h2'
    simpa [List.getElem_set_ne e] using this
/-! ### A copy of the files, laid in a block that is known whole -/
def AllSl (w : World) (g : Nat) : Prop := ∀ i c, w.cell? ⟨g, i, none⟩ = some c → ∃ a n cap, c = .slice a n cap
theorem AllSl.shell {w : World} {g : Nat} (h : AllSl w g) : Shell w g := by
  refine ⟨fun i s hx => ?_, fun i n hx => ?_, fun i n B l hx _ _ => ?_⟩ <;> (obtain ⟨a, n, c, e⟩ := h i _ hx; cases e)
theorem AllSl.of_block {w : World} {g : Nat} {cs : Array Value} {t : TypeId} (hb : w.heap[g]? = some (.cells cs t (0, 0))) (h : ∀ c ∈ cs.toList, ∃ a n cap, c = .slice a n cap) : AllSl w g := by
  intro i c hc
  rw [cell_of_row w g _ _ _ (0, 0) hb] at hc
  exact h c (by rw [← Array.getElem?_toList] at hc; exact List.mem_of_getElem? hc)
theorem AllSl.block {w w' : World} {g : Nat} (h : AllSl w g) (hb : w'.heap[g]? = w.heap[g]?) : AllSl w' g := by
  intro i c hc
  exact h i c ((World.cell?_of_block (a := ⟨g, i, none⟩) hb).symm.trans hc)
theorem FsHas.slices {w : World} {us : List U3} {fs : List Fl} (h : FsHas w us fs) : ∀ c ∈ u3s us, ∃ a n cap, c = .slice a n cap := by
  intro c hc
  obtain ⟨u, hu, hc⟩ := List.mem_flatMap.1 hc
  obtain ⟨k, hk, rfl⟩ := List.getElem_of_mem hu
  obtain ⟨A0, c0, A1, c1, A2, c2, e, -⟩ := (h.file k hk (by rw [← h.len]; exact hk)).slices
  injection e with e
  injection e with e
  injection e with e0 e
  injection e with e1 e
  injection e with e2 e
  simp [u3, e0, e1, e2] at hc
  rcases hc with rfl | rfl | rfl <;> exact ⟨_, _, _, rfl⟩

theorem zero_files (n : Nat) : ∀ c ∈ (Builtin.zeroCells (Value.agg #[.slice none 0 0, .slice none 0 0, .slice none 0 0]).cells n).toList, c = .slice none 0 0 := by
  intro c hc
  unfold Builtin.zeroCells at hc
  simp only [Array.toList_map, List.mem_map] at hc
  obtain ⟨i, _, rfl⟩ := hc
  show (#[Value.slice none 0 0, .slice none 0 0, .slice none 0 0])[i % 3]! = _
  have h3 : i % 3 < 3 := Nat.mod_lt _ (by decide)
  generalize i % 3 = j at *
  match j, h3 with
  | 0, _ | 1, _ | 2, _ => rfl
set_option maxRecDepth 100000 in
theorem copy_files {w : World} (ty : TypeId) {A : Option Addr} {v : Value} {us : List U3} {fs : List Fl} (hh : FsHas w us fs) (hs : SeesN w v fs.length (u3s us)) (hpos : 0 < fs.length) (hlim : fs.length ≤ 100000) :
    ∃ cap w', (Builtin.append_ #[33, 33] ty #[.slice A 0 0, v]).run Tryz.prog w = .ok (.slice (some ⟨w.heap.size, 0, none⟩) fs.length cap) w' ∧
      w'.ownsRow w.heap.size 70 3 (.slice (some ⟨w.heap.size, 0, none⟩) fs.length cap) fs.length (u3s us) ∧ AllSl w' w.heap.size ∧ Below w.heap.size w w' := by
  obtain ⟨a, c, rfl, hc, h0 | ⟨g, off, rfl, hg, hcell⟩⟩ := hs
  · exfalso
    have := u3s_len us
    rw [h0, hh.len] at this
    simp at this; omega
  · obtain ⟨i0, hi, hz0, hz1, hz2⟩ := info_parts nFiles.info
    have hlen : (u3s us).length = fs.length * 3 := by rw [u3s_len, hh.len]
    have hsrc : Go.Src Tryz.prog i0.size 33 (.slice (some ⟨g, off, none⟩) fs.length c) fs.length (u3s us) w :=
      Go.Src.ofSlice w Tryz.underlying33 ⟨g, off, none⟩ _ c _ (by rw [hlen, hz1]) (fun j c hj => by rw [Addr.add_lit]; exact hcell j c hj) hh.ones
    have hold : (Builtin.firstCells i0.size 0 (.slice A 0 0)).run Tryz.prog w.drew = .ok ([] : List Value).toArray w.drew := by
      cases A with
      | none => exact run_firstCells_none w.drew i0.size 0 0 0
      | some ad' => exact run_firstCells_some w.drew i0.size 0 ad' 0 0 [] (by simp) (by simp)
    have hfit : Builtin.nextslicecap (0 + fs.length) 0 * i0.bytes ≤ 281474976710656 := growslice_fits (by omega) (by rw [hz2]; omega)
    have hr := run_append_grow_src w 33 33 ty 70 i0 _ Tryz.underlying33 hi hz0 A 0 0 [] hold _ fs.length (u3s us) hsrc (by omega) (by omega) hfit
    have hge := grownCap_ge w (0 + fs.length) 0 70
    have hcm : grownCap w (0 + fs.length) 0 70 ≤ maxLen := grownCap_le_maxLen w _ _ _ (by unfold maxLen; omega)
    simp only [Nat.zero_add, List.nil_append] at hr hge hcm
    refine ⟨_, _, hr, ?_, ?_, ⟨rfl, rfl, rfl, by simp, fun k hk => heap_alloc_old w.drew _ k hk⟩⟩
    · refine ⟨hlen, .inr ⟨w.heap.size, _, _, rfl, Nat.le_refl _, heap_alloc_new w.drew _, hge, hcm, ?_, ?_⟩⟩
      · simp only [Array.size_append, List.size_toArray, size_zeroCells, hlen]
        rw [show (Value.agg #[.slice none 0 0, .slice none 0 0, .slice none 0 0]).cells.size = 3 from rfl, ← Nat.add_mul]
        congr 1
        omega
      · simp only [Array.toList_append]
        rw [← hlen]
        exact List.take_left
    · refine AllSl.of_block (heap_alloc_new w.drew _) fun c hc => ?_
      simp only [Array.toList_append, List.mem_append] at hc
      rcases hc with hc | hc
      · exact hh.slices c hc
      · exact ⟨_, _, _, zero_files _ c hc⟩
end Go.Proofs.YtaklilhnikmmfaaGreat
