/-
  append of one file to a row of files that is known to hold nothing but slices.
-/
import Derived.Test.YtaklilhnikmmfaaGreatDiskRefSyn
namespace Go.Proofs.YtaklilhnikmmfaaGreat
open Go.RowKit StrM BlockM FileM DirM DiskM

theorem AllSl.none (w : World) : AllSl w w.heap.size := by
  intro i c hc
  simp [World.cell?] at hc
theorem FsHas.stays {w w' : World} {v : Value} {us : List U3} {fs : List Fl} (h : FsHas w us fs) (hv : ∀ f ∈ fs, FileM.valid f = true) (hst : Stays w w' v) (hb : Below 0 w w') (hsl : ∀ g, v.ownBlock = some g → AllSl w g) : FsHas w' us fs := by
  cases hob : v.ownBlock with
  | none => exact h.veer hv (⟨hb, fun q o hq _ _ => hst q o hq (by rw [hob]; simp)⟩ : Veer false 0 w.heap.size w w') (AllSl.none w).shell
  | some p => exact h.veer hv (⟨hb, fun q o hq hp _ => hst q o hq (by rw [hob]; simpa using hp)⟩ : Veer false 0 p w w') (hsl p hob).shell

set_option maxRecDepth 100000 in
theorem append_fileN {w : World} (ty : TypeId) {base n : Nat} {v : Value} {us : List U3} {u : U3} (hown : w.ownsRow base 70 3 v n (u3s us)) (hsl : ∀ g, v.ownBlock = some g → AllSl w g) (hus : ∀ c ∈ u3s us, ∃ a m cap, c = Value.slice a m cap)
    (hu : ∀ c ∈ u3 u, ∃ a m cap, c = Value.slice a m cap) (q1 : Nat) (hq : SeesN w (.slice (some ⟨q1, 0, none⟩) 1 1) 1 (u3 u)) (hn : n ≤ 100000) (hbase : base ≤ w.heap.size) :
    ∃ v' w', (Builtin.append_ #[33, 33] ty #[v, .slice (some ⟨q1, 0, none⟩) 1 1]).run Tryz.prog w = .ok v' w' ∧ w'.ownsRow base 70 3 v' (n + 1) (u3s us ++ u3 u) ∧ Below base w w' ∧ Stays w w' v ∧ ∀ g, v'.ownBlock = some g → AllSl w' g := by
  have ones : ∀ c ∈ u3 u, c.oneCell' = true := by
    intro c hc
    obtain ⟨a, m, cap, rfl⟩ := hu c hc
    rfl
  obtain ⟨v', w', hr, h2, h3, h4⟩ := append_runN nFiles ty hown hq rfl ones (by omega) (by unfold maxLen; omega) hbase
  refine ⟨v', w', hr, h2, h3, h4, ?_⟩
  obtain ⟨i0, hi, hz0, hz1, hz2⟩ := info_parts nFiles.info
  have hsrc : Go.Src Tryz.prog i0.size 33 (.slice (some ⟨q1, 0, none⟩) 1 1) 1 (u3 u) w :=
    Go.Src.ofSlice w Tryz.underlying33 ⟨q1, 0, none⟩ _ 1 _ (by rw [hz1]; rfl) (fun j c hj => hq.src j c hj) ones
  have grow : ∀ (A : Option Addr) (cap : Nat) (olds : List Value), v = .slice A n cap → cap < n + 1 → (Builtin.firstCells i0.size n (.slice A n cap)).run Tryz.prog w.drew = .ok olds.toArray w.drew → (∀ c ∈ olds, ∃ a m cap, c = Value.slice a m cap) → ∀ g, v'.ownBlock = some g → AllSl w' g := by
    intro A cap olds hv hc hold hol g hg
    have hfit : Builtin.nextslicecap (n + 1) cap * i0.bytes ≤ 281474976710656 := growslice_fits hc (by rw [hz2]; omega)
    have hr2 := run_append_grow_src w 33 33 ty 70 i0 _ Tryz.underlying33 hi hz0 A n cap olds hold _ 1 (u3 u) hsrc hc (by omega) hfit
    rw [hv, hr2] at hr
    injection hr with e1 e2
    subst e1 e2
    simp only [Value.ownBlock, Option.some.injEq] at hg
    subst hg
    refine AllSl.of_block (heap_alloc_new w.drew _) fun c hc => ?_
    simp only [Array.toList_append, List.mem_append] at hc
    rcases hc with (hc | hc) | hc
    · exact hol c hc
    · exact hu c hc
    · exact ⟨_, _, _, zero_files _ c hc⟩
  rcases hown.2 with ⟨rfl, rfl⟩ | ⟨g, cap, cur, rfl, hbg, hg, hnc, hcm, hcs, htake⟩
  · exact grow none 0 [] rfl (by omega) (run_firstCells_none w.drew i0.size 0 0 0) (by simp)
  · by_cases hroom : n + 1 ≤ cap
    · have hr2 := run_append_room (P := Tryz.prog) w 33 ty 70 i0 Tryz.underlying33 hi g n cap cur hg ⟨q1, 0, none⟩ 1 1 (u3 u) (by rw [hz1]; rfl) (fun j c hj => hq.src j c hj) ones hroom
        (by rw [hz1, hcs]; have : (u3 u).length = 3 := rfl; rw [this]; omega)
      rw [hr2] at hr
      injection hr with e1 e2
      subst e1 e2
      intro g' hg'
      simp only [Value.ownBlock, Option.some.injEq] at hg'
      subst hg'
      have hb := setRow_heap w g cur (cur.toList.take (n * i0.size) ++ u3 u ++ cur.toList.drop (n * i0.size + (u3 u).length)).toArray 70 (0, 0) hg
      have old : ∀ c ∈ cur.toList, ∃ a m cap, c = Value.slice a m cap := by
        intro c hc
        obtain ⟨i, hi', rfl⟩ := List.mem_iff_getElem.1 hc
        refine hsl g rfl i _ ?_
        rw [cell_of_row w g i cur 70 (0, 0) hg]
        rw [← Array.getElem?_toList, List.getElem?_eq_getElem hi']
      refine AllSl.of_block hb fun c hc => ?_
      simp only [List.mem_append] at hc
      rcases hc with (hc | hc) | hc
      · exact old c (List.mem_of_mem_take hc)
      · exact hu c hc
      · exact old c (List.mem_of_mem_drop hc)
    · have hcells : ∀ j c, (u3s us)[j]? = some c → w.drew.cell? ((⟨g, 0, none⟩ : Addr).add j) = some c := fun j c hj => hown.cells rfl j c hj
      refine grow (some ⟨g, 0, none⟩) cap (u3s us) rfl (by omega) (run_firstCells_some w.drew i0.size n ⟨g, 0, none⟩ n cap _ (by rw [hz1]; exact hown.1) hcells) hus

theorem append_file1 {w : World} {ops : Array Oper} {rest : List Oper} {o : Oper} {a : Act} {Q : Exit → Act → World → Prop} (hgd : o.guard = none) (s x : Operand)
    (ho : o.op = .call { callee := .builtin .append, args := #[s, x], argTypes := #[33, 33] })
    (base : Nat) (v : Value) (n : Nat) (us : List U3) (hs : a.eval s = v) (hown : w.ownsRow base 70 3 v n (u3s us)) (hsl : ∀ g, v.ownBlock = some g → AllSl w g) (hus : ∀ c ∈ u3s us, ∃ a m cap, c = Value.slice a m cap)
    (u : U3) (ua : Array Value) (hua : ua = (u3 u).toArray) (hx : a.eval x = .slice (some ⟨w.heap.size, 0, none⟩) 1 1) (hu : ∀ c ∈ u3 u, ∃ a m cap, c = Value.slice a m cap) (hn : n ≤ 100000) (hbase : base ≤ w.heap.size)
    (h : ∀ v' w', w'.ownsRow base 70 3 v' (n + 1) (u3s us ++ u3 u) → Below base w w' → Stays w w' v → (∀ g, v'.ownBlock = some g → AllSl w' g) → wpList Tryz.prog ops Q rest (a.put o.dst v') w') : wpList Tryz.prog ops Q (o :: rest) a (w.alloc (.cells ua 70)) := by
  subst hua
  have hb := below_made w (.cells (u3 u).toArray 70)
  obtain ⟨v', w', hr, h2, h3, h4, h5⟩ := append_fileN (w := w.alloc (.cells (u3 u).toArray 70)) o.type (hown.alloc _) (fun g hg => (hsl g hg).block (hb.block g (hown.lt g hg).2)) hus hu w.heap.size (SeesN.one w 70 (u3 u)) hn (by simp; omega)
  refine Lib.wpList_append_run _ hgd s x _ _ ho v _ hs hx v' w' hr (h v' w' h2 ((hb.mono hbase).trans h3) (fun q ob hq hne => h4 q ob ?_ hne) h5)
  rw [Below.heap_alloc w _ q (Array.getElem?_eq_some_iff.1 hq).1]
  exact hq
end Go.Proofs.YtaklilhnikmmfaaGreat
