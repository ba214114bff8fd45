/-
  Pieces appended to a list that is cut to its length and capacity; the walk of written.
-/
import Derived.Test.YtaklilhnikmmfaaGreatDiskList
import Derived.Deep.Upon
namespace Go.Proofs.YtaklilhnikmmfaaGreat
open Go.RowKit StrM BlockM FileM DirM DiskM

theorem pieces_elem : Tryz.prog.underlying 68 = some (.slice (Tryz.prog.elem 68)) := by kernel_rfl
theorem pieces_size (W : World) : (sizeOf (Tryz.prog.elem 68)).run Tryz.prog W = .ok 2 W := by kernel_rfl
/-- l[:n:n]. -/
theorem cut_full (A : Option Addr) (n c : Nat) (hk : n ≤ c) (W : World) : (Instr.sliceAt 68 (.slice A n c) none (some (.int .i64 (n : Int))) (some (.int .i64 (n : Int)))).run Tryz.prog W = .ok (.slice A n n) W := by
  rw [run_sliceAt_slice W _ _ _ _ _ pieces_elem, run_slice_hm W _ A n c pieces_elem .i64 .i64 _ _ (by omega) (by omega) (by omega), pieces_size]
  simp only [Result.andThen, Int.toNat_natCast]
  cases A <;> simp [sliced, Addr.add]

set_option maxRecDepth 100000 in
theorem append_fresh {w : World} (ty : TypeId) {A : Option Addr} {n : Nat} {u : Value} {l1 l2 : List P} (h1 : SeesP w (.slice A n n) l1) (h2 : SeesP w u l2) (hlim : n + l2.length ≤ 1000000) :
    ∃ g c w', (Builtin.append_ #[68, 68] ty #[.slice A n n, u]).run Tryz.prog w = .ok (.slice g (n + l2.length) c) w' ∧ n + l2.length ≤ c ∧ SeesP w' (.slice g (n + l2.length) c) (l1 ++ l2) ∧ Below w.heap.size w w' := by
  obtain ⟨la, rfl, ⟨⟨A', cap', e1, hA⟩, hBa⟩⟩ := h1.src
  obtain ⟨lb, rfl, ⟨⟨B, cb, rfl, hB⟩, hBb⟩⟩ := h2.src
  injection e1 with e1 e2 e3
  subst e1 e2
  obtain ⟨i0, hi, hz0, hz1, hz2⟩ := info_parts pieceInfo
  rw [List.length_map] at hlim ⊢
  by_cases hm : lb = []
  · subst hm
    have hsrc : Go.Src Tryz.prog i0.size 68 (.slice B 0 cb) 0 [] w := by
      cases B with
      | none => exact Go.Src.ofNil w Tryz.underlying68 cb
      | some ad => exact Go.Src.ofSlice w Tryz.underlying68 ad 0 cb [] (by simp) (by simp) (by simp)
    refine ⟨A, la.length, w, run_append_nothing w _ _ ty _ i0 Tryz.underlying68 hi A la.length la.length (Nat.le_refl _) _ hsrc, Nat.le_refl _, ?_, Below.refl _ _⟩
    simpa using h1
  · obtain ⟨ad, rfl, hcb⟩ : ∃ ad, B = some ad ∧ ∀ j c, (pcs lb)[j]? = some c → w.cell? (ad.add j) = some c := by
      rcases hB with h | h
      · exact absurd h hm
      · exact h
    have hpos : 0 < lb.length := List.length_pos_iff.2 hm
    have hsrc : Go.Src Tryz.prog i0.size 68 (.slice (some ad) lb.length cb) lb.length (pcs lb) w :=
      Go.Src.ofSlice w Tryz.underlying68 ad _ cb _ (by rw [pcs_len, hz1]) hcb (pcs_ones hBb)
    have hold : (Builtin.firstCells i0.size la.length (.slice A la.length la.length)).run Tryz.prog w.drew = .ok (pcs la).toArray w.drew := by
      rcases hA with rfl | ⟨ad', rfl, hca⟩
      · cases A with
        | none => exact run_firstCells_none w.drew i0.size 0 0 0
        | some ad' => exact run_firstCells_some w.drew i0.size 0 ad' 0 0 [] (by simp) (by simp)
      · exact run_firstCells_some w.drew i0.size la.length ad' la.length la.length (pcs la) (by rw [pcs_len, hz1]) (by simpa using hca)
    have hfit : Builtin.nextslicecap (la.length + lb.length) la.length * i0.bytes ≤ 281474976710656 := growslice_fits (by omega) (by rw [hz2]; omega)
    have hr := run_append_grow_src w 68 68 ty 113 i0 _ Tryz.underlying68 hi hz0 A la.length la.length (pcs la) hold _ lb.length (pcs lb) hsrc (by omega) (by omega) hfit
    have hge := grownCap_ge w (la.length + lb.length) la.length 113
    have hcm : grownCap w (la.length + lb.length) la.length 113 ≤ maxLen := grownCap_le_maxLen w _ _ _ (by unfold maxLen; omega)
    refine ⟨_, _, _, hr, hge, ?_, ⟨rfl, rfl, rfl, by simp, fun k hk => heap_alloc_old w.drew _ k hk⟩⟩
    have hb : Below w.heap.size w (w.drew.alloc (.cells ((pcs la ++ pcs lb).toArray ++ Builtin.zeroCells (Value.agg #[.int .i64 0, .slice none 0 0]).cells (grownCap w (la.length + lb.length) la.length 113 - (la.length + lb.length))) 113)) :=
      ⟨rfl, rfl, rfl, by simp, fun k hk => heap_alloc_old w.drew _ k hk⟩
    have hlen : (pcs la ++ pcs lb).length = (la.length + lb.length) * 2 := by rw [List.length_append, pcs_len, pcs_len]; omega
    have hown : World.ownsRow (w.drew.alloc (.cells ((pcs la ++ pcs lb).toArray ++ Builtin.zeroCells (Value.agg #[.int .i64 0, .slice none 0 0]).cells (grownCap w (la.length + lb.length) la.length 113 - (la.length + lb.length))) 113)) w.heap.size 113 2 (.slice (some ⟨w.heap.size, 0, none⟩) (la.length + lb.length) (grownCap w (la.length + lb.length) la.length 113)) (la.length + lb.length) (pcs (la ++ lb)) := by
      rw [pcs_add]
      refine ⟨hlen, .inr ⟨w.heap.size, _, _, rfl, Nat.le_refl _, heap_alloc_new w.drew _, hge, hcm, ?_, ?_⟩⟩
      · simp only [Array.size_append, List.size_toArray, size_zeroCells, hlen]
        rw [show (Value.agg #[.int .i64 0, .slice none 0 0]).cells.size = 2 from rfl, ← Nat.add_mul]
        congr 1
        omega
      · simp only [Array.toList_append]
        rw [← hlen]
        exact List.take_left
    have := sees_pcs hown (by rw [List.length_append]) (fun x hx => by
      rcases List.mem_append.1 hx with hx | hx
      · exact (hBa x hx).later hb
      · exact (hBb x hx).later hb)
    rw [List.map_append] at this
    exact this

theorem step_append_fresh {w : World} {ops : Array Oper} {o : Oper} {a : Act} {K : Act → World → Prop} {Q : Exit → Act → World → Prop} {E : Prop} (hgd : o.guard = none) (s x : Operand)
    (ho : o.op = .call { callee := .builtin .append, args := #[s, x], argTypes := #[68, 68] })
    (A : Option Addr) (n : Nat) (u : Value) (l1 l2 : List P) (hs : a.eval s = .slice A n n) (h1 : SeesP w (.slice A n n) l1) (hx : a.eval x = u) (h2 : SeesP w u l2) (hlim : n + l2.length ≤ 1000000)
    (h : ∀ g c w', n + l2.length ≤ c → SeesP w' (.slice g (n + l2.length) c) (l1 ++ l2) → Below w.heap.size w w' → K (a.put o.dst (.slice g (n + l2.length) c)) w') :
    if Region.wanted o (yielded ops a.tmps) = true then Oper.wp Tryz.prog o a w K Q else E := by
  have hw : Region.wanted o (yielded ops a.tmps) = true := by simp [Region.wanted, hgd]
  rw [if_pos hw]
  obtain ⟨g, c, w', hr, hc, hS, hb⟩ := append_fresh o.type h1 h2 hlim
  exact Lib.wp_append_run w s x 68 68 ho _ u hs hx _ w' hr (h g c w' hc hS hb)

/-- What written returns. -/
def GPost (f : Fl) (w : World) (e : Ending) (w' : World) : Prop := ∃ v, e = .returned v ∧ SeesG w' v f ∧ Below w.heap.size w w'
theorem SeesG.mk' {w : World} {a0 a1 a2 : Option Addr} {n0 c0 n1 c1 n2 c2 : Nat} {f : Fl} (h : SeesF w (.agg #[.slice a0 n0 c0, .slice a1 n1 c1, .slice a2 n2 c2]) f) (hc : n2 ≤ c2) : SeesG w (.agg #[.slice a0 n0 c0, .slice a1 n1 c1, .slice a2 n2 c2]) f := by
  refine ⟨h, fun A B a n c e => ?_⟩
  injection e with e
  injection e with e
  injection e with _ e
  injection e with _ e
  injection e with e _
  injection e with _ e e'
  rw [← e, ← e']; exact hc

set_option maxHeartbeats 4000000 in
set_option maxRecDepth 100000 in
theorem written_any (v u : Value) (f : Fl) (l : List P) (w : World) (hs : SeesG w v f) (hn : f.now.length ≤ 100000) (hp : f.pend.length ≤ 900000) (hu : SeesP w u l) (hl : ∀ x ∈ l, x.p ≤ 9223372036854775807) (hL : l.length ≤ 1000) :
    Calls Tryz.prog 54 #[v, u] w (GPost (wrote f l) w) := by
  obtain ⟨A0, c0, A1, c1, A2, c2, rfl, h0, h1, h2⟩ := hs.1.slices
  obtain ⟨Au, cu, rfl, -⟩ := id hu
  have hcap : f.pend.length ≤ c2 := hs.2 _ _ _ _ _ rfl
  have LA := Lib.hid (fun W (hB : Below w.heap.size w W) => lay_any A0 f.now.length c0 f.now _ l W rfl hn (h0.later hB) (hu.later hB) hl (by omega))
  unfold LayPost at LA
  have S1 := Lib.hid h1
  have P1 := Lib.hid (show SeesP w (.slice A2 f.pend.length f.pend.length) f.pend from by
    obtain ⟨a, c, e, h⟩ := h2
    injection e with e1 _ _
    subst e1
    exact ⟨_, _, rfl, h⟩)
  have U1 := Lib.hid hu
  have CF := cut_full A2 f.pend.length c2 hcap
  have B0 := Lib.hid ((below_made w (.cells #[.slice A0 f.now.length c0, .slice A1 f.sure.length c1, .slice A2 f.pend.length c2] 70)).alloc (below_made w _).size (.cells #[.slice none 0 0, .slice none 0 0, .slice none 0 0] 70))
  have X0 := Lib.hid ((FBox.made w (.slice A0 f.now.length c0) (.slice A1 f.sure.length c1) (.slice A2 f.pend.length c2)).later (below_made _ (.cells #[.slice none 0 0, .slice none 0 0, .slice none 0 0] 70)))
  have Y0 := Lib.hid (show FBox _ (w.heap.size + 1) _ _ _ by simpa using FBox.made (w.alloc (.cells #[.slice A0 f.now.length c0, .slice A1 f.sure.length c1, .slice A2 f.pend.length c2] 70)) (.slice none 0 0) (.slice none 0 0) (.slice none 0 0))
  have HL := Lib.hid (show f.pend.length + l.length ≤ 1000000 by omega)
  have HW := Lib.hid (show wrote f l = ⟨lay f.now l, f.sure, f.pend ++ l⟩ from rfl)
  generalize wrote f l = fw at *
  generalize f.now.length = n0 at *
  generalize f.sure.length = n1 at *
  generalize f.pend.length = n2 at *
  generalize hm : l.length = m at *
  have HM := Lib.hid hm
  clear hs h0 h1 h2 hn hp hu hl hL hm
  go_enter Tryz.func54, Tryz.ntmps54
  go_wp2_with fail
  generalize World.alloc (w.alloc _) _ = w0 at *
  obtain ⟨x0, x1, x2⟩ := X0.out.cells
  obtain ⟨lw, hlw⟩ : ∃ lw, lw = (bys (lay f.now l)).length := ⟨_, rfl⟩
  have LB := Lib.hid (show ∀ W, Below w0.heap.size w0 W → Calls Tryz.prog 76 #[.slice A0 n0 c0, .slice Au m cu] W fun e W' => ∃ B c, e = .returned (.slice B lw c) ∧ SeesV W' (.slice B lw c) (bys (lay f.now l)) ∧ Below W.heap.size W W' ∧ Below w0.heap.size w0 W' from
    fun W hB => (LA.out W (B0.out.trans (hB.mono B0.out.size))).mono fun e W' ⟨v, he, hs, hb⟩ => by
      obtain ⟨B, c, rfl, -⟩ := id hs
      rw [← hlw] at he hs
      exact ⟨B, c, he, hs, hb, hB.trans (hb.mono hB.size)⟩)
  have PB := Lib.hid (show ∀ W, Below w0.heap.size w0 W → SeesP W (.slice A2 n2 n2) f.pend ∧ SeesP W (.slice Au m cu) l from fun W hB => ⟨P1.out.later (B0.out.trans (hB.mono B0.out.size)), U1.out.later (B0.out.trans (hB.mono B0.out.size))⟩)
  have HC := Lib.hid (show ∀ W, Below w0.heap.size w0 W → W.cell? ⟨w.heap.size, 0, none⟩ = some (.slice A0 n0 c0) ∧ W.cell? ⟨w.heap.size, 1, none⟩ = some (.slice A1 n1 c1) from fun W hB => ⟨(X0.out.later hB).cells.1, (X0.out.later hB).cells.2.1⟩)
  have HY := Lib.hid (show ∀ W, Below w0.heap.size w0 W → FBox W (w.heap.size + 1) (.slice none 0 0) (.slice none 0 0) (.slice none 0 0) from fun W hB => Y0.out.later hB)
  have HX := Lib.hid (show ∀ (W : World) (B C : Option Addr) (c c' : Nat), Below w0.heap.size w0 W → SeesV W (.slice B lw c) (bys (lay f.now l)) → n2 + m ≤ c' → SeesP W (.slice C (n2 + m) c') (f.pend ++ l) →
      SeesG (fset W (w.heap.size + 1) (.slice B lw c) (.slice A1 n1 c1) (.slice C (n2 + m) c')) (.agg #[.slice B lw c, .slice A1 n1 c1, .slice C (n2 + m) c']) fw ∧ Below w.heap.size w (fset W (w.heap.size + 1) (.slice B lw c) (.slice A1 n1 c1) (.slice C (n2 + m) c')) ∧ FBox (fset W (w.heap.size + 1) (.slice B lw c) (.slice A1 n1 c1) (.slice C (n2 + m) c')) (w.heap.size + 1) (.slice B lw c) (.slice A1 n1 c1) (.slice C (n2 + m) c') from fun W B C c c' hB h1 hc h2 => by
    have hY := Y0.out.later hB
    have hW := B0.out.trans (hB.mono B0.out.size)
    refine ⟨SeesG.mk' ?_ hc, fset_below hW (by omega) _ _ _, hY.set _ _ _⟩
    rw [HW.out]
    exact (show SeesF W (.agg #[.slice B lw c, .slice A1 n1 c1, .slice C (n2 + m) c']) ⟨lay f.now l, f.sure, f.pend ++ l⟩ from ⟨_, _, _, rfl, h1, S1.out.later hW, h2⟩).fset hY _ _ _)
  have KD : Below w0.heap.size w0 w0.drew := below_drew _ (Nat.le_refl _)
  have hlim : n2 + l.length ≤ 1000000 := by rw [HM.out]; exact HL.out
  have hnq : w.heap.size ≠ w.heap.size + 1 := by omega
  clear hlw x2 CF hcap
  go_region_held3 (fun W => W.cell? ⟨w.heap.size, 0, none⟩ = some (.slice A0 n0 c0) ∧ W.cell? ⟨w.heap.size, 1, none⟩ = some (.slice A1 n1 c1))
    (first | exact HC.out _ (by assumption) | exact ⟨(fset_cell hnq _ _ _).trans (HC.out _ (by assumption)).1, (fset_cell hnq _ _ _).trans (HC.out _ (by assumption)).2⟩)
    (first
      | (go_at_call 76; (with_reducible refine (LB.out _ (by assumption)).mono ?_); rintro e w2 ⟨B2, c2', rfl, s2, b2, k2⟩; obtain ⟨y0, y1, y2⟩ := (HY.out _ k2).cells; obtain ⟨z0, z1, z2⟩ := (HY.out _ k2).soft; (try have q3 := s3.later b2))
      | (refine step_append_fresh rfl (.tmp 21) (.tmp 22) rfl A2 n2 (.slice Au m cu) f.pend l (by simp [Act.eval]) (PB.out _ (by assumption)).1 (by simp [Act.eval]) (PB.out _ (by assumption)).2 hlim ?_; rw [HM.out]; intro g3 c3 w3 hc3 s3 b3; have k3 : Below w0.heap.size w0 w3 := Below.trans (by assumption) (b3.mono (Below.size (by assumption))); obtain ⟨y0, y1, y2⟩ := (HY.out _ k3).cells; obtain ⟨z0, z1, z2⟩ := (HY.out _ k3).soft; (try have q2 := s2.later b3)))
  all_goals
    have HF := Lib.hid (HX.out w3 B2 g3 c2' c3 k3 q2 hc3 s3)
    clear x0 x1 LA LB PB HC HY HX s2 b2 k2 s3 b3 q2 KD k3
    go_wp2_with fail
    change bodyPost _ _ _ _ _ (fset w3 (w.heap.size + 1) (.slice B2 lw c2') (.slice A1 n1 c1) (.slice g3 (n2 + m) c3))
    generalize fset w3 (w.heap.size + 1) (.slice B2 lw c2') (.slice A1 n1 c1) (.slice g3 (n2 + m) c3) = w9 at *
    obtain ⟨t0, t1, t2⟩ := HF.out.2.2.cells
    exact bodyPost_ret (by simp [results, Tryz.results54, go_sem, t0, t1, t2]) rfl ⟨_, rfl, HF.out.1, HF.out.2.1⟩
end Go.Proofs.YtaklilhnikmmfaaGreat
