/-
  The walk of the reference's Pieces.
-/
import Derived.Test.YtidhdalfcamhjaaBlockPieces
import Derived.Deep.RegionLaw
import Derived.Laws.OwnMore
namespace Go.Proofs.Ytidhdalfcamhjaa
open Go.RowKit StrM BlockM

/-- What the reference has gathered: the last piece's bytes lie above all other bytes, and still grow. -/
def RRel (w : World) (v : Value) (l : List PB) (wr : World) : Prop :=
  PRel w v l wr ∧ ∀ i x, l = i ++ [x] → ∃ B0, B0 ≤ wr.heap.size ∧ w.heap.size ≤ B0 ∧ wr.ownsRow B0 5 1 x.2 x.1.b.length (bys x.1.b) ∧ ∀ y ∈ i, ∀ g, y.2.ownBlock = some g → g < B0

theorem RRel.start (w : World) : RRel w (.slice (some ⟨w.heap.size, 0, none⟩) 0 0) [] (w.alloc (.cells #[] 54)) := by
  refine ⟨⟨World.ownsRow_made w #[] 0 (Nat.le_refl _) (by decide) rfl, (fun _ h => nomatch h), below_made w _⟩, fun i x h => ?_⟩
  cases i <;> simp at h

/-- A new piece, without bytes. -/
theorem RRel.new {w wr w2 : World} {v v' : Value} {l : List PB} {q : Int} (h : PRel w v l wr)
    (ho : w2.ownsRow w.heap.size 54 2 v' (l.length + 1) (pcs (l ++ [(⟨q, []⟩, .slice none 0 0)]))) (hb2 : Below w.heap.size wr w2) (hst : Stays wr w2 v) : RRel w v' (l ++ [(⟨q, []⟩, .slice none 0 0)]) w2 := by
  have hP := h.add (u := (⟨q, []⟩, .slice none 0 0)) (Below.refl _ _) (World.ownsRow_nil _ _ _ _) ho hb2 hst
  refine ⟨hP, fun i x he => ?_⟩
  obtain ⟨rfl, hx⟩ := List.append_inj' he rfl
  have hx : (⟨q, []⟩, .slice none 0 0) = x := by simpa using hx
  subst hx
  exact ⟨w2.heap.size, Nat.le_refl _, hP.2.2.size, World.ownsRow_nil _ _ _ _, fun y hy g hg => ((hP.2.1 y (List.mem_append_left _ hy)).lt g hg).2⟩

theorem pcs_set (i : List PB) (x : PB) (b : List UInt8) (u : Value) : (pcs (i ++ [x])).set (i.length * 2 + 1) u = pcs (i ++ [(⟨x.1.p, b⟩, u)]) := by
  rw [pcs_add, pcs_add, List.set_append_right _ _ (by rw [pcs_len]; omega), pcs_len, show i.length * 2 + 1 - i.length * 2 = 1 by omega]
  rfl

/-- What stands after a byte was appended to the last piece's bytes, ahead of the store. -/
structure RMid (w : World) (B0 g cap : Nat) (i : List PB) (x : PB) (c : UInt8) (v5 : Value) (w5 : World) : Prop where
  row : w5.ownsRow w.heap.size 54 2 (.slice (some ⟨g, 0, none⟩) (i.length + 1) cap) (i.length + 1) (pcs (i ++ [x]))
  olds : ∀ y ∈ i, w5.ownsRow w.heap.size 5 1 y.2 y.1.b.length (bys y.1.b)
  last : w5.ownsRow B0 5 1 v5 (x.1.b.length + 1) (bys (x.1.b ++ [c]))
  bel : Below w.heap.size w w5
  le : B0 ≤ w5.heap.size

theorem RMid.of {w wr w5 : World} {B0 g cap : Nat} {i : List PB} {x : PB} {c : UInt8} {v5 : Value} {cv : Int} (hc : cv = (c.toNat : Int)) (h : PRel w (.slice (some ⟨g, 0, none⟩) (i.length + 1) cap) (i ++ [x]) wr) (h1 : B0 ≤ wr.heap.size) (h2 : w.heap.size ≤ B0)
    (hl : wr.ownsRow B0 5 1 x.2 x.1.b.length (bys x.1.b)) (hlt : ∀ y ∈ i, ∀ g, y.2.ownBlock = some g → g < B0)
    (ho : w5.ownsRow B0 5 1 v5 (x.1.b.length + 1) (bys x.1.b ++ [.int .u8 cv])) (hb : Below B0 wr.drew w5) (hst : Stays wr.drew w5 x.2) : RMid w B0 g cap i x c v5 w5 := by
  subst hc
  obtain ⟨p1, p2, p3⟩ := h
  rw [List.length_append] at p1
  have hb' : Below B0 wr w5 := (below_drew wr h1).trans hb
  have hst' : Stays wr w5 x.2 := hst
  refine ⟨own_keep p1 hst' (own_diff (by decide) hl p1), fun y hy => ?_, ?_, p3.trans (hb'.mono h2), Nat.le_trans h1 hb'.size⟩
  · refine own_keep (p2 y (List.mem_append_left _ hy)) hst' ?_
    cases hyb : y.2.ownBlock with
    | none => exact .inl rfl
    | some q =>
      right
      intro e
      have := hlt y hy q hyb
      have := (hl.lt q e.symm).1
      omega
  · rw [bys_add]; simpa [bys] using ho

theorem RMid.cell {w w5 : World} {B0 g cap : Nat} {i : List PB} {x : PB} {c : UInt8} {v5 : Value} (h : RMid w B0 g cap i x c v5 w5) : w5.cell? ⟨g, i.length * 2 + 1, none⟩ = some x.2 ∧ w5.frozen? ⟨g, i.length * 2 + 1, none⟩ = false := by
  refine ⟨?_, h.row.frozenAt _⟩
  rw [h.row.cellAt _ (by omega)]
  have := (pcs_at (i ++ [x]) (k := i.length) (by simp)).2
  simpa using this

theorem RMid.done {w w5 : World} {B0 g cap : Nat} {i : List PB} {x : PB} {c : UInt8} {v5 : Value} (h : RMid w B0 g cap i x c v5 w5) (h2 : w.heap.size ≤ B0) (hlt : ∀ y ∈ i, ∀ g, y.2.ownBlock = some g → g < B0) :
    RRel w (.slice (some ⟨g, 0, none⟩) (i.length + 1) cap) (i ++ [(⟨x.1.p, x.1.b ++ [c]⟩, v5)]) (w5.setCell ⟨g, i.length * 2 + 1, none⟩ v5) := by
  obtain ⟨s1, s2⟩ := h.row.stored (i.length * 2 + 1) v5
  rw [pcs_set i x (x.1.b ++ [c])] at s1
  have hl : (x.1.b ++ [c]).length = x.1.b.length + 1 := by simp
  have hlast : (w5.setCell ⟨g, i.length * 2 + 1, none⟩ v5).ownsRow B0 5 1 v5 (x.1.b ++ [c]).length (bys (x.1.b ++ [c])) := by
    rw [hl]; exact h.last.kept s2 (own_diff (by decide) h.row h.last)
  have hg : w.heap.size ≤ g := (h.row.lt g rfl).1
  refine ⟨⟨by rw [List.length_append]; exact s1, fun y hy => ?_, h.bel.setCell hg _⟩, fun j y he => ?_⟩
  · rcases List.mem_append.1 hy with hy | hy
    · exact (h.olds y hy).kept s2 (own_diff (by decide) h.row (h.olds y hy))
    · have : y = (⟨x.1.p, x.1.b ++ [c]⟩, v5) := by simpa using hy
      subst this
      exact own_baseN hlast h2
  · obtain ⟨rfl, hx⟩ := List.append_inj' he rfl
    have hx : ((⟨x.1.p, x.1.b ++ [c]⟩, v5) : PB) = y := by simpa using hx
    subst hx
    exact ⟨B0, Nat.le_trans h.le s2.size, h2, hlast, hlt⟩

theorem RRel.opened {w W : World} {V : Value} {i : List PB} {x : PB} (h : RRel w V (i ++ [x]) W) :
    ∃ g cap B0 Ax cx kk nb, kk = i.length ∧ nb = x.1.b.length ∧ V = .slice (some ⟨g, 0, none⟩) (kk + 1) cap ∧ x.2 = .slice Ax nb cx ∧ g < W.heap.size ∧ W.cell? ⟨g, kk * 2 + 1, none⟩ = some (.slice Ax nb cx) ∧
      B0 ≤ W.heap.size ∧ w.heap.size ≤ B0 ∧ W.ownsRow B0 5 1 x.2 x.1.b.length (bys x.1.b) ∧ ∀ y ∈ i, ∀ g, y.2.ownBlock = some g → g < B0 := by
  obtain ⟨B0, h1, h2, h3, h4⟩ := h.2 i x rfl
  obtain ⟨Ax, cx, hxe, -⟩ := own_slice h3
  rcases own_form2 h.1.1 with ⟨_, h0, _⟩ | ⟨g, cap, rfl, _, hlt, _, _, hc⟩
  · simp at h0
  · refine ⟨g, cap, B0, Ax, cx, i.length, x.1.b.length, rfl, rfl, by simp, hxe, hlt, ?_, h1, h2, h3, h4⟩
    rw [hc _ (by simp; omega), ← hxe]
    have := (pcs_at (i ++ [x]) (k := i.length) (by simp)).2
    simpa using this

set_option maxHeartbeats 4000000 in
set_option maxRecDepth 100000 in
theorem rpieces_any (p : Int) (A : Option Addr) (len cap : Nat) (b : List UInt8) (w : World) (hs : SeesV w (.slice A len cap) (bys b)) (hlen : b.length = len) (hmax : len ≤ 1000000) :
    Calls Try.prog 24 #[.int .i64 p, .slice A len cap] w (PiecesPost p b w) := by
  by_cases h1 : p < 0
  · have HP := Lib.hid (PiecesPost.neg (b := b) (w := w) h1)
    clear hs hlen
    go_enter Try.func24, Try.ntmps24
    go_wp2_with fail
    go_ret2
    exact HP.out
  · obtain ⟨n, rfl⟩ : ∃ n : Nat, p = n := ⟨p.toNat, by omega⟩
    by_cases h2 : n + len ≤ 65536
    · have HP := Lib.hid (fun w' v (hv : SeesP w' v (pieces n b)) (hb : Below w.heap.size w w') => PiecesPost.fits (w := w) (n := n) (b := b) (by omega) hv hb)
      have HS := Lib.hid hs
      have HL := Lib.hid hlen
      have h1' : decide ((n : Int) < 0) = false := by simp
      have h3' : decide ((65536 : Int) < (n : Int)) = false := by simp; omega
      have h4' : decide ((65536 : Int) - (n : Int) < (len : Int)) = false := by simp; omega
      have hn : n ≤ 100000 := by omega
      have hlm : len ≤ 100000 := by omega
      have H65 := Lib.hid h2
      clear hs hlen h1 h2
      go_enter Try.func24, Try.ntmps24
      go_wp2_with fail
      go_loopw [6, 7, 8] (fun v i _ wr => ∃ (k : Nat) (l : List PB), k ≤ len ∧ i = .int .i64 (k : Int) ∧ l.map Prod.fst = pieces n (b.take k) ∧ RRel w v l wr) (fun _ i _ _ => len - (intOf i).toNat)
      case atStart => exact ⟨0, [], Nat.zero_le _, rfl, by simp [pieces_nil], RRel.start w⟩
      case round =>
        obtain ⟨k, l, hk, rfl, hl, hR⟩ := hrel
        by_cases hlt : k < len
        · have hkb : k < b.length := by rw [HL.out]; exact hlt
          have hsn := pieces_snoc n (b.take k) b[k]
          rw [← List.take_succ_eq_append_getElem hkb, show (b.take k).length = k by rw [List.length_take]; omega, ← hl] at hsn
          have hll : l.length ≤ 100000 := by
            have h := congrArg List.length hl
            have h2 := pieces_len n (b.take k)
            rw [List.length_map] at h
            rw [List.length_take] at h2
            omega
          obtain ⟨gb, ob, hA1, hgb, cb⟩ := HS.out.cell hkb
          subst hA1
          have CB := Lib.hid (show ∀ W, Below w.heap.size w W → W.cell? ⟨gb, ob + k, none⟩ = some (.int .u8 (b[k].toNat : Int)) from fun W hW => (hW.cell (p := ⟨gb, ob + k, none⟩) hgb).trans cb)
          obtain ⟨c, hc⟩ : ∃ c : UInt8, c = b[k] := ⟨_, rfl⟩
          rw [← hc] at hsn CB
          clear hc cb
          have HR := Lib.hid hR
          have hli : (k : Int) < (len : Int) := by omega
          clear hR
          rcases hsn with ⟨hcond, hnext⟩ | ⟨hcond, i', x', hi, hnext⟩
          · have HNX := Lib.hid hnext
            have hcb : k = 0 ∨ ¬ k = 0 ∧ (((n : Int) + (k : Int)) % 16 == 0) = true := by
              by_cases h : k = 0
              · exact .inl h
              · right; exact ⟨h, by rw [beq_iff_eq]; omega⟩
            have hsz := HR.out.1.2.2.size
            have hll1 : l.length + 1 ≤ 1000000 := by omega
            clear hcond hnext
            rcases hcb with hk0 | ⟨hk0, hk1⟩
            · subst hk0
              go_wp2_with (at_builtin; refine append_piece rfl _ _ rfl w.heap.size _ _ _ rfl HR.out.1.1 (⟨((n + 0 : Nat) : Int), []⟩, .slice none 0 0) rfl rfl hll1 hsz ?_)
              intro v2 w2 ho hb2 hst
              have HR2 := Lib.hid (RRel.new (q := ((n : Nat) : Int)) HR.out.1 ho hb2 hst)
              clear ho hb2 hst
              obtain ⟨g, cap5, B0, Ax, cx, kk, nb, hkk, hnb, hV, hxe, hg, hcx, hB1, hB2, hB3, hB4⟩ := HR2.out.opened
              have HP1 := Lib.hid (show PRel w (.slice (some ⟨g, 0, none⟩) ((l).length + 1) cap5) (l ++ [(⟨((n : Nat) : Int), []⟩, .slice none 0 0)]) w2 by rw [← hkk, ← hV]; exact HR2.out.1)
              subst hV
              obtain ⟨cv, hcv⟩ : ∃ cv : Int, cv = (c.toNat : Int) := ⟨_, rfl⟩
              have hcb := CB.out _ HR2.out.1.2.2
              rw [← hcv] at hcb
              rw [Nat.add_zero] at hcb
              have hcxa : (w2.drew.alloc (.cells #[.int .u8 cv] 5)).cell? ⟨g, kk * 2 + 1, none⟩ = some (.slice Ax nb cx) := ((below_made w2.drew (.cells #[.int .u8 cv] 5)).cell (p := ⟨g, kk * 2 + 1, none⟩) hg).trans hcx
              have OD := Lib.hid (show w2.drew.ownsRow B0 5 1 (.slice Ax nb cx) nb (bys ((⟨((n : Nat) : Int), []⟩, .slice none 0 0) : PB).1.b) by rw [← hxe, hnb]; exact hB3.drew)
              have HKK := Lib.hid hkk
              have HNB := Lib.hid hnb
              have HXE := Lib.hid hxe
              have H3 := Lib.hid hB3
              have H4 := Lib.hid hB4
              have HCV := Lib.hid hcv
              have hkx : (kk : Int) < (kk : Int) + 1 := by omega
              have hkl : kk ≤ 200000 := by have := HKK.out; omega
              have hnl : nb + 1 ≤ 200000 := by have := HNB.out; simp at this; omega
              have h1 : (nb + 1) * 1 ≤ 140737488355328 := by omega
              have h2 : nb + 1 ≤ maxLen := by unfold maxLen; omega
              have h3 : B0 ≤ w2.drew.heap.size := hB1
              have MI := Lib.hid (show ∀ v5 w5, w5.ownsRow B0 5 1 v5 (nb + 1) (bys ((⟨((n : Nat) : Int), []⟩, .slice none 0 0) : PB).1.b ++ [.int .u8 cv]) → Below B0 w2.drew w5 → Stays w2.drew w5 (.slice Ax nb cx) → RMid w B0 g cap5 (l) (⟨((n : Nat) : Int), []⟩, .slice none 0 0) c v5 w5 from fun v5 w5 ho hb hst => RMid.of HCV.out HP1.out hB1 hB2 H3.out H4.out (by rw [← HNB.out]; exact ho) hb (by rw [HXE.out]; exact hst))
              have MC := Lib.hid (show ∀ v5 w5, RMid w B0 g cap5 (l) (⟨((n : Nat) : Int), []⟩, .slice none 0 0) c v5 w5 → w5.cell? ⟨g, kk * 2 + 1, none⟩ = some (.slice Ax nb cx) ∧ w5.frozen? ⟨g, kk * 2 + 1, none⟩ = false from fun v5 w5 h => by rw [HKK.out, ← HXE.out]; exact h.cell)
              clear hkk hnb hxe hB3 hB4 hcv
              go_wp2_with fail
              go_region_law (refine step_append_one_k oneByte rfl (.tmp 52) (.tmp 57) rfl B0 (.slice Ax nb cx) nb (bys ((⟨((n : Nat) : Int), []⟩, .slice none 0 0) : PB).1.b) (by simp [Act.eval]) OD.out (.int .u8 cv) rfl (by simp [Act.eval]) h1 h2 h3 ?_; intro v5 w5 ho hb hst; obtain ⟨A9, c9, rfl, -⟩ := own_slice ho; have MM := Lib.hid (MI.out _ w5 ho hb hst); clear ho hb hst; obtain ⟨hm1, hm2⟩ := MC.out _ w5 MM.out)
              all_goals
                have HD := Lib.hid (show RRel w (.slice (some ⟨g, 0, none⟩) (kk + 1) cap5) (l ++ [(⟨((⟨((n : Nat) : Int), []⟩, .slice none 0 0) : PB).1.p, ((⟨((n : Nat) : Int), []⟩, .slice none 0 0) : PB).1.b ++ [c]⟩, .slice A9 (nb + 1) c9)]) (w5.setCell ⟨g, kk * 2 + 1, none⟩ (.slice A9 (nb + 1) c9)) by rw [HKK.out]; exact MM.out.done hB2 H4.out)
                clear hm1 hm2
                go_wp2_with fail
                go_roundw
                case rel => exact ⟨0 + 1, _, by omega, by go_num, by rw [HNX.out]; simp, HD.out⟩
                case measure => simp [intOf]; omega
            · have hk0' : ((k : Int) == 0) = false := by simpa using hk0
              go_wp2_with (at_builtin; refine append_piece rfl _ _ rfl w.heap.size _ _ _ rfl HR.out.1.1 (⟨(n : Int) + (k : Int), []⟩, .slice none 0 0) rfl rfl hll1 hsz ?_)
              intro v2 w2 ho hb2 hst
              have HR2 := Lib.hid (RRel.new (q := (n : Int) + (k : Int)) HR.out.1 ho hb2 hst)
              clear ho hb2 hst
              obtain ⟨g, cap5, B0, Ax, cx, kk, nb, hkk, hnb, hV, hxe, hg, hcx, hB1, hB2, hB3, hB4⟩ := HR2.out.opened
              have HP1 := Lib.hid (show PRel w (.slice (some ⟨g, 0, none⟩) ((l).length + 1) cap5) (l ++ [(⟨(n : Int) + (k : Int), []⟩, .slice none 0 0)]) w2 by rw [← hkk, ← hV]; exact HR2.out.1)
              subst hV
              obtain ⟨cv, hcv⟩ : ∃ cv : Int, cv = (c.toNat : Int) := ⟨_, rfl⟩
              have hcb := CB.out _ HR2.out.1.2.2
              rw [← hcv] at hcb
              have hcxa : (w2.drew.alloc (.cells #[.int .u8 cv] 5)).cell? ⟨g, kk * 2 + 1, none⟩ = some (.slice Ax nb cx) := ((below_made w2.drew (.cells #[.int .u8 cv] 5)).cell (p := ⟨g, kk * 2 + 1, none⟩) hg).trans hcx
              have OD := Lib.hid (show w2.drew.ownsRow B0 5 1 (.slice Ax nb cx) nb (bys ((⟨(n : Int) + (k : Int), []⟩, .slice none 0 0) : PB).1.b) by rw [← hxe, hnb]; exact hB3.drew)
              have HKK := Lib.hid hkk
              have HNB := Lib.hid hnb
              have HXE := Lib.hid hxe
              have H3 := Lib.hid hB3
              have H4 := Lib.hid hB4
              have HCV := Lib.hid hcv
              have hkx : (kk : Int) < (kk : Int) + 1 := by omega
              have hkl : kk ≤ 200000 := by have := HKK.out; omega
              have hnl : nb + 1 ≤ 200000 := by have := HNB.out; simp at this; omega
              have h1 : (nb + 1) * 1 ≤ 140737488355328 := by omega
              have h2 : nb + 1 ≤ maxLen := by unfold maxLen; omega
              have h3 : B0 ≤ w2.drew.heap.size := hB1
              have MI := Lib.hid (show ∀ v5 w5, w5.ownsRow B0 5 1 v5 (nb + 1) (bys ((⟨(n : Int) + (k : Int), []⟩, .slice none 0 0) : PB).1.b ++ [.int .u8 cv]) → Below B0 w2.drew w5 → Stays w2.drew w5 (.slice Ax nb cx) → RMid w B0 g cap5 (l) (⟨(n : Int) + (k : Int), []⟩, .slice none 0 0) c v5 w5 from fun v5 w5 ho hb hst => RMid.of HCV.out HP1.out hB1 hB2 H3.out H4.out (by rw [← HNB.out]; exact ho) hb (by rw [HXE.out]; exact hst))
              have MC := Lib.hid (show ∀ v5 w5, RMid w B0 g cap5 (l) (⟨(n : Int) + (k : Int), []⟩, .slice none 0 0) c v5 w5 → w5.cell? ⟨g, kk * 2 + 1, none⟩ = some (.slice Ax nb cx) ∧ w5.frozen? ⟨g, kk * 2 + 1, none⟩ = false from fun v5 w5 h => by rw [HKK.out, ← HXE.out]; exact h.cell)
              clear hkk hnb hxe hB3 hB4 hcv
              go_wp2_with fail
              go_region_law (refine step_append_one_k oneByte rfl (.tmp 52) (.tmp 57) rfl B0 (.slice Ax nb cx) nb (bys ((⟨(n : Int) + (k : Int), []⟩, .slice none 0 0) : PB).1.b) (by simp [Act.eval]) OD.out (.int .u8 cv) rfl (by simp [Act.eval]) h1 h2 h3 ?_; intro v5 w5 ho hb hst; obtain ⟨A9, c9, rfl, -⟩ := own_slice ho; have MM := Lib.hid (MI.out _ w5 ho hb hst); clear ho hb hst; obtain ⟨hm1, hm2⟩ := MC.out _ w5 MM.out)
              all_goals
                have HD := Lib.hid (show RRel w (.slice (some ⟨g, 0, none⟩) (kk + 1) cap5) (l ++ [(⟨((⟨(n : Int) + (k : Int), []⟩, .slice none 0 0) : PB).1.p, ((⟨(n : Int) + (k : Int), []⟩, .slice none 0 0) : PB).1.b ++ [c]⟩, .slice A9 (nb + 1) c9)]) (w5.setCell ⟨g, kk * 2 + 1, none⟩ (.slice A9 (nb + 1) c9)) by rw [HKK.out]; exact MM.out.done hB2 H4.out)
                clear hm1 hm2
                go_wp2_with fail
                go_roundw
                case rel => exact ⟨k + 1, _, by omega, by go_num, by rw [HNX.out]; simp, HD.out⟩
                case measure => simp [intOf]; omega
          · obtain ⟨i, r1, hl1, hi1, hx1⟩ := List.map_eq_append_iff.1 hi
            obtain ⟨x, hr1, hx2⟩ : ∃ x, r1 = [x] ∧ x.1 = x' := by
              match r1, hx1 with
              | [x], hx1 => exact ⟨x, rfl, by simpa using hx1⟩
            subst hl1 hr1 hi1 hx2
            have HNX := Lib.hid hnext
            have hx16 : x.1.b.length ≤ 16 := by
              have hm : x.1 ∈ pieces n (b.take k) := by rw [← hl]; simp
              have hok := pieces_ok n (b.take k) (by have := H65.out; rw [List.length_take]; omega) x.1 hm
              obtain ⟨_, _, _, _, h, _⟩ := ok_facts hok
              exact h
            have hli2 : i.length ≤ 100000 := by rw [List.length_append] at hll; omega
            have hk0' : ((k : Int) == 0) = false := by rw [beq_eq_false_iff_ne]; omega
            have hk1' : (((n : Int) + (k : Int)) % 16 == 0) = false := by rw [beq_eq_false_iff_ne]; omega
            have hk0 : ¬ k = 0 := by omega
            clear hcond hnext hi hx1 hl hll
            obtain ⟨g, cap5, B0, Ax, cx, kk, nb, hkk, hnb, hV, hxe, hg, hcx, hB1, hB2, hB3, hB4⟩ := HR.out.opened
            have HP1 := Lib.hid (show PRel w (.slice (some ⟨g, 0, none⟩) ((i).length + 1) cap5) (i ++ [x]) wr by rw [← hkk, ← hV]; exact HR.out.1)
            subst hV
            obtain ⟨cv, hcv⟩ : ∃ cv : Int, cv = (c.toNat : Int) := ⟨_, rfl⟩
            have hcb := CB.out _ HR.out.1.2.2
            rw [← hcv] at hcb
            have hcxa : (wr.drew.alloc (.cells #[.int .u8 cv] 5)).cell? ⟨g, kk * 2 + 1, none⟩ = some (.slice Ax nb cx) := ((below_made wr.drew (.cells #[.int .u8 cv] 5)).cell (p := ⟨g, kk * 2 + 1, none⟩) hg).trans hcx
            have OD := Lib.hid (show wr.drew.ownsRow B0 5 1 (.slice Ax nb cx) nb (bys (x : PB).1.b) by rw [← hxe, hnb]; exact hB3.drew)
            have HKK := Lib.hid hkk
            have HNB := Lib.hid hnb
            have HXE := Lib.hid hxe
            have H3 := Lib.hid hB3
            have H4 := Lib.hid hB4
            have HCV := Lib.hid hcv
            have hkx : (kk : Int) < (kk : Int) + 1 := by omega
            have hkl : kk ≤ 200000 := by have := HKK.out; omega
            have hnl : nb + 1 ≤ 200000 := by have := HNB.out; omega
            have h1 : (nb + 1) * 1 ≤ 140737488355328 := by omega
            have h2 : nb + 1 ≤ maxLen := by unfold maxLen; omega
            have h3 : B0 ≤ wr.drew.heap.size := hB1
            have MI := Lib.hid (show ∀ v5 w5, w5.ownsRow B0 5 1 v5 (nb + 1) (bys (x : PB).1.b ++ [.int .u8 cv]) → Below B0 wr.drew w5 → Stays wr.drew w5 (.slice Ax nb cx) → RMid w B0 g cap5 (i) x c v5 w5 from fun v5 w5 ho hb hst => RMid.of HCV.out HP1.out hB1 hB2 H3.out H4.out (by rw [← HNB.out]; exact ho) hb (by rw [HXE.out]; exact hst))
            have MC := Lib.hid (show ∀ v5 w5, RMid w B0 g cap5 (i) x c v5 w5 → w5.cell? ⟨g, kk * 2 + 1, none⟩ = some (.slice Ax nb cx) ∧ w5.frozen? ⟨g, kk * 2 + 1, none⟩ = false from fun v5 w5 h => by rw [HKK.out, ← HXE.out]; exact h.cell)
            clear hkk hnb hxe hB3 hB4 hcv
            go_wp2_with fail
            go_region_law (refine step_append_one_k oneByte rfl (.tmp 52) (.tmp 57) rfl B0 (.slice Ax nb cx) nb (bys (x : PB).1.b) (by simp [Act.eval]) OD.out (.int .u8 cv) rfl (by simp [Act.eval]) h1 h2 h3 ?_; intro v5 w5 ho hb hst; obtain ⟨A9, c9, rfl, -⟩ := own_slice ho; have MM := Lib.hid (MI.out _ w5 ho hb hst); clear ho hb hst; obtain ⟨hm1, hm2⟩ := MC.out _ w5 MM.out)
            all_goals
              have HD := Lib.hid (show RRel w (.slice (some ⟨g, 0, none⟩) (kk + 1) cap5) (i ++ [(⟨(x : PB).1.p, (x : PB).1.b ++ [c]⟩, .slice A9 (nb + 1) c9)]) (w5.setCell ⟨g, kk * 2 + 1, none⟩ (.slice A9 (nb + 1) c9)) by rw [HKK.out]; exact MM.out.done hB2 H4.out)
              clear hm1 hm2
              go_wp2_with fail
              go_roundw
              case rel => exact ⟨k + 1, _, by omega, by go_num, by rw [HNX.out]; simp, HD.out⟩
              case measure => simp [intOf]; omega
        · have HX := Lib.hid (show SeesP wr u6 (pieces n b) by
            have h := hR.1.sees
            rw [hl, List.take_of_length_le (by rw [HL.out]; omega)] at h
            exact h)
          have HB := Lib.hid hR.1.2.2
          clear hR hl
          go_wp2_with fail
          go_ret2
          exact HP.out _ _ HX.out HB.out
    · have HP := Lib.hid (PiecesPost.long (p := n) (b := b) (w := w) h1 (by omega))
      have h1' : decide ((n : Int) < 0) = false := by simp
      clear hs hlen h1
      by_cases h3 : 65536 < n
      · have h3' : (65536 : Int) < (n : Int) := by omega
        clear h2 h3
        go_enter Try.func24, Try.ntmps24
        go_wp2_with fail
        go_ret2
        exact HP.out
      · have h3' : decide ((65536 : Int) < (n : Int)) = false := by simp; omega
        have h4' : (65536 : Int) - (n : Int) < (len : Int) := by omega
        have hn : n ≤ 100000 := by omega
        clear h2 h3
        go_enter Try.func24, Try.ntmps24
        go_wp2_with fail
        go_ret2
        exact HP.out
end Go.Proofs.Ytidhdalfcamhjaa
