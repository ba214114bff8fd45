/-
  Joined: BlockRefPieces FileRefWrite FileRefCrash.
-/
import Derived.Test.YtaklilhnikmmfaaGreatJBlock
import Derived.Deep.RegionLaw
import Derived.Laws.OwnMore
import Derived.Test.YtaklilhnikmmfaaGreatJFileB
/-
  The walk of the reference's Pieces.
-/
namespace Go.Proofs.YtaklilhnikmmfaaGreat
open Go.RowKit StrM BlockM

/-- What the reference has gathered: the last piece's bytes lie above all other bytes, and still grow. -/
def RRel (w : World) (v : Value) (l : List PB) (wr : World) : Prop :=
  PRel w v l wr ∧ ∀ i x, l = i ++ [x] → ∃ B0, B0 ≤ wr.heap.size ∧ w.heap.size ≤ B0 ∧ wr.ownsRow B0 5 1 x.2 x.1.b.length (bys x.1.b) ∧ ∀ y ∈ i, ∀ g, y.2.ownBlock = some g → g < B0

theorem RRel.start (w : World) : RRel w (.slice (some ⟨w.heap.size, 0, none⟩) 0 0) [] (w.alloc (.cells #[] 113)) := by
  refine ⟨⟨World.ownsRow_made w #[] 0 (Nat.le_refl _) (by decide) rfl, (fun _ h => nomatch h), below_made w _⟩, fun i x h => ?_⟩
  cases i <;> simp at h

/-- A new piece, without bytes. -/
theorem RRel.new {w wr w2 : World} {v v' : Value} {l : List PB} {q : Int} (h : PRel w v l wr)
    (ho : w2.ownsRow w.heap.size 113 2 v' (l.length + 1) (pcs (l ++ [(⟨q, []⟩, .slice none 0 0)]))) (hb2 : Below w.heap.size wr w2) (hst : Stays wr w2 v) : RRel w v' (l ++ [(⟨q, []⟩, .slice none 0 0)]) w2 := by
  have hP := h.add (u := (⟨q, []⟩, .slice none 0 0)) (Below.refl _ _) (World.ownsRow_nil _ _ _ _) ho hb2 hst
  refine ⟨hP, fun i x he => ?_⟩
  obtain ⟨rfl, hx⟩ := List.append_inj' he rfl
  have hx : (⟨q, []⟩, .slice none 0 0) = x := by simpa using hx
  subst hx
  exact ⟨w2.heap.size, Nat.le_refl _, hP.2.2.size, World.ownsRow_nil _ _ _ _, fun y hy g hg => ((hP.2.1 y (List.mem_append_left _ hy)).lt g hg).2⟩

theorem pcs_set (i : List PB) (x : PB) (b : List UInt8) (u : Value) : (pcs (i ++ [x])).set (i.length * 2 + 1) u = pcs (i ++ [(⟨x.1.p, b⟩, u)]) := by
  rw [pcs_add, pcs_add, List.set_append_right _ _ (by rw [pcs_len]; omega), pcs_len, show i.length * 2 + 1 - i.length * 2 = 1 by omega]
  rfl

/-- What stands after a byte was appended to the last piece's bytes, ahead of the store. -/
structure RMid (w : World) (B0 g cap : Nat) (i : List PB) (x : PB) (c : UInt8) (v5 : Value) (w5 : World) : Prop where
  row : w5.ownsRow w.heap.size 113 2 (.slice (some ⟨g, 0, none⟩) (i.length + 1) cap) (i.length + 1) (pcs (i ++ [x]))
  olds : ∀ y ∈ i, w5.ownsRow w.heap.size 5 1 y.2 y.1.b.length (bys y.1.b)
  last : w5.ownsRow B0 5 1 v5 (x.1.b.length + 1) (bys (x.1.b ++ [c]))
  bel : Below w.heap.size w w5
  le : B0 ≤ w5.heap.size

theorem RMid.of {w wr w5 : World} {B0 g cap : Nat} {i : List PB} {x : PB} {c : UInt8} {v5 : Value} {cv : Int} (hc : cv = (c.toNat : Int)) (h : PRel w (.slice (some ⟨g, 0, none⟩) (i.length + 1) cap) (i ++ [x]) wr) (h1 : B0 ≤ wr.heap.size) (h2 : w.heap.size ≤ B0)
    (hl : wr.ownsRow B0 5 1 x.2 x.1.b.length (bys x.1.b)) (hlt : ∀ y ∈ i, ∀ g, y.2.ownBlock = some g → g < B0)
    (ho : w5.ownsRow B0 5 1 v5 (x.1.b.length + 1) (bys x.1.b ++ [.int .u8 cv])) (hb : Below B0 wr.drew w5) (hst : Stays wr.drew w5 x.2) : RMid w B0 g cap i x c v5 w5 := by
  subst hc
  obtain ⟨p1, p2, p3⟩ := h
  rw [List.length_append] at p1
  have hb' : Below B0 wr w5 := (below_drew wr h1).trans hb
  have hst' : Stays wr w5 x.2 := hst
  refine ⟨own_keep p1 hst' (own_diff (by decide) hl p1), fun y hy => ?_, ?_, p3.trans (hb'.mono h2), Nat.le_trans h1 hb'.size⟩
  · refine own_keep (p2 y (List.mem_append_left _ hy)) hst' ?_
    cases hyb : y.2.ownBlock with
    | none => exact .inl rfl
    | some q =>
      right
      intro e
      have := hlt y hy q hyb
      have := (hl.lt q e.symm).1
      omega
  · rw [bys_add]; simpa [bys] using ho

theorem RMid.cell {w w5 : World} {B0 g cap : Nat} {i : List PB} {x : PB} {c : UInt8} {v5 : Value} (h : RMid w B0 g cap i x c v5 w5) : w5.cell? ⟨g, i.length * 2 + 1, none⟩ = some x.2 ∧ w5.frozen? ⟨g, i.length * 2 + 1, none⟩ = false := by
  refine ⟨?_, h.row.frozenAt _⟩
  rw [h.row.cellAt _ (by omega)]
  have := (pcs_at (i ++ [x]) (k := i.length) (by simp)).2
  simpa using this

theorem RMid.done {w w5 : World} {B0 g cap : Nat} {i : List PB} {x : PB} {c : UInt8} {v5 : Value} (h : RMid w B0 g cap i x c v5 w5) (h2 : w.heap.size ≤ B0) (hlt : ∀ y ∈ i, ∀ g, y.2.ownBlock = some g → g < B0) :
    RRel w (.slice (some ⟨g, 0, none⟩) (i.length + 1) cap) (i ++ [(⟨x.1.p, x.1.b ++ [c]⟩, v5)]) (w5.setCell ⟨g, i.length * 2 + 1, none⟩ v5) := by
  obtain ⟨s1, s2⟩ := h.row.stored (i.length * 2 + 1) v5
  rw [pcs_set i x (x.1.b ++ [c])] at s1
  have hl : (x.1.b ++ [c]).length = x.1.b.length + 1 := by simp
  have hlast : (w5.setCell ⟨g, i.length * 2 + 1, none⟩ v5).ownsRow B0 5 1 v5 (x.1.b ++ [c]).length (bys (x.1.b ++ [c])) := by
    rw [hl]; exact h.last.kept s2 (own_diff (by decide) h.row h.last)
  have hg : w.heap.size ≤ g := (h.row.lt g rfl).1
  refine ⟨⟨by rw [List.length_append]; exact s1, fun y hy => ?_, h.bel.setCell hg _⟩, fun j y he => ?_⟩
  · rcases List.mem_append.1 hy with hy | hy
    · exact (h.olds y hy).kept s2 (own_diff (by decide) h.row (h.olds y hy))
    · have : y = (⟨x.1.p, x.1.b ++ [c]⟩, v5) := by simpa using hy
      subst this
      exact own_baseN hlast h2
  · obtain ⟨rfl, hx⟩ := List.append_inj' he rfl
    have hx : ((⟨x.1.p, x.1.b ++ [c]⟩, v5) : PB) = y := by simpa using hx
    subst hx
    exact ⟨B0, Nat.le_trans h.le s2.size, h2, hlast, hlt⟩

theorem RRel.opened {w W : World} {V : Value} {i : List PB} {x : PB} (h : RRel w V (i ++ [x]) W) :
    ∃ g cap B0 Ax cx kk nb, kk = i.length ∧ nb = x.1.b.length ∧ V = .slice (some ⟨g, 0, none⟩) (kk + 1) cap ∧ x.2 = .slice Ax nb cx ∧ g < W.heap.size ∧ W.cell? ⟨g, kk * 2 + 1, none⟩ = some (.slice Ax nb cx) ∧
      B0 ≤ W.heap.size ∧ w.heap.size ≤ B0 ∧ W.ownsRow B0 5 1 x.2 x.1.b.length (bys x.1.b) ∧ ∀ y ∈ i, ∀ g, y.2.ownBlock = some g → g < B0 := by
  obtain ⟨B0, h1, h2, h3, h4⟩ := h.2 i x rfl
  obtain ⟨Ax, cx, hxe, -⟩ := own_slice h3
  rcases own_form2 h.1.1 with ⟨_, h0, _⟩ | ⟨g, cap, rfl, _, hlt, _, _, hc⟩
  · simp at h0
  · refine ⟨g, cap, B0, Ax, cx, i.length, x.1.b.length, rfl, rfl, by simp, hxe, hlt, ?_, h1, h2, h3, h4⟩
    rw [hc _ (by simp; omega), ← hxe]
    have := (pcs_at (i ++ [x]) (k := i.length) (by simp)).2
    simpa using this

set_option maxHeartbeats 4000000 in
set_option maxRecDepth 100000 in
theorem rpieces_any (p : Int) (A : Option Addr) (len cap : Nat) (b : List UInt8) (w : World) (hs : SeesV w (.slice A len cap) (bys b)) (hlen : b.length = len) (hmax : len ≤ 1000000) :
    Calls Tryz.prog 62 #[.int .i64 p, .slice A len cap] w (PiecesPost p b w) := by
  by_cases h1 : p < 0
  · have HP := Lib.hid (PiecesPost.neg (b := b) (w := w) h1)
    clear hs hlen
    go_enter Tryz.func62, Tryz.ntmps62
    go_wp2_with fail
    go_ret2
    exact HP.out
  · obtain ⟨n, rfl⟩ : ∃ n : Nat, p = n := ⟨p.toNat, by omega⟩
    by_cases h2 : n + len ≤ 65536
    · have HP := Lib.hid (fun w' v (hv : SeesP w' v (pieces n b)) (hb : Below w.heap.size w w') => PiecesPost.fits (w := w) (n := n) (b := b) (by omega) hv hb)
      have HS := Lib.hid hs
      have HL := Lib.hid hlen
      have h1' : decide ((n : Int) < 0) = false := by simp
      have h3' : decide ((65536 : Int) < (n : Int)) = false := by simp; omega
      have h4' : decide ((65536 : Int) - (n : Int) < (len : Int)) = false := by simp; omega
      have hn : n ≤ 100000 := by omega
      have hlm : len ≤ 100000 := by omega
      have H65 := Lib.hid h2
      clear hs hlen h1 h2
      go_enter Tryz.func62, Tryz.ntmps62
      go_wp2_with fail
      go_loopw [6, 7, 8] (fun v i _ wr => ∃ (k : Nat) (l : List PB), k ≤ len ∧ i = .int .i64 (k : Int) ∧ l.map Prod.fst = pieces n (b.take k) ∧ RRel w v l wr) (fun _ i _ _ => len - (intOf i).toNat)
      case atStart => exact ⟨0, [], Nat.zero_le _, rfl, by simp [pieces_nil], RRel.start w⟩
      case round =>
        obtain ⟨k, l, hk, rfl, hl, hR⟩ := hrel
        by_cases hlt : k < len
        · have hkb : k < b.length := by rw [HL.out]; exact hlt
          have hsn := pieces_snoc n (b.take k) b[k]
          rw [← List.take_succ_eq_append_getElem hkb, show (b.take k).length = k by rw [List.length_take]; omega, ← hl] at hsn
          have hll : l.length ≤ 100000 := by
            have h := congrArg List.length hl
            have h2 := pieces_len n (b.take k)
            rw [List.length_map] at h
            rw [List.length_take] at h2
            omega
          obtain ⟨gb, ob, hA1, hgb, cb⟩ := HS.out.cell hkb
          subst hA1
          have CB := Lib.hid (show ∀ W, Below w.heap.size w W → W.cell? ⟨gb, ob + k, none⟩ = some (.int .u8 (b[k].toNat : Int)) from fun W hW => (hW.cell (p := ⟨gb, ob + k, none⟩) hgb).trans cb)
          obtain ⟨c, hc⟩ : ∃ c : UInt8, c = b[k] := ⟨_, rfl⟩
          rw [← hc] at hsn CB
          clear hc cb
          have HR := Lib.hid hR
          have hli : (k : Int) < (len : Int) := by omega
          clear hR
          rcases hsn with ⟨hcond, hnext⟩ | ⟨hcond, i', x', hi, hnext⟩
          · have HNX := Lib.hid hnext
            have hcb : k = 0 ∨ ¬ k = 0 ∧ (((n : Int) + (k : Int)) % 16 == 0) = true := by
              by_cases h : k = 0
              · exact .inl h
              · right; exact ⟨h, by rw [beq_iff_eq]; omega⟩
            have hsz := HR.out.1.2.2.size
            have hll1 : l.length + 1 ≤ 1000000 := by omega
            clear hcond hnext
            rcases hcb with hk0 | ⟨hk0, hk1⟩
            · subst hk0
              go_wp2_with (at_builtin; refine append_piece rfl _ _ rfl w.heap.size _ _ _ rfl HR.out.1.1 (⟨((n + 0 : Nat) : Int), []⟩, .slice none 0 0) rfl rfl hll1 hsz ?_)
              intro v2 w2 ho hb2 hst
              have HR2 := Lib.hid (RRel.new (q := ((n : Nat) : Int)) HR.out.1 ho hb2 hst)
              clear ho hb2 hst
              obtain ⟨g, cap5, B0, Ax, cx, kk, nb, hkk, hnb, hV, hxe, hg, hcx, hB1, hB2, hB3, hB4⟩ := HR2.out.opened
              have HP1 := Lib.hid (show PRel w (.slice (some ⟨g, 0, none⟩) ((l).length + 1) cap5) (l ++ [(⟨((n : Nat) : Int), []⟩, .slice none 0 0)]) w2 by rw [← hkk, ← hV]; exact HR2.out.1)
              subst hV
              obtain ⟨cv, hcv⟩ : ∃ cv : Int, cv = (c.toNat : Int) := ⟨_, rfl⟩
              have hcb := CB.out _ HR2.out.1.2.2
              rw [← hcv] at hcb
              rw [Nat.add_zero] at hcb
              have hcxa : (w2.drew.alloc (.cells #[.int .u8 cv] 5)).cell? ⟨g, kk * 2 + 1, none⟩ = some (.slice Ax nb cx) := ((below_made w2.drew (.cells #[.int .u8 cv] 5)).cell (p := ⟨g, kk * 2 + 1, none⟩) hg).trans hcx
              have OD := Lib.hid (show w2.drew.ownsRow B0 5 1 (.slice Ax nb cx) nb (bys ((⟨((n : Nat) : Int), []⟩, .slice none 0 0) : PB).1.b) by rw [← hxe, hnb]; exact hB3.drew)
              have HKK := Lib.hid hkk
              have HNB := Lib.hid hnb
              have HXE := Lib.hid hxe
              have H3 := Lib.hid hB3
              have H4 := Lib.hid hB4
              have HCV := Lib.hid hcv
              have hkx : (kk : Int) < (kk : Int) + 1 := by omega
              have hkl : kk ≤ 200000 := by have := HKK.out; omega
              have hnl : nb + 1 ≤ 200000 := by have := HNB.out; simp at this; omega
              have h1 : (nb + 1) * 1 ≤ 140737488355328 := by omega
              have h2 : nb + 1 ≤ maxLen := by unfold maxLen; omega
              have h3 : B0 ≤ w2.drew.heap.size := hB1
              have MI := Lib.hid (show ∀ v5 w5, w5.ownsRow B0 5 1 v5 (nb + 1) (bys ((⟨((n : Nat) : Int), []⟩, .slice none 0 0) : PB).1.b ++ [.int .u8 cv]) → Below B0 w2.drew w5 → Stays w2.drew w5 (.slice Ax nb cx) → RMid w B0 g cap5 (l) (⟨((n : Nat) : Int), []⟩, .slice none 0 0) c v5 w5 from fun v5 w5 ho hb hst => RMid.of HCV.out HP1.out hB1 hB2 H3.out H4.out (by rw [← HNB.out]; exact ho) hb (by rw [HXE.out]; exact hst))
              have MC := Lib.hid (show ∀ v5 w5, RMid w B0 g cap5 (l) (⟨((n : Nat) : Int), []⟩, .slice none 0 0) c v5 w5 → w5.cell? ⟨g, kk * 2 + 1, none⟩ = some (.slice Ax nb cx) ∧ w5.frozen? ⟨g, kk * 2 + 1, none⟩ = false from fun v5 w5 h => by rw [HKK.out, ← HXE.out]; exact h.cell)
              clear hkk hnb hxe hB3 hB4 hcv
              go_wp2_with fail
              go_region_law (refine step_append_one_k oneByte rfl (.tmp 52) (.tmp 57) rfl B0 (.slice Ax nb cx) nb (bys ((⟨((n : Nat) : Int), []⟩, .slice none 0 0) : PB).1.b) (by simp [Act.eval]) OD.out (.int .u8 cv) rfl (by simp [Act.eval]) h1 h2 h3 ?_; intro v5 w5 ho hb hst; obtain ⟨A9, c9, rfl, -⟩ := own_slice ho; have MM := Lib.hid (MI.out _ w5 ho hb hst); clear ho hb hst; obtain ⟨hm1, hm2⟩ := MC.out _ w5 MM.out)
              all_goals
                have HD := Lib.hid (show RRel w (.slice (some ⟨g, 0, none⟩) (kk + 1) cap5) (l ++ [(⟨((⟨((n : Nat) : Int), []⟩, .slice none 0 0) : PB).1.p, ((⟨((n : Nat) : Int), []⟩, .slice none 0 0) : PB).1.b ++ [c]⟩, .slice A9 (nb + 1) c9)]) (w5.setCell ⟨g, kk * 2 + 1, none⟩ (.slice A9 (nb + 1) c9)) by rw [HKK.out]; exact MM.out.done hB2 H4.out)
                clear hm1 hm2
                go_wp2_with fail
                go_roundw
                case rel => exact ⟨0 + 1, _, by omega, by go_num, by rw [HNX.out]; simp, HD.out⟩
                case measure => simp [intOf]; omega
            · have hk0' : ((k : Int) == 0) = false := by simpa using hk0
              go_wp2_with (at_builtin; refine append_piece rfl _ _ rfl w.heap.size _ _ _ rfl HR.out.1.1 (⟨(n : Int) + (k : Int), []⟩, .slice none 0 0) rfl rfl hll1 hsz ?_)
              intro v2 w2 ho hb2 hst
              have HR2 := Lib.hid (RRel.new (q := (n : Int) + (k : Int)) HR.out.1 ho hb2 hst)
              clear ho hb2 hst
              obtain ⟨g, cap5, B0, Ax, cx, kk, nb, hkk, hnb, hV, hxe, hg, hcx, hB1, hB2, hB3, hB4⟩ := HR2.out.opened
              have HP1 := Lib.hid (show PRel w (.slice (some ⟨g, 0, none⟩) ((l).length + 1) cap5) (l ++ [(⟨(n : Int) + (k : Int), []⟩, .slice none 0 0)]) w2 by rw [← hkk, ← hV]; exact HR2.out.1)
              subst hV
              obtain ⟨cv, hcv⟩ : ∃ cv : Int, cv = (c.toNat : Int) := ⟨_, rfl⟩
              have hcb := CB.out _ HR2.out.1.2.2
              rw [← hcv] at hcb
              have hcxa : (w2.drew.alloc (.cells #[.int .u8 cv] 5)).cell? ⟨g, kk * 2 + 1, none⟩ = some (.slice Ax nb cx) := ((below_made w2.drew (.cells #[.int .u8 cv] 5)).cell (p := ⟨g, kk * 2 + 1, none⟩) hg).trans hcx
              have OD := Lib.hid (show w2.drew.ownsRow B0 5 1 (.slice Ax nb cx) nb (bys ((⟨(n : Int) + (k : Int), []⟩, .slice none 0 0) : PB).1.b) by rw [← hxe, hnb]; exact hB3.drew)
              have HKK := Lib.hid hkk
              have HNB := Lib.hid hnb
              have HXE := Lib.hid hxe
              have H3 := Lib.hid hB3
              have H4 := Lib.hid hB4
              have HCV := Lib.hid hcv
              have hkx : (kk : Int) < (kk : Int) + 1 := by omega
              have hkl : kk ≤ 200000 := by have := HKK.out; omega
              have hnl : nb + 1 ≤ 200000 := by have := HNB.out; simp at this; omega
              have h1 : (nb + 1) * 1 ≤ 140737488355328 := by omega
              have h2 : nb + 1 ≤ maxLen := by unfold maxLen; omega
              have h3 : B0 ≤ w2.drew.heap.size := hB1
              have MI := Lib.hid (show ∀ v5 w5, w5.ownsRow B0 5 1 v5 (nb + 1) (bys ((⟨(n : Int) + (k : Int), []⟩, .slice none 0 0) : PB).1.b ++ [.int .u8 cv]) → Below B0 w2.drew w5 → Stays w2.drew w5 (.slice Ax nb cx) → RMid w B0 g cap5 (l) (⟨(n : Int) + (k : Int), []⟩, .slice none 0 0) c v5 w5 from fun v5 w5 ho hb hst => RMid.of HCV.out HP1.out hB1 hB2 H3.out H4.out (by rw [← HNB.out]; exact ho) hb (by rw [HXE.out]; exact hst))
              have MC := Lib.hid (show ∀ v5 w5, RMid w B0 g cap5 (l) (⟨(n : Int) + (k : Int), []⟩, .slice none 0 0) c v5 w5 → w5.cell? ⟨g, kk * 2 + 1, none⟩ = some (.slice Ax nb cx) ∧ w5.frozen? ⟨g, kk * 2 + 1, none⟩ = false from fun v5 w5 h => by rw [HKK.out, ← HXE.out]; exact h.cell)
              clear hkk hnb hxe hB3 hB4 hcv
              go_wp2_with fail
              go_region_law (refine step_append_one_k oneByte rfl (.tmp 52) (.tmp 57) rfl B0 (.slice Ax nb cx) nb (bys ((⟨(n : Int) + (k : Int), []⟩, .slice none 0 0) : PB).1.b) (by simp [Act.eval]) OD.out (.int .u8 cv) rfl (by simp [Act.eval]) h1 h2 h3 ?_; intro v5 w5 ho hb hst; obtain ⟨A9, c9, rfl, -⟩ := own_slice ho; have MM := Lib.hid (MI.out _ w5 ho hb hst); clear ho hb hst; obtain ⟨hm1, hm2⟩ := MC.out _ w5 MM.out)
              all_goals
                have HD := Lib.hid (show RRel w (.slice (some ⟨g, 0, none⟩) (kk + 1) cap5) (l ++ [(⟨((⟨(n : Int) + (k : Int), []⟩, .slice none 0 0) : PB).1.p, ((⟨(n : Int) + (k : Int), []⟩, .slice none 0 0) : PB).1.b ++ [c]⟩, .slice A9 (nb + 1) c9)]) (w5.setCell ⟨g, kk * 2 + 1, none⟩ (.slice A9 (nb + 1) c9)) by rw [HKK.out]; exact MM.out.done hB2 H4.out)
                clear hm1 hm2
                go_wp2_with fail
                go_roundw
                case rel => exact ⟨k + 1, _, by omega, by go_num, by rw [HNX.out]; simp, HD.out⟩
                case measure => simp [intOf]; omega
          · obtain ⟨i, r1, hl1, hi1, hx1⟩ := List.map_eq_append_iff.1 hi
            obtain ⟨x, hr1, hx2⟩ : ∃ x, r1 = [x] ∧ x.1 = x' := by
              match r1, hx1 with
              | [x], hx1 => exact ⟨x, rfl, by simpa using hx1⟩
            subst hl1 hr1 hi1 hx2
            have HNX := Lib.hid hnext
            have hx16 : x.1.b.length ≤ 16 := by
              have hm : x.1 ∈ pieces n (b.take k) := by rw [← hl]; simp
              have hok := pieces_ok n (b.take k) (by have := H65.out; rw [List.length_take]; omega) x.1 hm
              obtain ⟨_, _, _, _, h, _⟩ := ok_facts hok
              exact h
            have hli2 : i.length ≤ 100000 := by rw [List.length_append] at hll; omega
            have hk0' : ((k : Int) == 0) = false := by rw [beq_eq_false_iff_ne]; omega
            have hk1' : (((n : Int) + (k : Int)) % 16 == 0) = false := by rw [beq_eq_false_iff_ne]; omega
            have hk0 : ¬ k = 0 := by omega
            clear hcond hnext hi hx1 hl hll
            obtain ⟨g, cap5, B0, Ax, cx, kk, nb, hkk, hnb, hV, hxe, hg, hcx, hB1, hB2, hB3, hB4⟩ := HR.out.opened
            have HP1 := Lib.hid (show PRel w (.slice (some ⟨g, 0, none⟩) ((i).length + 1) cap5) (i ++ [x]) wr by rw [← hkk, ← hV]; exact HR.out.1)
            subst hV
            obtain ⟨cv, hcv⟩ : ∃ cv : Int, cv = (c.toNat : Int) := ⟨_, rfl⟩
            have hcb := CB.out _ HR.out.1.2.2
            rw [← hcv] at hcb
            have hcxa : (wr.drew.alloc (.cells #[.int .u8 cv] 5)).cell? ⟨g, kk * 2 + 1, none⟩ = some (.slice Ax nb cx) := ((below_made wr.drew (.cells #[.int .u8 cv] 5)).cell (p := ⟨g, kk * 2 + 1, none⟩) hg).trans hcx
            have OD := Lib.hid (show wr.drew.ownsRow B0 5 1 (.slice Ax nb cx) nb (bys (x : PB).1.b) by rw [← hxe, hnb]; exact hB3.drew)
            have HKK := Lib.hid hkk
            have HNB := Lib.hid hnb
            have HXE := Lib.hid hxe
            have H3 := Lib.hid hB3
            have H4 := Lib.hid hB4
            have HCV := Lib.hid hcv
            have hkx : (kk : Int) < (kk : Int) + 1 := by omega
            have hkl : kk ≤ 200000 := by have := HKK.out; omega
            have hnl : nb + 1 ≤ 200000 := by have := HNB.out; omega
            have h1 : (nb + 1) * 1 ≤ 140737488355328 := by omega
            have h2 : nb + 1 ≤ maxLen := by unfold maxLen; omega
            have h3 : B0 ≤ wr.drew.heap.size := hB1
            have MI := Lib.hid (show ∀ v5 w5, w5.ownsRow B0 5 1 v5 (nb + 1) (bys (x : PB).1.b ++ [.int .u8 cv]) → Below B0 wr.drew w5 → Stays wr.drew w5 (.slice Ax nb cx) → RMid w B0 g cap5 (i) x c v5 w5 from fun v5 w5 ho hb hst => RMid.of HCV.out HP1.out hB1 hB2 H3.out H4.out (by rw [← HNB.out]; exact ho) hb (by rw [HXE.out]; exact hst))
            have MC := Lib.hid (show ∀ v5 w5, RMid w B0 g cap5 (i) x c v5 w5 → w5.cell? ⟨g, kk * 2 + 1, none⟩ = some (.slice Ax nb cx) ∧ w5.frozen? ⟨g, kk * 2 + 1, none⟩ = false from fun v5 w5 h => by rw [HKK.out, ← HXE.out]; exact h.cell)
            clear hkk hnb hxe hB3 hB4 hcv
            go_wp2_with fail
            go_region_law (refine step_append_one_k oneByte rfl (.tmp 52) (.tmp 57) rfl B0 (.slice Ax nb cx) nb (bys (x : PB).1.b) (by simp [Act.eval]) OD.out (.int .u8 cv) rfl (by simp [Act.eval]) h1 h2 h3 ?_; intro v5 w5 ho hb hst; obtain ⟨A9, c9, rfl, -⟩ := own_slice ho; have MM := Lib.hid (MI.out _ w5 ho hb hst); clear ho hb hst; obtain ⟨hm1, hm2⟩ := MC.out _ w5 MM.out)
            all_goals
              have HD := Lib.hid (show RRel w (.slice (some ⟨g, 0, none⟩) (kk + 1) cap5) (i ++ [(⟨(x : PB).1.p, (x : PB).1.b ++ [c]⟩, .slice A9 (nb + 1) c9)]) (w5.setCell ⟨g, kk * 2 + 1, none⟩ (.slice A9 (nb + 1) c9)) by rw [HKK.out]; exact MM.out.done hB2 H4.out)
              clear hm1 hm2
              go_wp2_with fail
              go_roundw
              case rel => exact ⟨k + 1, _, by omega, by go_num, by rw [HNX.out]; simp, HD.out⟩
              case measure => simp [intOf]; omega
        · have HX := Lib.hid (show SeesP wr u6 (pieces n b) by
            have h := hR.1.sees
            rw [hl, List.take_of_length_le (by rw [HL.out]; omega)] at h
            exact h)
          have HB := Lib.hid hR.1.2.2
          clear hR hl
          go_wp2_with fail
          go_ret2
          exact HP.out _ _ HX.out HB.out
    · have HP := Lib.hid (PiecesPost.long (p := n) (b := b) (w := w) h1 (by omega))
      have h1' : decide ((n : Int) < 0) = false := by simp
      clear hs hlen h1
      by_cases h3 : 65536 < n
      · have h3' : (65536 : Int) < (n : Int) := by omega
        clear h2 h3
        go_enter Tryz.func62, Tryz.ntmps62
        go_wp2_with fail
        go_ret2
        exact HP.out
      · have h3' : decide ((65536 : Int) < (n : Int)) = false := by simp; omega
        have h4' : (65536 : Int) - (n : Int) < (len : Int) := by omega
        have hn : n ≤ 100000 := by omega
        clear h2 h3
        go_enter Tryz.func62, Tryz.ntmps62
        go_wp2_with fail
        go_ret2
        exact HP.out
end Go.Proofs.YtaklilhnikmmfaaGreat

/-
  The walk of the reference's Write.
-/
namespace Go.Proofs.YtaklilhnikmmfaaGreat
open Go.RowKit StrM BlockM FileM

/-- Pieces that were there before are appended. -/
theorem KRel.app {w wr w' : World} {v v' : Value} {la lb : List PB} (h : KRel w v la wr) (hs : ∀ x ∈ lb, SeesV w x.2 (bys x.1.b)) (ho : w'.ownsRow w.heap.size 113 2 v' (la.length + lb.length) (pcs (la ++ lb))) (hb : Below w.heap.size wr w') : KRel w v' (la ++ lb) w' :=
  ⟨by rw [List.length_append]; exact ho, fun x hx => (List.mem_append.1 hx).elim (h.2.1 x) (hs x), h.2.2.trans hb⟩

set_option maxHeartbeats 4000000 in
set_option maxRecDepth 100000 in
theorem rfwrite_any (v : Value) (f : Fl) (p : Int) (A : Option Addr) (lb cb : Nat) (b : List UInt8) (w : World) (hs : SeesF w v f) (hz : Sz f) (hb : SeesV w (.slice A lb cb) (bys b)) (hlb : b.length = lb) (hmax : lb ≤ 50000) :
    Calls Tryz.prog 63 #[v, .int .i64 p, .slice A lb cb] w (NPost (wrF f p b) (wrE f p lb) w) := by
  obtain ⟨A0, c0, A1, c1, A2, c2, rfl, h0, h1, h2⟩ := hs.slices
  have RI := Lib.hid (fun W (hb : Below w.heap.size w W) => rfright_any _ f W (hs.later hb) hz)
  have PI := Lib.hid (fun W (hB : Below w.heap.size w W) => rpieces_any p A lb cb b W (hb.later hB) hlb (by omega))
  have LA := Lib.hid (fun W v2 (hB : Below w.heap.size w W) (h : SeesP W v2 (f.pend ++ pList p b)) => rlay_any A1 f.sure.length c1 f.sure v2 (f.pend ++ pList p b) W rfl hz.sure (h1.later hB) h (fun x hx => (List.mem_append.1 hx).elim (hz.places x) (pList_places p b x)) (by have := pList_len p b; have := hz.pend; rw [List.length_append]; omega))
  have S1 := Lib.hid (fun W (hB : Below w.heap.size w W) => h1.later hB)
  have S2P := Lib.hid (fun W (hB : Below w.heap.size w W) => h2.later hB)
  unfold PiecesPost at PI
  unfold LayPost at LA
  unfold NPost
  rw [hlb] at PI
  have HPL := Lib.hid (show (pList p b).length ≤ 50000 by have := pList_len p b; omega)
  have HPE := Lib.hid hz.pend
  have HLB := Lib.hid hlb
  have B0 := Lib.hid ((below_made w (.cells #[.slice A0 f.now.length c0, .slice A1 f.sure.length c1, .slice A2 f.pend.length c2] 70)).alloc (below_made w _).size (.cells #[.slice none 0 0, .slice none 0 0, .slice none 0 0] 70))
  have X0 := Lib.hid ((FBox.made w (.slice A0 f.now.length c0) (.slice A1 f.sure.length c1) (.slice A2 f.pend.length c2)).later (below_made _ (.cells #[.slice none 0 0, .slice none 0 0, .slice none 0 0] 70)))
  have Y0 := Lib.hid (show FBox _ (w.heap.size + 1) _ _ _ by simpa using FBox.made (w.alloc (.cells #[.slice A0 f.now.length c0, .slice A1 f.sure.length c1, .slice A2 f.pend.length c2] 70)) (.slice none 0 0) (.slice none 0 0) (.slice none 0 0))
  obtain ⟨n0, hn0⟩ : ∃ n, n = f.now.length := ⟨_, rfl⟩
  obtain ⟨n1, hn1⟩ : ∃ n, n = f.sure.length := ⟨_, rfl⟩
  obtain ⟨n2, hn2⟩ : ∃ n, n = f.pend.length := ⟨_, rfl⟩
  rw [← hn0] at B0 X0 Y0 RI ⊢
  rw [← hn1] at B0 X0 Y0 RI LA S1 ⊢
  rw [← hn2] at B0 X0 Y0 RI S2P HPE ⊢
  have HN2 := Lib.hid hn2
  clear hs h0 h1 h2 hz hb hn0 hn1 hn2 hlb hmax
  have VN := Lib.hid (fun h => wrF_no (f := f) h p b)
  have VE := Lib.hid (fun h => wrF_err (f := f) (p := p) (b := b) h)
  have VO := Lib.hid (fun (h : valid f = true) e => (wrF_ok (f := f) (p := p) (b := b) h e).trans (show wrote f (pList p b) = ⟨lay f.sure (f.pend ++ pList p b), f.sure, f.pend ++ pList p b⟩ by rw [wrote_ref h]; rfl))
  have WN := Lib.hid (fun h => wrE_no (f := f) h p lb)
  have WO := Lib.hid (fun h => wrE_ok (f := f) h p lb)
  rw [HLB.out] at VE VO
  generalize lay f.sure (f.pend ++ pList p b) = L at *
  go_enter Tryz.func63, Tryz.ntmps63
  go_wp2_with fail
  refine (RI.out _ B0.out).mono ?_
  rintro e w1 ⟨rfl, hb1⟩
  have B1 := Lib.hid (B0.out.trans (hb1.mono B0.out.size))
  have X1 := Lib.hid (X0.out.later hb1)
  have Y1 := Lib.hid (Y0.out.later hb1)
  clear hb1 X0 Y0 B0
  cases hv : valid f with
  | false =>
    have HF := Lib.hid (VN.out hv)
    have HE := Lib.hid (WN.out hv)
    obtain ⟨y0, y1, y2⟩ := Y1.out.cells
    obtain ⟨z0, z1, z2⟩ := Y1.out.soft
    have YF := Lib.hid (Y1.out.set (.slice none 0 0) (.slice none 0 0) (.slice none 0 0))
    have BF := Lib.hid (fset_below B1.out (show w.heap.size ≤ w.heap.size + 1 by omega) (.slice none 0 0) (.slice none 0 0) (.slice none 0 0))
    clear VN VE VO WN WO PI LA S1 S2P hv
    go_wp2_with fail
    change bodyPost _ _ _ _ _ (fset w1 (w.heap.size + 1) (.slice none 0 0) (.slice none 0 0) (.slice none 0 0))
    generalize fset w1 (w.heap.size + 1) (.slice none 0 0) (.slice none 0 0) (.slice none 0 0) = w9 at *
    obtain ⟨y0, y1, y2⟩ := YF.out.cells
    exact bodyPost_ret (by simp [results, Tryz.results63, go_sem, y0, y1, y2]; rfl) rfl ⟨_, by rw [HE.out], by rw [HF.out]; exact SeesF.zero _, BF.out⟩
  | true =>
    have HE := Lib.hid (WO.out hv)
    have VE := Lib.hid (VE.out hv)
    have VO := Lib.hid (VO.out hv)
    clear VN WN WO hv
    go_wp2_with fail
    refine (PI.out _ B1.out).mono ?_
    rintro e w2 ⟨v2, rfl, s2, hb2⟩
    obtain ⟨Al, cl, rfl, -⟩ := id s2
    have B2 := Lib.hid (B1.out.trans (hb2.mono B1.out.size))
    have X2 := Lib.hid (X1.out.later hb2)
    have Y2 := Lib.hid (Y1.out.later hb2)
    have S2 := Lib.hid s2
    clear hb2 X1 Y1 B1 s2
    obtain ⟨np, hnp⟩ : ∃ n, n = (pList p b).length := ⟨_, rfl⟩
    rw [← hnp] at S2 HPL ⊢
    have HNP := Lib.hid hnp
    clear hnp
    have hcase := pErr_cases p lb
    generalize pErr p lb = er at *
    have hE : er = 1 ∨ er = 4 ∨ er = 0 := hcase
    clear hcase
    obtain ⟨y0, y1, y2⟩ := Y2.out.cells
    obtain ⟨z0, z1, z2⟩ := Y2.out.soft
    by_cases h0 : er = 0
    · subst h0
      have HF := Lib.hid (VO.out rfl)
      clear VE VO hE
      obtain ⟨lq, hlq, hsq⟩ := (S2P.out _ B2.out).src
      obtain ⟨lp, hlp, hsp⟩ := S2.out.src
      have hq2 : lq.length = n2 := by rw [HN2.out, ← hlq, List.length_map]
      have hp2 : lp.length = np := by rw [HNP.out, ← hlp, List.length_map]
      have K0 := Lib.hid (KRel.empty w2)
      have hx2 := ((X2.out.later (below_made w2 (.cells #[] 113))).cells).2.2
      have SQ := Lib.hid hsq
      have SP := Lib.hid hsp
      have HLQ := Lib.hid hlq
      have HLP := Lib.hid hlp
      have HQ2 := Lib.hid hq2
      have HP2 := Lib.hid hp2
      clear y0 y1 y2 z0 z1 z2 hsq hsp hlq hlp hq2 hp2
      go_wp2_with (at_builtin; refine append_pieces rfl _ _ rfl w2.heap.size _ 0 [] rfl K0.out.1 _ lq rfl (SQ.out.later (below_made w2 _)) ?a1 ?a2 ?_)
      case a1 => rw [HQ2.out]; have := HPE.out; omega
      case a2 => simp
      intro va wa oa ba sta
      have KA := Lib.hid (show KRel w2 va lq wa from ⟨oa, SQ.out.2, K0.out.2.2.trans ba⟩)
      clear oa ba sta
      go_wp2_with (at_builtin; refine append_pieces rfl _ _ rfl w2.heap.size _ lq.length lq rfl KA.out.1 _ lp rfl (SP.out.later KA.out.2.2) ?a1 ?a2 ?_)
      case a1 => rw [HQ2.out, HP2.out]; have := HPE.out; have := HPL.out; omega
      case a2 => exact KA.out.2.2.size
      intro vb wb ob bb stb
      have KB := Lib.hid (show KRel w2 vb (lq ++ lp) wb from KA.out.app SP.out.2 ob bb)
      obtain ⟨Ab, cb2, rfl⟩ := own_slice2 ob
      have SB := Lib.hid (show SeesP wb (.slice Ab (lq.length + lp.length) cb2) (f.pend ++ pList p b) by
        have h := KB.out.sees
        rw [List.map_append, HLQ.out, HLP.out] at h
        exact h)
      have BB := Lib.hid (B2.out.trans (KB.out.2.2.mono B2.out.size))
      have XB := Lib.hid (X2.out.later KB.out.2.2)
      have YB := Lib.hid (Y2.out.later KB.out.2.2)
      clear ob bb stb KA K0 hx2
      generalize lq.length + lp.length = nq at *
      have BD := Lib.hid BB.out.drew
      have XD := Lib.hid (XB.out.later (below_drew _ (Nat.le_refl _)))
      have YD := Lib.hid (YB.out.later (below_drew _ (Nat.le_refl _)))
      have SD := Lib.hid (SB.out.later (below_drew _ (Nat.le_refl _)))
      obtain ⟨x0, x1, x2⟩ := XB.out.cells
      have hnq : w.heap.size ≠ w.heap.size + 1 := by omega
      go_wp2_with fail
      go_region_held3 (fun W => W.cell? ⟨w.heap.size, 0, none⟩ = some (.slice A0 n0 c0) ∧ W.cell? ⟨w.heap.size, 1, none⟩ = some (.slice A1 n1 c1) ∧ W.cell? ⟨w.heap.size, 2, none⟩ = some (.slice A2 n2 c2))
        (first | exact XD.out.cells | exact hX3.cells | exact ⟨(fset_cell hnq _ _ _).trans hX3.cells.1, (fset_cell hnq _ _ _).trans hX3.cells.2.1, (fset_cell hnq _ _ _).trans hX3.cells.2.2⟩)
        (first
          | (go_at_call 88; (with_reducible refine (LA.out _ _ BD.out SD.out).mono ?_); rintro e w3 ⟨v3, rfl, s3, b3⟩; obtain ⟨A3, c3, rfl, -⟩ := id s3; have hX3 := XD.out.later b3; have hB3 := BD.out.trans (b3.mono BD.out.size); have hY3 := YD.out.later b3; obtain ⟨y0, y1, y2⟩ := hY3.cells; obtain ⟨z0, z1, z2⟩ := hY3.soft))
      all_goals
        have YF := Lib.hid (hY3.set (.slice A3 (bys L).length c3) (.slice A1 n1 c1) (.slice Ab nq cb2))
        have HF2 := Lib.hid (show SeesF (fset w3 (w.heap.size + 1) (.slice A3 (bys L).length c3) (.slice A1 n1 c1) (.slice Ab nq cb2)) (.agg #[.slice A3 (bys L).length c3, .slice A1 n1 c1, .slice Ab nq cb2]) (wrF f p b) ∧ Below w.heap.size w (fset w3 (w.heap.size + 1) (.slice A3 (bys L).length c3) (.slice A1 n1 c1) (.slice Ab nq cb2)) from
          ⟨by rw [HF.out]; exact ⟨_, _, _, rfl, s3.fset hY3 _ _ _, (S1.out _ hB3).fset hY3 _ _ _, (SD.out.later b3).fset hY3 _ _ _⟩, fset_below hB3 (by omega) _ _ _⟩)
        clear s3 b3 hX3 hB3 hY3 y0 y1 y2 z0 z1 z2
        go_wp2_with fail
        change bodyPost _ _ _ _ _ (fset w3 (w.heap.size + 1) (.slice A3 (bys L).length c3) (.slice A1 n1 c1) (.slice Ab nq cb2))
        generalize fset w3 (w.heap.size + 1) (.slice A3 (bys L).length c3) (.slice A1 n1 c1) (.slice Ab nq cb2) = w9 at *
        obtain ⟨y0, y1, y2⟩ := YF.out.cells
        exact bodyPost_ret (by simp [results, Tryz.results63, go_sem, y0, y1, y2]; rfl) rfl ⟨_, by rw [HE.out], HF2.out.1, HF2.out.2⟩
    · rcases hE with rfl | rfl | h
      · clear h0
        have HF := Lib.hid (VE.out (by decide))
        have YF := Lib.hid (Y2.out.set (.slice none 0 0) (.slice none 0 0) (.slice none 0 0))
        have BF := Lib.hid (fset_below B2.out (show w.heap.size ≤ w.heap.size + 1 by omega) (.slice none 0 0) (.slice none 0 0) (.slice none 0 0))
        clear VE VO LA S1 S2P
        go_wp2_with fail
        change bodyPost _ _ _ _ _ (fset w2 (w.heap.size + 1) (.slice none 0 0) (.slice none 0 0) (.slice none 0 0))
        generalize fset w2 (w.heap.size + 1) (.slice none 0 0) (.slice none 0 0) (.slice none 0 0) = w9 at *
        obtain ⟨y0, y1, y2⟩ := YF.out.cells
        exact bodyPost_ret (by simp [results, Tryz.results63, go_sem, y0, y1, y2]; rfl) rfl ⟨_, by rw [HE.out], by rw [HF.out]; exact SeesF.zero _, BF.out⟩
      · clear h0
        have HF := Lib.hid (VE.out (by decide))
        have YF := Lib.hid (Y2.out.set (.slice none 0 0) (.slice none 0 0) (.slice none 0 0))
        have BF := Lib.hid (fset_below B2.out (show w.heap.size ≤ w.heap.size + 1 by omega) (.slice none 0 0) (.slice none 0 0) (.slice none 0 0))
        clear VE VO LA S1 S2P
        go_wp2_with fail
        change bodyPost _ _ _ _ _ (fset w2 (w.heap.size + 1) (.slice none 0 0) (.slice none 0 0) (.slice none 0 0))
        generalize fset w2 (w.heap.size + 1) (.slice none 0 0) (.slice none 0 0) (.slice none 0 0) = w9 at *
        obtain ⟨y0, y1, y2⟩ := YF.out.cells
        exact bodyPost_ret (by simp [results, Tryz.results63, go_sem, y0, y1, y2]; rfl) rfl ⟨_, by rw [HE.out], by rw [HF.out]; exact SeesF.zero _, BF.out⟩
      · exact absurd h h0
end Go.Proofs.YtaklilhnikmmfaaGreat

/-
  The walk of the reference's Crash.
-/
namespace Go.Proofs.YtaklilhnikmmfaaGreat
open Go.RowKit StrM BlockM FileM

set_option maxHeartbeats 4000000 in
set_option maxRecDepth 100000 in
theorem rfcrash_any (v bv : Value) (f : Fl) (bs : List Bool) (w : World) (hs : SeesF w v f) (hz : Sz f) (hb : SeesV w bv (bools bs)) : Calls Tryz.prog 67 #[v, bv] w (NPost (crF f bs) (crN f : Int) w) := by
  obtain ⟨A0, c0, A1, c1, A2, c2, rfl, h0, h1, h2⟩ := hs.slices
  obtain ⟨Ab, cb, rfl, -⟩ := id hb
  rw [bools_len] at hb ⊢
  have RI := Lib.hid (fun W (hb : Below w.heap.size w W) => rfright_any _ f W (hs.later hb) hz)
  have HBS := Lib.hid (fun W (hB : Below w.heap.size w W) => hb.later hB)
  have S2P := Lib.hid (fun W (hB : Below w.heap.size w W) => h2.later hB)
  have LA := Lib.hid (fun W v2 (hB : Below w.heap.size w W) (h : SeesP W v2 (keep f.pend bs)) => rlay_any A1 f.sure.length c1 f.sure v2 (keep f.pend bs) W rfl hz.sure (h1.later hB) h (fun x hx => hz.places x (keep_mem _ _ x hx)) (by have := keep_len f.pend bs; have := hz.pend; omega))
  unfold LayPost at LA
  rw [show lay f.sure (keep f.pend bs) = crC f bs from rfl] at LA
  unfold NPost
  generalize f.now.length = n0 at *
  generalize f.sure.length = n1 at *
  obtain ⟨n2, hn2⟩ : ∃ n, n = f.pend.length := ⟨_, rfl⟩
  obtain ⟨nb, hnb⟩ : ∃ n, n = bs.length := ⟨_, rfl⟩
  have hm2 : n2 ≤ 900000 := by rw [hn2]; exact hz.pend
  rw [← hn2] at RI S2P ⊢
  rw [← hnb] at HBS ⊢
  have HN2 := Lib.hid hn2
  have HNB := Lib.hid hnb
  have B0 := Lib.hid ((below_made w (.cells #[.slice A0 n0 c0, .slice A1 n1 c1, .slice A2 n2 c2] 70)).alloc (below_made w _).size (.cells #[.slice none 0 0, .slice none 0 0, .slice none 0 0] 70))
  have X0 := Lib.hid ((FBox.made w (.slice A0 n0 c0) (.slice A1 n1 c1) (.slice A2 n2 c2)).later (below_made _ (.cells #[.slice none 0 0, .slice none 0 0, .slice none 0 0] 70)))
  have Y0 := Lib.hid (show FBox _ (w.heap.size + 1) _ _ _ by simpa using FBox.made (w.alloc (.cells #[.slice A0 n0 c0, .slice A1 n1 c1, .slice A2 n2 c2] 70)) (.slice none 0 0) (.slice none 0 0) (.slice none 0 0))
  clear hs h0 h1 h2 hz hb hn2 hnb
  have VN := Lib.hid (fun h => crF_no (f := f) h bs)
  have VO := Lib.hid (fun h => crF_ok (f := f) h bs)
  have WN := Lib.hid (fun h => crN_no (f := f) h)
  have WO := Lib.hid (fun h => crN_ok (f := f) h)
  generalize crC f bs = C at *
  go_enter Tryz.func67, Tryz.ntmps67
  go_wp2_with fail
  refine (RI.out _ B0.out).mono ?_
  rintro e w1 ⟨rfl, hb1⟩
  have B1 := Lib.hid (B0.out.trans (hb1.mono B0.out.size))
  have X1 := Lib.hid (X0.out.later hb1)
  have Y1 := Lib.hid (Y0.out.later hb1)
  clear hb1 X0 Y0 B0
  cases hv : valid f with
  | false =>
    have HF := Lib.hid (VN.out hv)
    have HE := Lib.hid (WN.out hv)
    obtain ⟨y0, y1, y2⟩ := Y1.out.cells
    obtain ⟨z0, z1, z2⟩ := Y1.out.soft
    have YF := Lib.hid (Y1.out.set (.slice none 0 0) (.slice none 0 0) (.slice none 0 0))
    have BF := Lib.hid (fset_below B1.out (show w.heap.size ≤ w.heap.size + 1 by omega) (.slice none 0 0) (.slice none 0 0) (.slice none 0 0))
    clear hv LA VN VO WN WO HBS S2P
    go_wp2_with fail
    change bodyPost _ _ _ _ _ (fset w1 (w.heap.size + 1) (.slice none 0 0) (.slice none 0 0) (.slice none 0 0))
    generalize fset w1 (w.heap.size + 1) (.slice none 0 0) (.slice none 0 0) (.slice none 0 0) = w9 at *
    obtain ⟨y0, y1, y2⟩ := YF.out.cells
    exact bodyPost_ret (by simp [results, Tryz.results67, go_sem, y0, y1, y2]; rfl) rfl ⟨_, by rw [HE.out]; rfl, by rw [HF.out]; exact SeesF.zero _, BF.out⟩
  | true =>
    have HF := Lib.hid (VO.out hv)
    have HE := Lib.hid (show (n2 : Int) = (crN f : Int) by rw [WO.out hv, ← HN2.out])
    have HS := Lib.hid (S2P.out _ B1.out)
    have HB := Lib.hid (HBS.out _ B1.out)
    have K0 := Lib.hid (KRel.empty w1)
    clear hv VN VO WN WO S2P HBS
    go_wp2_with fail
    go_loopw [6, 7] (fun x i wr => ∃ (k : Nat) (la : List PB), k ≤ n2 ∧ i = .int .i64 (k : Int) ∧ la.map Prod.fst = keepTo f.pend bs k ∧ KRel w1 x la wr) (fun _ i _ => n2 - (intOf i).toNat)
    case atStart => exact ⟨0, [], Nat.zero_le _, rfl, rfl, K0.out⟩
    case round =>
      clear K0
      obtain ⟨k, la, hk, rfl, hla, hK⟩ := hrel
      have HLA := Lib.hid hla
      have HK := Lib.hid hK
      have hlen : la.length ≤ k := by
        have h := congrArg List.length hla
        rw [List.length_map] at h
        rw [h]; exact keepTo_len _ _ _
      have X2 := Lib.hid (X1.out.later hK.2.2)
      obtain ⟨x0, x1, x2⟩ := X2.out.cells
      clear hla hK
      by_cases hlt : k < n2
      · have hkl : k < f.pend.length := by rw [← HN2.out]; exact hlt
        obtain ⟨g, off, A3, bc, rfl, hg, cc1, cc2, csv⟩ := HS.out.cells hkl
        have hyes := fun h => keepTo_yes (l := f.pend) (bs := bs) hkl h
        have hc1 : wr.cell? ⟨g, off + k * 2, none⟩ = some (.int .i64 f.pend[k].p) := (HK.out.2.2.cell (p := ⟨g, off + k * 2, none⟩) hg).trans cc1
        have hc2 : wr.cell? ⟨g, off + k * 2 + 1, none⟩ = some (.slice A3 f.pend[k].b.length bc) := (HK.out.2.2.cell (p := ⟨g, off + k * 2 + 1, none⟩) hg).trans cc2
        have hno := fun h => keepTo_no (l := f.pend) (bs := bs) (k := k) h
        clear cc1 cc2
        generalize f.pend[k] = u at *
        obtain ⟨p, b⟩ := u
        simp only at hc1 hc2 csv
        obtain ⟨bl, hbl⟩ : ∃ bl, bl = b.length := ⟨_, rfl⟩
        rw [← hbl] at hc2 csv
        have CSV := Lib.hid csv
        clear csv hbl
        by_cases hb : k < nb
        · have hbl2 : k < bs.length := by rw [← HNB.out]; exact hb
          obtain ⟨gb, ob, rfl, hgb, cb0⟩ := HB.out.bool hbl2
          have hb' : (k : Int) < (nb : Int) := by omega
          have hbit := bit_at hbl2
          have hcb : wr.cell? ⟨gb, ob + k, none⟩ = some (.bool bs[k]) := (HK.out.2.2.cell (p := ⟨gb, ob + k, none⟩) hgb).trans cb0
          clear cb0
          generalize bs[k] = t at *
          cases t with
          | false =>
            have HX := Lib.hid (hno hbit)
            clear hyes hno hbit
            go_wp2_with fail
            go_roundw
            case rel => exact ⟨k + 1, la, by omega, by go_num, by rw [HX.out]; exact HLA.out, HK.out⟩
            case measure => simp [intOf]; omega
          | true =>
            have HX := Lib.hid (hyes hbit)
            clear hyes hno hbit
            go_wp2_with (at_builtin; refine append_piece rfl _ _ rfl w1.heap.size _ _ _ rfl HK.out.1 (⟨p, b⟩, .slice A3 bl bc) rfl (by simp [Act.eval]) ?a1 ?a2 ?_)
            case a1 => omega
            case a2 => exact HK.out.2.2.size
            intro v2 w2 ho hb2 hst
            have K2 := Lib.hid (show KRel w1 v2 (la ++ [(⟨p, b⟩, .slice A3 bl bc)]) w2 from ⟨by rw [List.length_append]; exact ho, fun x hx => by
              rcases List.mem_append.1 hx with hx | hx
              · exact HK.out.2.1 x hx
              · have : x = (⟨p, b⟩, .slice A3 bl bc) := by simpa using hx
                subst this
                exact CSV.out, HK.out.2.2.trans hb2⟩)
            clear ho hb2 hst
            go_wp2_with fail
            go_roundw
            case rel => exact ⟨k + 1, _, by omega, by go_num, by rw [HX.out, List.map_append, HLA.out]; rfl, K2.out⟩
            case measure => simp [intOf]; omega
        · have hb' : decide (k < nb) = false := by simpa using hb
          have HX := Lib.hid (hno (bit_out (by rw [← HNB.out]; exact hb)))
          clear hyes hno hb
          go_wp2_with fail
          go_roundw
          case rel => exact ⟨k + 1, la, by omega, by go_num, by rw [HX.out]; exact HLA.out, HK.out⟩
          case measure => simp [intOf]; omega
      · have SX := Lib.hid (show SeesP wr u6 (keep f.pend bs) by
          have h := HK.out.sees
          rw [HLA.out, show k = f.pend.length by rw [← HN2.out]; omega] at h
          exact h)
        have B2 := Lib.hid (B1.out.trans (HK.out.2.2.mono B1.out.size))
        have Y2 := Lib.hid (Y1.out.later HK.out.2.2)
        have hnq : w.heap.size ≠ w.heap.size + 1 := by omega
        go_wp2_with fail
        refine (LA.out _ _ B2.out SX.out).mono ?_
        rintro e w3 ⟨v3, rfl, s3, b3⟩
        obtain ⟨A4, c4, rfl, -⟩ := id s3
        have B3 := Lib.hid (B2.out.trans (b3.mono B2.out.size))
        have X3 := Lib.hid (X2.out.later b3)
        have Y3 := Lib.hid (Y2.out.later b3)
        have S3 := Lib.hid s3
        clear s3 b3 x0 x1 x2
        have XD := Lib.hid (X3.out.later (below_drew _ (Nat.le_refl _)))
        have YD := Lib.hid (Y3.out.later (below_drew _ (Nat.le_refl _)))
        have SD := Lib.hid (S3.out.later (below_drew _ (Nat.le_refl _)))
        obtain ⟨x0, x1, x2⟩ := X3.out.cells
        obtain ⟨y0, y1, y2⟩ := Y3.out.cells
        obtain ⟨z0, z1, z2⟩ := Y3.out.soft
        have YF := Lib.hid (YD.out.set (.slice A4 (bys C).length c4) (.slice A4 (bys C).length c4) (.slice none 0 0))
        have HF2 := Lib.hid (show SeesF (fset w3.drew (w.heap.size + 1) (.slice A4 (bys C).length c4) (.slice A4 (bys C).length c4) (.slice none 0 0)) (.agg #[.slice A4 (bys C).length c4, .slice A4 (bys C).length c4, .slice none 0 0]) (crF f bs) ∧ Below w.heap.size w (fset w3.drew (w.heap.size + 1) (.slice A4 (bys C).length c4) (.slice A4 (bys C).length c4) (.slice none 0 0)) from
          ⟨by rw [HF.out]; exact ⟨_, _, _, rfl, SD.out.fset YD.out _ _ _, SD.out.fset YD.out _ _ _, seesP_nil _⟩, fset_below B3.out.drew (by omega) _ _ _⟩)
        go_wp2_with fail
        go_region_held3 (fun W => W.cell? ⟨w.heap.size, 0, none⟩ = some (.slice A0 n0 c0) ∧ W.cell? ⟨w.heap.size, 1, none⟩ = some (.slice A1 n1 c1) ∧ W.cell? ⟨w.heap.size, 2, none⟩ = some (.slice A2 n2 c2))
          (first | exact XD.out.cells | exact ⟨(fset_cell hnq _ _ _).trans XD.out.cells.1, (fset_cell hnq _ _ _).trans XD.out.cells.2.1, (fset_cell hnq _ _ _).trans XD.out.cells.2.2⟩)
          (fail)
        all_goals
          clear x0 x1 x2 y0 y1 y2 z0 z1 z2
          go_wp2_with fail
          change bodyPost _ _ _ _ _ (fset w3.drew (w.heap.size + 1) (.slice A4 (bys C).length c4) (.slice A4 (bys C).length c4) (.slice none 0 0))
          generalize fset w3.drew (w.heap.size + 1) (.slice A4 (bys C).length c4) (.slice A4 (bys C).length c4) (.slice none 0 0) = w9 at *
          obtain ⟨y0, y1, y2⟩ := YF.out.cells
          exact bodyPost_ret (by simp [results, Tryz.results67, go_sem, y0, y1, y2]; rfl) rfl ⟨_, by rw [HE.out], HF2.out.1, HF2.out.2⟩
end Go.Proofs.YtaklilhnikmmfaaGreat
