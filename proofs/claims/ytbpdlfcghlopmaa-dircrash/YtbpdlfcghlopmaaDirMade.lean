/-
  The walk of the reference's Made: a directory behind things done.
-/
import Derived.Test.YtbpdlfcghlopmaaDirRefSame
namespace Go.Proofs.Ytbpdlfcghlopmaa
open Go.RowKit StrM DirM

theorem name_le {s : ByteArray} (h : nameOk s = true) : s.size ≤ 24 := by
  unfold nameOk at h
  simp at h
  omega
theorem sz_valid {d : D} (h : valid d = true) (hp : d.pend.length ≤ 1000000) (ho : ∀ o ∈ d.pend, OkO o) : Sz d :=
  ⟨by have := (valid_iff.1 h).1.few; omega, hp, fun x hx => by have := name_le ((valid_iff.1 h).1.names x hx); unfold maxLen; omega, ho⟩
theorem ok_default : OkO default := ⟨Nat.zero_le _, Nat.zero_le _⟩
theorem ops_mid {sure : List Bool} {d : D} {k : Nat} (h : ∀ o ∈ d.pend, OkO o) : ∀ o ∈ (mid sure d k).pend, OkO o := by
  unfold mid
  split
  · rw [pend_syn]; intro o ho; cases ho
  · exact h
theorem ops_made {ops : List O} {sure : List Bool} (h : ∀ o ∈ ops, OkO o) : ∀ k, ∀ o ∈ (madeTo ops sure k).pend, OkO o
  | 0 => by intro o ho; cases ho
  | k + 1 => by
    have ih := ops_mid (sure := sure) (k := k) (ops_made (sure := sure) h k)
    unfold madeTo DirM.step
    split
    · next he =>
      rw [(do_ok he).2.2]
      intro o ho
      rcases List.mem_append.1 ho with ho | ho
      · exact ih o ho
      · rw [List.mem_singleton] at ho
        subst ho
        rw [List.getD_eq_getElem?_getD]
        by_cases hk : k < ops.length
        · rw [List.getElem?_eq_getElem hk]; exact h _ (List.getElem_mem hk)
        · rw [List.getElem?_eq_none (by omega)]; exact ok_default
    · exact ih
theorem sz_mid {ops : List O} {sure : List Bool} (h : ∀ o ∈ ops, OkO o) {k : Nat} (hk : k ≤ 1000) : Sz (mid sure (madeTo ops sure k) k) :=
  sz_valid (valid_mid (valid_made ops sure k)) (by have := pend_mid (sure := sure) (d := madeTo ops sure k) (k := k); have := pend_made ops sure k; omega) (ops_mid (ops_made h k))
theorem sz_made {ops : List O} {sure : List Bool} (h : ∀ o ∈ ops, OkO o) {k : Nat} (hk : k ≤ 1000) : Sz (madeTo ops sure k) :=
  sz_valid (valid_made ops sure k) (by have := pend_made ops sure k; omega) (ops_made h k)
theorem made_next {ops : List O} {sure : List Bool} {k : Nat} (hk : k < ops.length) : madeTo ops sure (k + 1) = DirM.step sure (madeTo ops sure k) k ops[k] := by
  show DirM.step sure (madeTo ops sure k) k (ops.getD k default) = _
  rw [List.getD_eq_getElem?_getD, List.getElem?_eq_getElem hk]; rfl
theorem mid_yes {sure : List Bool} {d : D} {k : Nat} (hk : k < sure.length) (h : sure[k] = true) : mid sure d k = syn d := by
  unfold mid; rw [List.getD_eq_getElem?_getD, List.getElem?_eq_getElem hk]; simp [h]
theorem mid_no {sure : List Bool} {d : D} {k : Nat} (hk : k < sure.length) (h : sure[k] = false) : mid sure d k = d := by
  unfold mid; rw [List.getD_eq_getElem?_getD, List.getElem?_eq_getElem hk]; simp [h]
theorem mid_none {sure : List Bool} {d : D} {k : Nat} (hk : ¬ k < sure.length) : mid sure d k = d := by
  unfold mid; rw [List.getD_eq_getElem?_getD, List.getElem?_eq_none (by omega)]; rfl

/-- What the loop keeps: the directory's block, and the result's, which lies below it. -/
def MInv (w : World) (d : D) (wr : World) : Prop :=
  ∃ A0 n0 c0 A1 n1 c1 A2 n2 c2, DBox wr (w.heap.size + 1) (.slice A0 n0 c0) (.slice A1 n1 c1) (.slice A2 n2 c2) ∧ SeesD wr (.agg #[.slice A0 n0 c0, .slice A1 n1 c1, .slice A2 n2 c2]) d ∧
    DBox wr w.heap.size (.slice none 0 0) (.slice none 0 0) (.slice none 0 0) ∧ Below w.heap.size w wr
theorem MInv.set {w wr w1 : World} {f f' : D} (h : MInv w f wr) (hb : Below wr.heap.size wr w1) {A0 A1 A2 : Option Addr} {n0 n1 n2 c0 c1 c2 : Nat}
    (hs : SeesD w1 (.agg #[.slice A0 n0 c0, .slice A1 n1 c1, .slice A2 n2 c2]) f') : MInv w f' (dset w1 (w.heap.size + 1) (.slice A0 n0 c0) (.slice A1 n1 c1) (.slice A2 n2 c2)) := by
  obtain ⟨_, _, _, _, _, _, _, _, _, hB, _, hR, hbel⟩ := h
  have hB := hB.later hb
  have hR := hR.later hb
  refine ⟨_, _, _, _, _, _, _, _, _, hB.set _ _ _, hs.dset hB _ _ _, ?_, dset_below (hbel.trans (hb.mono hbel.size)) (by omega) _ _ _⟩
  unfold DBox
  rw [dset_other (by omega)]
  exact hR
theorem MInv.later {w wr w1 : World} {f : D} (h : MInv w f wr) (hb : Below wr.heap.size wr w1) : MInv w f w1 := by
  obtain ⟨_, _, _, _, _, _, _, _, _, hB, hS, hR, hbel⟩ := h
  exact ⟨_, _, _, _, _, _, _, _, _, hB.later hb, hS.later hb, hR.later hb, hbel.trans (hb.mono hbel.size)⟩
theorem MInv.start (w : World) : MInv w zd ((w.alloc (.cells #[.slice none 0 0, .slice none 0 0, .slice none 0 0] 25)).alloc (.cells #[.slice none 0 0, .slice none 0 0, .slice none 0 0] 25)) := by
  have X0 := (DBox.made w (.slice none 0 0) (.slice none 0 0) (.slice none 0 0)).later (below_made _ (.cells #[.slice none 0 0, .slice none 0 0, .slice none 0 0] 25))
  have Y0 : DBox ((w.alloc (.cells #[.slice none 0 0, .slice none 0 0, .slice none 0 0] 25)).alloc (.cells #[.slice none 0 0, .slice none 0 0, .slice none 0 0] 25)) (w.heap.size + 1) (.slice none 0 0) (.slice none 0 0) (.slice none 0 0) := by
    simpa using DBox.made (w.alloc (.cells #[.slice none 0 0, .slice none 0 0, .slice none 0 0] 25)) (.slice none 0 0) (.slice none 0 0) (.slice none 0 0)
  exact ⟨_, _, _, _, _, _, _, _, _, Y0, SeesD.zero _, X0, (below_made w _).alloc (below_made w _).size _⟩

/-- A slice of bools, read as a list. -/
def SeesB (w : World) (v : Value) (l : List Bool) : Prop := SeesN w v l.length (l.map .bool)
theorem SeesB.later {w w' : World} {v : Value} {l : List Bool} (h : SeesB w v l) (hb : Below w.heap.size w w') : SeesB w' v l := SeesN.later h hb
theorem SeesB.cell {w : World} {a : Option Addr} {n cap : Nat} {l : List Bool} (h : SeesB w (.slice a n cap) l) {k : Nat} (hk : k < l.length) :
    ∃ g off, a = some ⟨g, off, none⟩ ∧ g < w.heap.size ∧ w.cell? ⟨g, off + k, none⟩ = some (.bool l[k]) := by
  obtain ⟨a', cap', e, _, h⟩ := h
  injection e with e1 e2 e3
  subst e1
  rcases h with h0 | ⟨g, off, rfl, hg, hc⟩
  · have := congrArg List.length h0
    simp at this; subst this; simp at hk
  · exact ⟨g, off, rfl, hg, hc k _ (by simp [hk])⟩

set_option maxHeartbeats 8000000 in
set_option maxRecDepth 100000 in
theorem dmade_any (v u : Value) (l : List O) (bs : List Bool) (w : World) (hs : SeesO w v l) (hu : SeesB w u bs) (hl : ∀ o ∈ l, OkO o) (hn : l.length ≤ 30) :
    Calls Try.prog 20 #[v, u] w (DPost (madeTo l bs l.length) w) := by
  obtain ⟨a, cap, rfl, -⟩ := SeesN.form hs
  obtain ⟨ab, capb, rfl, -⟩ := SeesN.form hu
  have HS := Lib.hid (fun W (hB : Below w.heap.size w W) => hs.later hB)
  have HU := Lib.hid (fun W (hB : Below w.heap.size w W) => hu.later hB)
  have HL := Lib.hid hl
  obtain ⟨n, e⟩ : ∃ n, n = l.length := ⟨_, rfl⟩
  obtain ⟨nb, e2⟩ : ∃ n, n = bs.length := ⟨_, rfl⟩
  rw [← e] at HS hn ⊢
  rw [← e2] at HU ⊢
  have HN := Lib.hid e
  have HNB := Lib.hid e2
  have M0 := Lib.hid (MInv.start w)
  unfold DPost
  clear hs hl e hu e2
  go_enter Try.func20, Try.ntmps20
  go_wp2_with fail
  go_loopw [6] (fun i wr => ∃ k : Nat, k ≤ n ∧ i = .int .i64 (k : Int) ∧ MInv w (madeTo l bs k) wr) (fun i _ => n - (intOf i).toNat)
  case atStart => exact ⟨0, Nat.zero_le _, rfl, M0.out⟩
  case round =>
    clear M0
    obtain ⟨k, hk, rfl, hM⟩ := hrel
    have HM := Lib.hid hM
    obtain ⟨A0, n0, c0, A1, n1, c1, A2, n2, c2, hB, hS, hR, hbel⟩ := hM
    have X1 := Lib.hid hB
    have R1 := Lib.hid hR
    have S1 := Lib.hid hS
    have B1 := Lib.hid hbel
    clear hB hR hS hbel
    by_cases hlt : k < n
    · have hkl : k < l.length := by rw [← HN.out]; exact hlt
      have hlt' : (k : Int) < (n : Int) := by omega
      have SZ := Lib.hid (sz_made (sure := bs) HL.out (k := k) (by omega))
      have SM := Lib.hid (sz_mid (sure := bs) HL.out (k := k) (by omega))
      have HX := Lib.hid (made_next (sure := bs) hkl)
      unfold DirM.step at HX
      have hok := Lib.hid (HL.out _ (List.getElem_mem hkl))
      by_cases hb : k < nb
      · have hb' : (k : Int) < (nb : Int) := by omega
        have hbl : k < bs.length := by rw [← HNB.out]; exact hb
        obtain ⟨gb, offb, rfl, hgb, hcb⟩ := (HU.out _ B1.out).cell hbl
        cases hbk : bs[k]
        case' true =>
          have HF := Lib.hid (mid_yes (d := madeTo l bs k) hbl hbk)
          rw [hbk] at hcb
          have SY := Lib.hid (rdsync_any _ _ _ S1.out SZ.out)
          unfold DPost at SY
          obtain ⟨x0, x1, x2⟩ := X1.out.cells
          clear hbk hb
          go_wp2_with fail
          refine SY.out.mono ?_
          rintro e w2 ⟨v2, rfl, s2, b2⟩
          rw [← HF.out] at s2
          obtain ⟨B0, d0, B1', d1, B2', d2, rfl, -, -, -⟩ := s2.slices
          generalize (mid bs (madeTo l bs k) k).now.length = m0 at *
          generalize (mid bs (madeTo l bs k) k).sure.length = m1 at *
          generalize (mid bs (madeTo l bs k) k).pend.length = m2 at *
          have M2 := Lib.hid (HM.out.set b2 s2)
          have X2 := Lib.hid (X1.out.later b2)
          obtain ⟨z0, z1, z2⟩ := X2.out.soft
          clear s2 b2 x0 x1 x2
          obtain ⟨x0, x1, x2⟩ := X2.out.cells
          clear HM X1 R1 S1 B1 SY SZ hcb hgb
          go_wp2_with fail
          rw [show ((w2.setCell ⟨w.heap.size + 1, 0, none⟩ (.slice B0 m0 d0)).setCell ⟨w.heap.size + 1, 1, none⟩ (.slice B1' m1 d1)).setCell ⟨w.heap.size + 1, 2, none⟩ (.slice B2' m2 d2) = dset w2 (w.heap.size + 1) (.slice B0 m0 d0) (.slice B1' m1 d1) (.slice B2' m2 d2) from rfl]
          generalize dset w2 (w.heap.size + 1) (.slice B0 m0 d0) (.slice B1' m1 d1) (.slice B2' m2 d2) = wq at *
        case' false =>
          have M2 := Lib.hid (show MInv w (mid bs (madeTo l bs k) k) wr by rw [mid_no hbl hbk]; exact HM.out)
          rw [hbk] at hcb
          clear hbk hb HM X1 R1 S1 B1 SZ
          go_wp2_with fail
          clear hcb hgb
          obtain ⟨wq, rfl⟩ : ∃ wq, wq = wr := ⟨_, rfl⟩
        all_goals
          obtain ⟨A0, n0, c0, A1, n1, c1, A2, n2, c2, hB, hS, hR, hbel⟩ := id M2.out
          have X3 := Lib.hid hB
          have S3 := Lib.hid hS
          have B3 := Lib.hid hbel
          obtain ⟨x0, x1, x2⟩ := X3.out.cells
          clear hB hS hR hbel
          obtain ⟨g, off, rfl, hg, p0, p1, p2, p3⟩ := (HS.out _ B3.out).cells hkl
          have PL := Lib.hid (show (mid bs (madeTo l bs k) k).pend.length ≤ 999999 by have := pend_mid (sure := bs) (d := madeTo l bs k) (k := k); have := pend_made l bs k; omega)
          generalize mid bs (madeTo l bs k) k = d1 at *
          generalize l[k] = o at *
          have WR := Lib.hid (show ∀ W, Below wq.heap.size wq W → Calls Try.prog 8 #[.agg #[.slice A0 n0 c0, .slice A1 n1 c1, .slice A2 n2 c2], .agg #[.int .i64 o.kind, .string o.name, .string o.dst, .int .i64 o.node]] W fun e W' => ∃ B0 e0 B1 e1 B2 e2, e = .returned (.tuple #[.agg #[.slice B0 (doD d1 o).now.length e0, .slice B1 (doD d1 o).sure.length e1, .slice B2 (doD d1 o).pend.length e2], .int .i64 (doE d1 o)]) ∧ SeesD W' (.agg #[.slice B0 (doD d1 o).now.length e0, .slice B1 (doD d1 o).sure.length e1, .slice B2 (doD d1 o).pend.length e2]) (doD d1 o) ∧ Below W.heap.size W W' ∧ Below wq.heap.size wq W' from
            fun W hB => (rddo_any _ d1 o W (S3.out.later hB) SM.out PL.out hok.out).mono fun e W' ⟨v, he, hs, hb⟩ => by
              obtain ⟨B0, e0, B1, e1, B2, e2, rfl, -, -, -⟩ := hs.slices
              exact ⟨B0, e0, B1, e1, B2, e2, he, hs, hb, hB.trans (hb.mono hB.size)⟩)
          have HE := Lib.hid (show doE d1 o = 0 → madeTo l bs (k + 1) = doD d1 o from fun h => by rw [HX.out, if_pos h])
          have HNE := Lib.hid (show ¬ doE d1 o = 0 → madeTo l bs (k + 1) = d1 from fun h => by rw [HX.out, if_neg h])
          generalize (doD d1 o).now.length = m0 at *
          generalize (doD d1 o).sure.length = m1 at *
          generalize (doD d1 o).pend.length = m2 at *
          generalize doD d1 o = d2 at *
          generalize doE d1 o = er at *
          obtain ⟨kd, nm, ds, nd⟩ := o
          simp only at p0 p1 p2 p3 WR
          have HC := Lib.hid (show ∀ W, Below wq.heap.size wq W → (W.cell? ⟨w.heap.size + 1, 0, none⟩ = some (.slice A0 n0 c0) ∧ W.cell? ⟨w.heap.size + 1, 1, none⟩ = some (.slice A1 n1 c1) ∧ W.cell? ⟨w.heap.size + 1, 2, none⟩ = some (.slice A2 n2 c2)) ∧ W.cell? ⟨g, off + k * 4, none⟩ = some (.int .i64 kd) ∧ W.cell? ⟨g, off + k * 4 + 1, none⟩ = some (.string nm) ∧ W.cell? ⟨g, off + k * 4 + 2, none⟩ = some (.string ds) ∧ W.cell? ⟨g, off + k * 4 + 3, none⟩ = some (.int .i64 nd) from
            fun W hB => ⟨(X3.out.later hB).cells, (hB.cell (p := ⟨g, off + k * 4, none⟩) hg).trans p0, (hB.cell (p := ⟨g, off + k * 4 + 1, none⟩) hg).trans p1, (hB.cell (p := ⟨g, off + k * 4 + 2, none⟩) hg).trans p2, (hB.cell (p := ⟨g, off + k * 4 + 3, none⟩) hg).trans p3⟩)
          have KD : Below wq.heap.size wq wq.drew := below_drew _ (Nat.le_refl _)
          have KA : Below wq.heap.size wq (wq.alloc (.cells #[.slice none 0 0, .slice none 0 0, .slice none 0 0] 25)).drew := (below_made wq _).drew
          have GA := Lib.hid (show DBox (wq.alloc (.cells #[.slice none 0 0, .slice none 0 0, .slice none 0 0] 25)).drew wq.heap.size _ _ _ from (DBox.made wq (.slice none 0 0) (.slice none 0 0) (.slice none 0 0)).later (below_drew _ (Nat.le_refl _)))
          clear HX HS HU SM PL hok
          go_region_held3 (fun W => (W.cell? ⟨w.heap.size + 1, 0, none⟩ = some (.slice A0 n0 c0) ∧ W.cell? ⟨w.heap.size + 1, 1, none⟩ = some (.slice A1 n1 c1) ∧ W.cell? ⟨w.heap.size + 1, 2, none⟩ = some (.slice A2 n2 c2)) ∧ W.cell? ⟨g, off + k * 4, none⟩ = some (.int .i64 kd) ∧ W.cell? ⟨g, off + k * 4 + 1, none⟩ = some (.string nm) ∧ W.cell? ⟨g, off + k * 4 + 2, none⟩ = some (.string ds) ∧ W.cell? ⟨g, off + k * 4 + 3, none⟩ = some (.int .i64 nd))
            (first | exact HC.out _ KD | exact HC.out _ KA | exact HC.out _ k2 | exact HC.out _ (k2.alloc k2.size _) | exact HC.out _ (dset_below k2 (Nat.le_refl _) _ _ _) | exact HC.out _ (dset_below (k2.alloc k2.size _) k2.size _ _ _))
            (first
              | (go_at_call 8; (with_reducible refine (WR.out _ (by assumption)).mono ?_); rintro e w2 ⟨B0, e0, B1, e1, B2, e2, rfl, s2, b2, k2⟩; (try (have GX := GA.out.later b2; obtain ⟨y0, y1, y2⟩ := GX.cells; obtain ⟨z0, z1, z2⟩ := GX.soft))))
          have b3 := below_made w2 (.cells #[.slice B0 m0 e0, .slice B1 m1 e1, .slice B2 m2 e2] 25)
          have S4 := Lib.hid (s2.later b3)
          have B4 := Lib.hid (k2.trans (b3.mono k2.size))
          have G4 := Lib.hid (DBox.made w2 (.slice B0 m0 e0) (.slice B1 m1 e1) (.slice B2 m2 e2))
          have lq := k2.size
          clear s2 b2 k2 b3
          generalize w2.alloc (.cells #[.slice B0 m0 e0, .slice B1 m1 e1, .slice B2 m2 e2] 25) = w3 at *
          generalize w2.heap.size = q at *
          rotate_left
          change Exit.then _ _ _ _ (dset w2 wq.heap.size (.slice B0 m0 e0) (.slice B1 m1 e1) (.slice B2 m2 e2))
          have S4 := Lib.hid (s2.dset GX (.slice B0 m0 e0) (.slice B1 m1 e1) (.slice B2 m2 e2))
          have B4 := Lib.hid (dset_below k2 (Nat.le_refl _) (.slice B0 m0 e0) (.slice B1 m1 e1) (.slice B2 m2 e2))
          have G4 := Lib.hid (GX.set (.slice B0 m0 e0) (.slice B1 m1 e1) (.slice B2 m2 e2))
          clear s2 b2 k2 GX y0 y1 y2 z0 z1 z2
          generalize dset w2 wq.heap.size (.slice B0 m0 e0) (.slice B1 m1 e1) (.slice B2 m2 e2) = w3 at *
          obtain ⟨q, hq⟩ : ∃ q, q = wq.heap.size := ⟨_, rfl⟩
          rw [← hq] at G4 ⊢
          have lq : wq.heap.size ≤ q := by omega
          clear hq
          all_goals
            have lx := X3.out.lt
            have X5 := Lib.hid (X3.out.later B4.out)
            have hne : ¬ w.heap.size + 1 = q := by omega
            have hne' : ¬ q = w.heap.size + 1 := by omega
            have M5 := Lib.hid (M2.out.later B4.out)
            have M6 := Lib.hid (M2.out.set B4.out S4.out)
            clear KD KA GA x0 x1 x2 p0 p1 p2 p3 WR
            obtain ⟨x0, x1, x2⟩ := X5.out.cells
            obtain ⟨z0, z1, z2⟩ := X5.out.soft
            obtain ⟨g0, g1, g2⟩ := G4.out.cells
            by_cases he : er = 0
            · have HF := Lib.hid (HE.out he)
              subst he
              go_wp2_with fail
              go_roundw
              case rel => exact ⟨k + 1, by omega, by go_num, by rw [HF.out]; exact M6.out⟩
              case measure => simp [intOf]; omega
            · have HF := Lib.hid (HNE.out he)
              have he' : (er == 0) = false := by simpa using he
              have he'' : decide (er = 0) = false := by simpa using he
              go_wp2_with fail
              go_roundw
              case rel => exact ⟨k + 1, by omega, by go_num, by rw [HF.out]; exact M5.out⟩
              case measure => simp [intOf]; omega
      · have hb' : decide ((k : Int) < (nb : Int)) = false := by simp; omega
        have hb'' : decide (k < nb) = false := by simp; omega
        have M2 := Lib.hid (show MInv w (mid bs (madeTo l bs k) k) wr by rw [mid_none (by rw [← HNB.out]; exact hb)]; exact HM.out)
        clear hb HM X1 R1 S1 B1 SZ
        go_wp2_with fail
        obtain ⟨wq, rfl⟩ : ∃ wq, wq = wr := ⟨_, rfl⟩
        obtain ⟨A0, n0, c0, A1, n1, c1, A2, n2, c2, hB, hS, hR, hbel⟩ := id M2.out
        have X3 := Lib.hid hB
        have S3 := Lib.hid hS
        have B3 := Lib.hid hbel
        obtain ⟨x0, x1, x2⟩ := X3.out.cells
        clear hB hS hR hbel
        obtain ⟨g, off, rfl, hg, p0, p1, p2, p3⟩ := (HS.out _ B3.out).cells hkl
        have PL := Lib.hid (show (mid bs (madeTo l bs k) k).pend.length ≤ 999999 by have := pend_mid (sure := bs) (d := madeTo l bs k) (k := k); have := pend_made l bs k; omega)
        generalize mid bs (madeTo l bs k) k = d1 at *
        generalize l[k] = o at *
        have WR := Lib.hid (show ∀ W, Below wq.heap.size wq W → Calls Try.prog 8 #[.agg #[.slice A0 n0 c0, .slice A1 n1 c1, .slice A2 n2 c2], .agg #[.int .i64 o.kind, .string o.name, .string o.dst, .int .i64 o.node]] W fun e W' => ∃ B0 e0 B1 e1 B2 e2, e = .returned (.tuple #[.agg #[.slice B0 (doD d1 o).now.length e0, .slice B1 (doD d1 o).sure.length e1, .slice B2 (doD d1 o).pend.length e2], .int .i64 (doE d1 o)]) ∧ SeesD W' (.agg #[.slice B0 (doD d1 o).now.length e0, .slice B1 (doD d1 o).sure.length e1, .slice B2 (doD d1 o).pend.length e2]) (doD d1 o) ∧ Below W.heap.size W W' ∧ Below wq.heap.size wq W' from
          fun W hB => (rddo_any _ d1 o W (S3.out.later hB) SM.out PL.out hok.out).mono fun e W' ⟨v, he, hs, hb⟩ => by
            obtain ⟨B0, e0, B1, e1, B2, e2, rfl, -, -, -⟩ := hs.slices
            exact ⟨B0, e0, B1, e1, B2, e2, he, hs, hb, hB.trans (hb.mono hB.size)⟩)
        have HE := Lib.hid (show doE d1 o = 0 → madeTo l bs (k + 1) = doD d1 o from fun h => by rw [HX.out, if_pos h])
        have HNE := Lib.hid (show ¬ doE d1 o = 0 → madeTo l bs (k + 1) = d1 from fun h => by rw [HX.out, if_neg h])
        generalize (doD d1 o).now.length = m0 at *
        generalize (doD d1 o).sure.length = m1 at *
        generalize (doD d1 o).pend.length = m2 at *
        generalize doD d1 o = d2 at *
        generalize doE d1 o = er at *
        obtain ⟨kd, nm, ds, nd⟩ := o
        simp only at p0 p1 p2 p3 WR
        have HC := Lib.hid (show ∀ W, Below wq.heap.size wq W → (W.cell? ⟨w.heap.size + 1, 0, none⟩ = some (.slice A0 n0 c0) ∧ W.cell? ⟨w.heap.size + 1, 1, none⟩ = some (.slice A1 n1 c1) ∧ W.cell? ⟨w.heap.size + 1, 2, none⟩ = some (.slice A2 n2 c2)) ∧ W.cell? ⟨g, off + k * 4, none⟩ = some (.int .i64 kd) ∧ W.cell? ⟨g, off + k * 4 + 1, none⟩ = some (.string nm) ∧ W.cell? ⟨g, off + k * 4 + 2, none⟩ = some (.string ds) ∧ W.cell? ⟨g, off + k * 4 + 3, none⟩ = some (.int .i64 nd) from
          fun W hB => ⟨(X3.out.later hB).cells, (hB.cell (p := ⟨g, off + k * 4, none⟩) hg).trans p0, (hB.cell (p := ⟨g, off + k * 4 + 1, none⟩) hg).trans p1, (hB.cell (p := ⟨g, off + k * 4 + 2, none⟩) hg).trans p2, (hB.cell (p := ⟨g, off + k * 4 + 3, none⟩) hg).trans p3⟩)
        have KD : Below wq.heap.size wq wq.drew := below_drew _ (Nat.le_refl _)
        have KA : Below wq.heap.size wq (wq.alloc (.cells #[.slice none 0 0, .slice none 0 0, .slice none 0 0] 25)).drew := (below_made wq _).drew
        have GA := Lib.hid (show DBox (wq.alloc (.cells #[.slice none 0 0, .slice none 0 0, .slice none 0 0] 25)).drew wq.heap.size _ _ _ from (DBox.made wq (.slice none 0 0) (.slice none 0 0) (.slice none 0 0)).later (below_drew _ (Nat.le_refl _)))
        clear HX HS HU SM PL hok
        go_region_held3 (fun W => (W.cell? ⟨w.heap.size + 1, 0, none⟩ = some (.slice A0 n0 c0) ∧ W.cell? ⟨w.heap.size + 1, 1, none⟩ = some (.slice A1 n1 c1) ∧ W.cell? ⟨w.heap.size + 1, 2, none⟩ = some (.slice A2 n2 c2)) ∧ W.cell? ⟨g, off + k * 4, none⟩ = some (.int .i64 kd) ∧ W.cell? ⟨g, off + k * 4 + 1, none⟩ = some (.string nm) ∧ W.cell? ⟨g, off + k * 4 + 2, none⟩ = some (.string ds) ∧ W.cell? ⟨g, off + k * 4 + 3, none⟩ = some (.int .i64 nd))
          (first | exact HC.out _ KD | exact HC.out _ KA | exact HC.out _ k2 | exact HC.out _ (k2.alloc k2.size _) | exact HC.out _ (dset_below k2 (Nat.le_refl _) _ _ _) | exact HC.out _ (dset_below (k2.alloc k2.size _) k2.size _ _ _))
          (first
            | (go_at_call 8; (with_reducible refine (WR.out _ (by assumption)).mono ?_); rintro e w2 ⟨B0, e0, B1, e1, B2, e2, rfl, s2, b2, k2⟩; (try (have GX := GA.out.later b2; obtain ⟨y0, y1, y2⟩ := GX.cells; obtain ⟨z0, z1, z2⟩ := GX.soft))))
        have b3 := below_made w2 (.cells #[.slice B0 m0 e0, .slice B1 m1 e1, .slice B2 m2 e2] 25)
        have S4 := Lib.hid (s2.later b3)
        have B4 := Lib.hid (k2.trans (b3.mono k2.size))
        have G4 := Lib.hid (DBox.made w2 (.slice B0 m0 e0) (.slice B1 m1 e1) (.slice B2 m2 e2))
        have lq := k2.size
        clear s2 b2 k2 b3
        generalize w2.alloc (.cells #[.slice B0 m0 e0, .slice B1 m1 e1, .slice B2 m2 e2] 25) = w3 at *
        generalize w2.heap.size = q at *
        rotate_left
        change Exit.then _ _ _ _ (dset w2 wq.heap.size (.slice B0 m0 e0) (.slice B1 m1 e1) (.slice B2 m2 e2))
        have S4 := Lib.hid (s2.dset GX (.slice B0 m0 e0) (.slice B1 m1 e1) (.slice B2 m2 e2))
        have B4 := Lib.hid (dset_below k2 (Nat.le_refl _) (.slice B0 m0 e0) (.slice B1 m1 e1) (.slice B2 m2 e2))
        have G4 := Lib.hid (GX.set (.slice B0 m0 e0) (.slice B1 m1 e1) (.slice B2 m2 e2))
        clear s2 b2 k2 GX y0 y1 y2 z0 z1 z2
        generalize dset w2 wq.heap.size (.slice B0 m0 e0) (.slice B1 m1 e1) (.slice B2 m2 e2) = w3 at *
        obtain ⟨q, hq⟩ : ∃ q, q = wq.heap.size := ⟨_, rfl⟩
        rw [← hq] at G4 ⊢
        have lq : wq.heap.size ≤ q := by omega
        clear hq
        all_goals
          have lx := X3.out.lt
          have X5 := Lib.hid (X3.out.later B4.out)
          have hne : ¬ w.heap.size + 1 = q := by omega
          have hne' : ¬ q = w.heap.size + 1 := by omega
          have M5 := Lib.hid (M2.out.later B4.out)
          have M6 := Lib.hid (M2.out.set B4.out S4.out)
          clear KD KA GA x0 x1 x2 p0 p1 p2 p3 WR
          obtain ⟨x0, x1, x2⟩ := X5.out.cells
          obtain ⟨z0, z1, z2⟩ := X5.out.soft
          obtain ⟨g0, g1, g2⟩ := G4.out.cells
          by_cases he : er = 0
          · have HF := Lib.hid (HE.out he)
            subst he
            go_wp2_with fail
            go_roundw
            case rel => exact ⟨k + 1, by omega, by go_num, by rw [HF.out]; exact M6.out⟩
            case measure => simp [intOf]; omega
          · have HF := Lib.hid (HNE.out he)
            have he' : (er == 0) = false := by simpa using he
            have he'' : decide (er = 0) = false := by simpa using he
            go_wp2_with fail
            go_roundw
            case rel => exact ⟨k + 1, by omega, by go_num, by rw [HF.out]; exact M5.out⟩
            case measure => simp [intOf]; omega
    · have hkn : k = n := by omega
      obtain ⟨x0, x1, x2⟩ := X1.out.cells
      obtain ⟨y0, y1, y2⟩ := R1.out.cells
      obtain ⟨z0, z1, z2⟩ := R1.out.soft
      have YF := Lib.hid (R1.out.set (.slice A0 n0 c0) (.slice A1 n1 c1) (.slice A2 n2 c2))
      have SF := Lib.hid (show SeesD (dset wr w.heap.size (.slice A0 n0 c0) (.slice A1 n1 c1) (.slice A2 n2 c2)) (.agg #[.slice A0 n0 c0, .slice A1 n1 c1, .slice A2 n2 c2]) (madeTo l bs n) ∧ Below w.heap.size w (dset wr w.heap.size (.slice A0 n0 c0) (.slice A1 n1 c1) (.slice A2 n2 c2)) from
        ⟨by rw [← hkn]; exact S1.out.dset R1.out _ _ _, dset_below B1.out (Nat.le_refl _) _ _ _⟩)
      clear hkn HM
      go_wp2_with fail
      change bodyPost _ _ _ _ _ (dset wr w.heap.size (.slice A0 n0 c0) (.slice A1 n1 c1) (.slice A2 n2 c2))
      generalize dset wr w.heap.size (.slice A0 n0 c0) (.slice A1 n1 c1) (.slice A2 n2 c2) = w9 at *
      clear y0 y1 y2 x0 x1 x2
      obtain ⟨y0, y1, y2⟩ := YF.out.cells
      exact bodyPost_ret (by simp [results, Try.results20, go_sem, y0, y1, y2]) rfl ⟨_, rfl, SF.out.1, SF.out.2⟩
end Go.Proofs.Ytbpdlfcghlopmaa
