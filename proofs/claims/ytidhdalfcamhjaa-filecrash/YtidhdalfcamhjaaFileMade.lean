/-
  The walk of the reference's Made: a file behind acts.
-/
import Derived.Test.YtidhdalfcamhjaaFileOpen
import Derived.Test.YtidhdalfcamhjaaFileRefWrite
namespace Go.Proofs.Ytidhdalfcamhjaa
open Go.RowKit StrM BlockM FileM

/-- A file behind one act; behind the first k of several. -/
def act1 (f : Fl) (u : Do) : Fl := if u.s then syn f else if wrE f u.p u.b.length = 0 then wrF f u.p u.b else f
def madeTo (l : List Do) : Nat → Fl
  | 0 => zf
  | k + 1 => match l[k]? with
    | some u => act1 (madeTo l k) u
    | none => madeTo l k
theorem madeTo_succ {l : List Do} {k : Nat} (h : k < l.length) : madeTo l (k + 1) = act1 (madeTo l k) l[k] := by
  simp [madeTo, List.getElem?_eq_getElem h]
theorem act1_syn (f : Fl) {u : Do} (h : u.s = true) : act1 f u = syn f := by simp [act1, h]
theorem act1_wr (f : Fl) {u : Do} (h : u.s = false) (he : wrE f u.p u.b.length = 0) : act1 f u = wrF f u.p u.b := by simp [act1, h, he]
theorem act1_no (f : Fl) {u : Do} (h : u.s = false) (he : ¬ wrE f u.p u.b.length = 0) : act1 f u = f := by simp [act1, h, he]
theorem act1_valid {f : Fl} (h : valid f = true) (u : Do) : valid (act1 f u) = true := by
  unfold act1
  split
  · exact valid_syn f
  · split
    · rename_i he
      rw [wrE_ok h] at he
      rw [wrF_ok h he]
      exact valid_wrote h (pList_ok _ _)
    · exact h
theorem act1_pend {f : Fl} (h : valid f = true) {u : Do} (hu : u.b.length ≤ 100) : (act1 f u).pend.length ≤ f.pend.length + 100 := by
  unfold act1
  split
  · rw [syn_ok h]; exact Nat.zero_le _
  · split
    · rename_i he
      rw [wrE_ok h] at he
      rw [wrF_ok h he]
      have := pList_len u.p u.b
      show (f.pend ++ pList u.p u.b).length ≤ _
      rw [List.length_append]; omega
    · omega
theorem madeTo_valid (l : List Do) (k : Nat) : valid (madeTo l k) = true := by
  induction k with
  | zero => exact valid_zf
  | succ k ih =>
    unfold madeTo
    split
    · exact act1_valid ih _
    · exact ih
theorem madeTo_pend {l : List Do} (hl : ∀ x ∈ l, x.b.length ≤ 100) (k : Nat) : (madeTo l k).pend.length ≤ 100 * k := by
  induction k with
  | zero => exact Nat.zero_le _
  | succ k ih =>
    unfold madeTo
    split
    · rename_i u hu
      have := act1_pend (madeTo_valid l k) (hl u (List.mem_of_getElem? hu))
      omega
    · omega
theorem sz_valid {f : Fl} (h : valid f = true) (hp : f.pend.length ≤ 900000) : Sz f :=
  ⟨Nat.le_trans (valid_now h) (by decide), Nat.le_trans (valid_sure h) (by decide), hp, fun x hx => by have := (valid_pend h x hx).1; omega⟩
theorem madeTo_sz {l : List Do} (hl : ∀ x ∈ l, x.b.length ≤ 100) {k : Nat} (hk : k ≤ 20) : Sz (madeTo l k) :=
  sz_valid (madeTo_valid l k) (by have := madeTo_pend hl k; omega)

/-- What the loop keeps: the file's block, and the result's, which lies below it. -/
def MInv (w : World) (f : Fl) (wr : World) : Prop :=
  ∃ A0 n0 c0 A1 n1 c1 A2 n2 c2, FBox wr (w.heap.size + 1) (.slice A0 n0 c0) (.slice A1 n1 c1) (.slice A2 n2 c2) ∧ SeesF wr (.agg #[.slice A0 n0 c0, .slice A1 n1 c1, .slice A2 n2 c2]) f ∧
    FBox wr w.heap.size (.slice none 0 0) (.slice none 0 0) (.slice none 0 0) ∧ Below w.heap.size w wr
theorem MInv.set {w wr w1 : World} {f f' : Fl} (h : MInv w f wr) (hb : Below wr.heap.size wr w1) {A0 A1 A2 : Option Addr} {n0 n1 n2 c0 c1 c2 : Nat}
    (hs : SeesF w1 (.agg #[.slice A0 n0 c0, .slice A1 n1 c1, .slice A2 n2 c2]) f') : MInv w f' (fset w1 (w.heap.size + 1) (.slice A0 n0 c0) (.slice A1 n1 c1) (.slice A2 n2 c2)) := by
  obtain ⟨_, _, _, _, _, _, _, _, _, hB, _, hR, hbel⟩ := h
  have hB := hB.later hb
  have hR := hR.later hb
  refine ⟨_, _, _, _, _, _, _, _, _, hB.set _ _ _, hs.fset hB _ _ _, ?_, fset_below (hbel.trans (hb.mono hbel.size)) (by omega) _ _ _⟩
  unfold FBox
  rw [fset_other (by omega)]
  exact hR
theorem MInv.later {w wr w1 : World} {f : Fl} (h : MInv w f wr) (hb : Below wr.heap.size wr w1) : MInv w f w1 := by
  obtain ⟨_, _, _, _, _, _, _, _, _, hB, hS, hR, hbel⟩ := h
  exact ⟨_, _, _, _, _, _, _, _, _, hB.later hb, hS.later hb, hR.later hb, hbel.trans (hb.mono hbel.size)⟩
theorem MInv.start (w : World) : MInv w zf ((w.alloc (.cells #[.slice none 0 0, .slice none 0 0, .slice none 0 0] 25)).alloc (.cells #[.slice none 0 0, .slice none 0 0, .slice none 0 0] 25)) := by
  have X0 := (FBox.made w (.slice none 0 0) (.slice none 0 0) (.slice none 0 0)).later (below_made _ (.cells #[.slice none 0 0, .slice none 0 0, .slice none 0 0] 25))
  have Y0 : FBox ((w.alloc (.cells #[.slice none 0 0, .slice none 0 0, .slice none 0 0] 25)).alloc (.cells #[.slice none 0 0, .slice none 0 0, .slice none 0 0] 25)) (w.heap.size + 1) (.slice none 0 0) (.slice none 0 0) (.slice none 0 0) := by
    simpa using FBox.made (w.alloc (.cells #[.slice none 0 0, .slice none 0 0, .slice none 0 0] 25)) (.slice none 0 0) (.slice none 0 0) (.slice none 0 0)
  exact ⟨_, _, _, _, _, _, _, _, _, Y0, SeesF.zero _, X0, (below_made w _).alloc (below_made w _).size _⟩

set_option maxHeartbeats 4000000 in
set_option maxRecDepth 100000 in
theorem made_any (v : Value) (l : List Do) (w : World) (hs : SeesA w v l) (hl : ∀ x ∈ l, x.b.length ≤ 100) (hn : l.length ≤ 20) :
    Calls Try.prog 17 #[v] w (FPost (madeTo l l.length) w) := by
  obtain ⟨a, cap, rfl, -⟩ := id hs
  have HS := Lib.hid (fun W (hB : Below w.heap.size w W) => hs.later hB)
  have HL := Lib.hid hl
  obtain ⟨n, e⟩ : ∃ n, n = l.length := ⟨_, rfl⟩
  rw [← e] at HS hn ⊢
  have HN := Lib.hid e
  have M0 := Lib.hid (MInv.start w)
  unfold FPost
  clear hs hl e
  go_enter Try.func17, Try.ntmps17
  go_wp2_with fail
  go_loopw [4] (fun i wr => ∃ k : Nat, k ≤ n ∧ i = .int .i64 (k : Int) ∧ MInv w (madeTo l k) wr) (fun i _ => n - (intOf i).toNat)
  case atStart => exact ⟨0, Nat.zero_le _, rfl, M0.out⟩
  case round =>
    clear M0
    obtain ⟨k, hk, rfl, hM⟩ := hrel
    have HM := Lib.hid hM
    obtain ⟨A0, n0, c0, A1, n1, c1, A2, n2, c2, hB, hS, hR, hbel⟩ := hM
    have X1 := Lib.hid hB
    have R1 := Lib.hid hR
    have S1 := Lib.hid hS
    have B1 := Lib.hid hbel
    clear hB hR hS hbel
    obtain ⟨x0, x1, x2⟩ := X1.out.cells
    by_cases hlt : k < n
    · have hkl : k < l.length := by rw [← HN.out]; exact hlt
      obtain ⟨g, off, A, bc, rfl, hg, hc1, hc2, hc3, hsv⟩ := (HS.out _ B1.out).cells hkl
      have SZ := Lib.hid (madeTo_sz HL.out (k := k) (by omega))
      have HX := Lib.hid (madeTo_succ hkl)
      have hbl := HL.out _ (List.getElem_mem hkl)
      have hE := act1_syn (madeTo l k) (u := l[k])
      have hW := act1_wr (madeTo l k) (u := l[k])
      have hNo := act1_no (madeTo l k) (u := l[k])
      rw [← HX.out] at hE hW hNo
      generalize l[k] = u at *
      obtain ⟨s, p, b⟩ := u
      simp only at hc1 hc2 hc3 hsv hbl hE hW hNo
      have SV := Lib.hid hsv
      have HBL := Lib.hid hbl
      obtain ⟨bl, ebl⟩ : ∃ bl, bl = b.length := ⟨_, rfl⟩
      rw [← ebl] at hc3 SV HBL hW hNo
      have EBL := Lib.hid ebl.symm
      clear hsv hbl ebl HX
      cases s with
      | true =>
        have HF := Lib.hid (hE rfl)
        clear hE hW hNo
        go_wp2_with fail
        refine (rfsync_any _ _ _ S1.out SZ.out).mono ?_
        rintro e w2 ⟨v2, rfl, s2, b2⟩
        obtain ⟨B0, d0, B1', d1, B2', d2, rfl, -, -, -⟩ := s2.slices
        generalize (syn (madeTo l k)).now.length = m0 at *
        generalize (syn (madeTo l k)).sure.length = m1 at *
        generalize (syn (madeTo l k)).pend.length = m2 at *
        rw [← HF.out] at s2
        have M2 := Lib.hid (HM.out.set b2 s2)
        have X2 := Lib.hid (X1.out.later b2)
        clear s2 b2 x0 x1 x2
        obtain ⟨x0, x1, x2⟩ := X2.out.cells
        obtain ⟨z0, z1, z2⟩ := X2.out.soft
        go_wp2_with fail
        go_roundw
        case rel => exact ⟨k + 1, by omega, by go_num, M2.out⟩
        case measure => simp [intOf]; omega
      | false =>
        clear hE
        have SP := Lib.hid S1.out
        have HC := Lib.hid (show ∀ W, Below wr.heap.size wr W → W.cell? ⟨w.heap.size + 1, 0, none⟩ = some (.slice A0 n0 c0) ∧ W.cell? ⟨w.heap.size + 1, 1, none⟩ = some (.slice A1 n1 c1) ∧ W.cell? ⟨w.heap.size + 1, 2, none⟩ = some (.slice A2 n2 c2) ∧ W.cell? ⟨g, off + k * 3 + 1, none⟩ = some (.int .i64 p) ∧ W.cell? ⟨g, off + k * 3 + 2, none⟩ = some (.slice A bl bc) from
          fun W hB => ⟨(X1.out.later hB).cells.1, (X1.out.later hB).cells.2.1, (X1.out.later hB).cells.2.2, (hB.cell (p := ⟨g, off + k * 3 + 1, none⟩) hg).trans hc2, (hB.cell (p := ⟨g, off + k * 3 + 2, none⟩) hg).trans hc3⟩)
        have WR := Lib.hid (show ∀ W, Below wr.heap.size wr W → Calls Try.prog 9 #[.agg #[.slice A0 n0 c0, .slice A1 n1 c1, .slice A2 n2 c2], .int .i64 p, .slice A bl bc] W fun e W' => ∃ B0 d0 B1 d1 B2 d2, e = .returned (.tuple #[.agg #[.slice B0 (wrF (madeTo l k) p b).now.length d0, .slice B1 (wrF (madeTo l k) p b).sure.length d1, .slice B2 (wrF (madeTo l k) p b).pend.length d2], .int .i64 (wrE (madeTo l k) p bl)]) ∧ SeesF W' (.agg #[.slice B0 (wrF (madeTo l k) p b).now.length d0, .slice B1 (wrF (madeTo l k) p b).sure.length d1, .slice B2 (wrF (madeTo l k) p b).pend.length d2]) (wrF (madeTo l k) p b) ∧ Below W.heap.size W W' ∧ Below wr.heap.size wr W' from
          fun W hB => (rfwrite_any _ (madeTo l k) p A bl bc b W (S1.out.later hB) SZ.out (SV.out.later hB) EBL.out (by have := HBL.out; omega)).mono fun e W' ⟨v, he, hs, hb⟩ => by
            obtain ⟨B0, d0, B1, d1, B2, d2, rfl, -, -, -⟩ := hs.slices
            exact ⟨B0, d0, B1, d1, B2, d2, he, hs, hb, hB.trans (hb.mono hB.size)⟩)
        have KD : Below wr.heap.size wr wr.drew := below_drew _ (Nat.le_refl _)
        have KA : Below wr.heap.size wr (wr.alloc (.cells #[.slice none 0 0, .slice none 0 0, .slice none 0 0] 25)).drew := (below_made wr _).drew
        have GA := Lib.hid (show FBox (wr.alloc (.cells #[.slice none 0 0, .slice none 0 0, .slice none 0 0] 25)).drew wr.heap.size _ _ _ from (FBox.made wr (.slice none 0 0) (.slice none 0 0) (.slice none 0 0)).later (below_drew _ (Nat.le_refl _)))
        have HE := Lib.hid hW
        have HNE := Lib.hid hNo
        generalize (wrF (madeTo l k) p b).now.length = m0 at *
        generalize (wrF (madeTo l k) p b).sure.length = m1 at *
        generalize (wrF (madeTo l k) p b).pend.length = m2 at *
        generalize wrE (madeTo l k) p bl = er at *
        clear hW hNo S1 SZ SV HS SP x0 x1 x2
        obtain ⟨x0, x1, x2⟩ := X1.out.cells
        go_wp2_with fail
        go_region_held3 (fun W => W.cell? ⟨w.heap.size + 1, 0, none⟩ = some (.slice A0 n0 c0) ∧ W.cell? ⟨w.heap.size + 1, 1, none⟩ = some (.slice A1 n1 c1) ∧ W.cell? ⟨w.heap.size + 1, 2, none⟩ = some (.slice A2 n2 c2) ∧ W.cell? ⟨g, off + k * 3 + 1, none⟩ = some (.int .i64 p) ∧ W.cell? ⟨g, off + k * 3 + 2, none⟩ = some (.slice A bl bc))
          (first | exact HC.out _ KD | exact HC.out _ KA | exact HC.out _ k2 | exact HC.out _ (k2.alloc k2.size _) | exact HC.out _ (fset_below k2 (Nat.le_refl _) _ _ _) | exact HC.out _ (fset_below (k2.alloc k2.size _) k2.size _ _ _))
          (first
            | (go_at_call 9; (with_reducible refine (WR.out _ (by assumption)).mono ?_); rintro e w2 ⟨B0, d0, B1, d1, B2, d2, rfl, s2, b2, k2⟩; (try (have GX := GA.out.later b2; obtain ⟨y0, y1, y2⟩ := GX.cells; obtain ⟨z0, z1, z2⟩ := GX.soft))))
        have b3 := below_made w2 (.cells #[.slice B0 m0 d0, .slice B1 m1 d1, .slice B2 m2 d2] 25)
        have S3 := Lib.hid (s2.later b3)
        have B3 := Lib.hid (k2.trans (b3.mono k2.size))
        have G3 := Lib.hid (FBox.made w2 (.slice B0 m0 d0) (.slice B1 m1 d1) (.slice B2 m2 d2))
        have lq := k2.size
        clear s2 b2 k2 b3
        generalize w2.alloc (.cells #[.slice B0 m0 d0, .slice B1 m1 d1, .slice B2 m2 d2] 25) = w3 at *
        generalize w2.heap.size = q at *
        rotate_left
        change Exit.then _ _ _ _ (fset w2 wr.heap.size (.slice B0 m0 d0) (.slice B1 m1 d1) (.slice B2 m2 d2))
        have S3 := Lib.hid (s2.fset GX (.slice B0 m0 d0) (.slice B1 m1 d1) (.slice B2 m2 d2))
        have B3 := Lib.hid (fset_below k2 (Nat.le_refl _) (.slice B0 m0 d0) (.slice B1 m1 d1) (.slice B2 m2 d2))
        have G3 := Lib.hid (GX.set (.slice B0 m0 d0) (.slice B1 m1 d1) (.slice B2 m2 d2))
        clear s2 b2 k2 GX y0 y1 y2 z0 z1 z2
        generalize fset w2 wr.heap.size (.slice B0 m0 d0) (.slice B1 m1 d1) (.slice B2 m2 d2) = w3 at *
        obtain ⟨q, hq⟩ : ∃ q, q = wr.heap.size := ⟨_, rfl⟩
        rw [← hq] at G3 ⊢
        have lq : wr.heap.size ≤ q := by omega
        clear hq
        all_goals
          have lx := X1.out.lt
          have X3 := Lib.hid (X1.out.later B3.out)
          have hne : ¬ w.heap.size + 1 = q := by omega
          have hne' : ¬ q = w.heap.size + 1 := by omega
          have M3 := Lib.hid (HM.out.later B3.out)
          have M4 := Lib.hid (HM.out.set B3.out S3.out)
          clear KD KA GA x0 x1 x2 hc1 hc2 hc3
          obtain ⟨x0, x1, x2⟩ := X3.out.cells
          obtain ⟨z0, z1, z2⟩ := X3.out.soft
          obtain ⟨g0, g1, g2⟩ := G3.out.cells
          by_cases he : er = 0
          · have HF := Lib.hid (HE.out trivial he)
            subst he
            go_wp2_with fail
            go_roundw
            case rel => exact ⟨k + 1, by omega, by go_num, by rw [HF.out]; exact M4.out⟩
            case measure => simp [intOf]; omega
          · have HF := Lib.hid (HNE.out trivial he)
            have he' : decide (er = 0) = false := by simpa using he
            go_wp2_with fail
            go_roundw
            case rel => exact ⟨k + 1, by omega, by go_num, by rw [HF.out]; exact M3.out⟩
            case measure => simp [intOf]; omega
    · have hkn : k = n := by omega
      obtain ⟨y0, y1, y2⟩ := R1.out.cells
      obtain ⟨z0, z1, z2⟩ := R1.out.soft
      have YF := Lib.hid (R1.out.set (.slice A0 n0 c0) (.slice A1 n1 c1) (.slice A2 n2 c2))
      have SF := Lib.hid (show SeesF (fset wr w.heap.size (.slice A0 n0 c0) (.slice A1 n1 c1) (.slice A2 n2 c2)) (.agg #[.slice A0 n0 c0, .slice A1 n1 c1, .slice A2 n2 c2]) (madeTo l n) ∧ Below w.heap.size w (fset wr w.heap.size (.slice A0 n0 c0) (.slice A1 n1 c1) (.slice A2 n2 c2)) from
        ⟨by rw [← hkn]; exact S1.out.fset R1.out _ _ _, fset_below B1.out (Nat.le_refl _) _ _ _⟩)
      clear hkn HM
      go_wp2_with fail
      change bodyPost _ _ _ _ _ (fset wr w.heap.size (.slice A0 n0 c0) (.slice A1 n1 c1) (.slice A2 n2 c2))
      generalize fset wr w.heap.size (.slice A0 n0 c0) (.slice A1 n1 c1) (.slice A2 n2 c2) = w9 at *
      clear y0 y1 y2 x0 x1 x2
      obtain ⟨y0, y1, y2⟩ := YF.out.cells
      exact bodyPost_ret (by simp [results, Try.results17, go_sem, y0, y1, y2]) rfl ⟨_, rfl, SF.out.1, SF.out.2⟩
end Go.Proofs.Ytidhdalfcamhjaa
