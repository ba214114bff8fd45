/-
  The walks of file.kept and file.settled.
-/
import Derived.Test.YtaklilhnikmmfaaGreatFileRow
import Derived.Test.YtaklilhnikmmfaaGreatBlockPieces
namespace Go.Proofs.YtaklilhnikmmfaaGreat
open Go.RowKit StrM BlockM FileM

set_option maxHeartbeats 2000000 in
set_option maxRecDepth 100000 in
theorem kept_any (v bv : Value) (l : List P) (bs : List Bool) (w : World) (hs : SeesP w v l) (hbs : SeesV w bv (bools bs)) (hL : l.length ≤ 900000) :
    Calls Tryz.prog 77 #[v, bv] w (PPost (keep l bs) w) := by
  obtain ⟨len, hn⟩ : ∃ len, len = l.length := ⟨_, rfl⟩
  obtain ⟨a, cap, rfl, -⟩ := id hs
  obtain ⟨nb, hnb⟩ : ∃ nb, nb = bs.length := ⟨_, rfl⟩
  obtain ⟨ab, cb, rfl, -⟩ := id hbs
  rw [bools_len, ← hnb] at hbs ⊢
  have HS := Lib.hid hs
  have HBS := Lib.hid hbs
  rw [← hn] at HS hL ⊢
  have HN := Lib.hid hn
  have HNB := Lib.hid hnb
  clear hs hn hbs hnb
  unfold PPost
  go_enter Tryz.func77, Tryz.ntmps77
  go_wp2_with fail
  go_loopw [5, 10] (fun x i wr => ∃ (k : Nat) (la : List PB), k ≤ len ∧ i = .int .i64 (k : Int) ∧ la.map Prod.fst = keepTo l bs k ∧ KRel w x la wr) (fun _ i _ => len - (intOf i).toNat)
  case atStart => exact ⟨0, [], Nat.zero_le _, rfl, rfl, KRel.nil w⟩
  case round =>
    obtain ⟨k, la, hk, rfl, hla, hK⟩ := hrel
    have HLA := Lib.hid hla
    have HK := Lib.hid hK
    have hlen : la.length ≤ k := by
      have h := congrArg List.length hla
      rw [List.length_map] at h
      rw [h]; exact keepTo_len _ _ _
    clear hla hK
    by_cases hlt : k < len
    · have hkl : k < l.length := by rw [← HN.out]; exact hlt
      obtain ⟨g, off, A1, bc, rfl, hg, cc1, cc2, csv⟩ := HS.out.cells hkl
      have hyes := fun h => keepTo_yes (l := l) (bs := bs) hkl h
      have hc1 : wr.cell? ⟨g, off + k * 2, none⟩ = some (.int .i64 l[k].p) := (HK.out.2.2.cell (p := ⟨g, off + k * 2, none⟩) hg).trans cc1
      have hc2 : wr.cell? ⟨g, off + k * 2 + 1, none⟩ = some (.slice A1 l[k].b.length bc) := (HK.out.2.2.cell (p := ⟨g, off + k * 2 + 1, none⟩) hg).trans cc2
      have hno := fun h => keepTo_no (l := l) (bs := bs) (k := k) h
      clear cc1 cc2
      generalize l[k] = u at *
      obtain ⟨p, b⟩ := u
      simp only at hc1 hc2 csv
      obtain ⟨bl, hbl⟩ : ∃ bl, bl = b.length := ⟨_, rfl⟩
      rw [← hbl] at hc2 csv
      have CSV := Lib.hid csv
      have HBL := Lib.hid hbl
      have B1 := Lib.hid (below_made wr (.cells #[.int .i64 p, .slice A1 bl bc] 113))
      have K1 := Lib.hid (show KRel w u5 la (wr.alloc (.cells #[.int .i64 p, .slice A1 bl bc] 113)) from ⟨HK.out.1.alloc _, HK.out.2.1, HK.out.2.2.alloc HK.out.2.2.size _⟩)
      clear csv hbl
      by_cases hb : k < nb
      · have hbl2 : k < bs.length := by rw [← HNB.out]; exact hb
        obtain ⟨gb, ob, rfl, hgb, cb0⟩ := HBS.out.bool hbl2
        have hb' : (k : Int) < (nb : Int) := by omega
        have hbit := bit_at hbl2
        have hcb : (wr.alloc (.cells #[.int .i64 p, .slice A1 bl bc] 113)).cell? ⟨gb, ob + k, none⟩ = some (.bool bs[k]) := (K1.out.2.2.cell (p := ⟨gb, ob + k, none⟩) hgb).trans cb0
        clear cb0
        generalize bs[k] = t at *
        cases t with
        | false =>
          have HX := Lib.hid (hno hbit)
          clear hyes hno hbit
          go_wp2_with fail
          go_roundw
          case rel => exact ⟨k + 1, la, by omega, by go_num, by rw [HX.out]; exact HLA.out, K1.out⟩
          case measure => simp [intOf]; omega
        | true =>
          have HX := Lib.hid (hyes hbit)
          clear hyes hno hbit
          go_wp2_with (at_builtin; refine append_piece rfl _ _ rfl w.heap.size _ _ _ rfl K1.out.1 (⟨p, b⟩, .slice A1 bl bc) rfl (by simp [Act.eval]) ?a1 ?a2 ?_)
          case a1 => omega
          case a2 => exact K1.out.2.2.size
          intro v2 w2 ho hb2 hst
          have K2 := Lib.hid (show KRel w v2 (la ++ [(⟨p, b⟩, .slice A1 bl bc)]) w2 from ⟨by rw [List.length_append]; exact ho, fun x hx => by
            rcases List.mem_append.1 hx with hx | hx
            · exact K1.out.2.1 x hx
            · have : x = (⟨p, b⟩, .slice A1 bl bc) := by simpa using hx
              subst this
              exact CSV.out, K1.out.2.2.trans hb2⟩)
          clear ho hb2 hst
          go_wp2_with fail
          go_roundw
          case rel => exact ⟨k + 1, _, by omega, by go_num, by rw [HX.out, List.map_append, HLA.out]; rfl, K2.out⟩
          case measure => simp [intOf]; omega
      · have hb' : decide (k < nb) = false := by simpa using hb
        have HX := Lib.hid (hno (bit_out (by rw [← HNB.out]; exact hb)))
        clear hyes hno hb
        go_wp2_with fail
        go_roundw
        case rel => exact ⟨k + 1, la, by omega, by go_num, by rw [HX.out]; exact HLA.out, K1.out⟩
        case measure => simp [intOf]; omega
    · have HX := Lib.hid (show SeesP wr u5 (keep l bs) by
        have h := HK.out.sees
        rw [HLA.out, show k = l.length by rw [← HN.out]; omega] at h
        exact h)
      have HB := Lib.hid HK.out.2.2
      go_wp2_with fail
      go_ret
      exact ⟨_, rfl, HX.out, HB.out⟩

/-- What a function that hands back a file returns. -/
def FPost (f : Fl) (w : World) (e : Ending) (w' : World) : Prop := ∃ v, e = .returned v ∧ SeesF w' v f ∧ Below w.heap.size w w'

theorem settled_any (v : Value) (b : List UInt8) (w : World) (hs : SeesV w v (bys b)) (hl : b.length ≤ 1000000) : Calls Tryz.prog 75 #[v] w (FPost ⟨b, b, []⟩ w) := by
  obtain ⟨A, c, rfl, -⟩ := id hs
  rw [bys_len] at hs ⊢
  have CL := Lib.hid (fun W (hb : Below w.heap.size w W) => clone_any A b.length c b W (hs.later hb) hl)
  have B0 := Lib.hid (below_made w (.cells #[.slice none 0 0, .slice none 0 0, .slice none 0 0] 70))
  have X0 := Lib.hid (FBox.made w (.slice none 0 0) (.slice none 0 0) (.slice none 0 0))
  generalize b.length = n at *
  clear hs hl
  unfold FPost
  go_enter Tryz.func75, Tryz.ntmps75
  go_wp2_with fail
  refine (CL.out _ B0.out).mono ?_
  rintro e w1 ⟨v1, rfl, ho1, hb1⟩
  obtain ⟨A1, c1, rfl, -⟩ := own_slice ho1
  have B1 := Lib.hid (B0.out.trans (hb1.mono B0.out.size))
  have X1 := Lib.hid (X0.out.later hb1)
  have S1 := Lib.hid (SeesV.of_own ho1)
  clear ho1 hb1
  go_wp2_with fail
  refine (CL.out _ B1.out).mono ?_
  rintro e w2 ⟨v2, rfl, ho2, hb2⟩
  obtain ⟨A2, c2, rfl, -⟩ := own_slice ho2
  have B2 := Lib.hid (B1.out.trans (hb2.mono B1.out.size))
  have X2 := Lib.hid (X1.out.later hb2)
  have S2 := Lib.hid (S1.out.later hb2)
  have S3 := Lib.hid (SeesV.of_own ho2)
  clear ho2 hb2
  obtain ⟨x0, x1, x2⟩ := X2.out.cells
  obtain ⟨z0, z1, z2⟩ := X2.out.soft
  have HF := Lib.hid (show SeesF (fset w2 w.heap.size (.slice A1 b.length c1) (.slice A2 b.length c2) (.slice none 0 0)) (.agg #[.slice A1 b.length c1, .slice A2 b.length c2, .slice none 0 0]) ⟨b, b, []⟩ ∧ Below w.heap.size w (fset w2 w.heap.size (.slice A1 b.length c1) (.slice A2 b.length c2) (.slice none 0 0)) from
    ⟨⟨_, _, _, rfl, S2.out.fset X2.out _ _ _, S3.out.fset X2.out _ _ _, seesP_nil _⟩, fset_below B2.out (Nat.le_refl _) _ _ _⟩)
  have XF := Lib.hid (X2.out.set (.slice A1 b.length c1) (.slice A2 b.length c2) (.slice none 0 0))
  go_wp2_with fail
  change bodyPost _ _ _ _ _ (fset w2 w.heap.size (.slice A1 b.length c1) (.slice A2 b.length c2) (.slice none 0 0))
  generalize fset w2 w.heap.size (.slice A1 b.length c1) (.slice A2 b.length c2) (.slice none 0 0) = w3 at *
  obtain ⟨y0, y1, y2⟩ := XF.out.cells
  exact bodyPost_ret (by simp [results, Tryz.results75, go_sem, y0, y1, y2]) rfl ⟨_, rfl, HF.out.1, HF.out.2⟩
end Go.Proofs.YtaklilhnikmmfaaGreat
