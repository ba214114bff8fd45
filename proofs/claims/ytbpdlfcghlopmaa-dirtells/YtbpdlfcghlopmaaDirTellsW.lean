/-
  The walk of DirTells.
-/
import Derived.Test.YtbpdlfcghlopmaaDirAwake
import Derived.Test.YtbpdlfcghlopmaaDirOpen
namespace Go.Proofs.Ytbpdlfcghlopmaa
open Go.RowKit StrM DirM

theorem len_doD (d : D) (o : O) (h0 : d.now.length ≤ 110) (h1 : d.sure.length ≤ 110) (h2 : d.pend.length ≤ 40) : (doD d o).now.length ≤ 1000000 ∧ (doD d o).sure.length ≤ 1000000 ∧ (doD d o).pend.length ≤ 1000000 := by
  unfold doD
  split
  · split
    · next he =>
      have := len_done he
      refine ⟨?_, ?_, ?_⟩
      · show (done d.now o).length ≤ _; omega
      · show d.sure.length ≤ _; omega
      · show (d.pend ++ [o]).length ≤ _; rw [List.length_append]; simp; omega
    · exact ⟨Nat.zero_le _, Nat.zero_le _, Nat.zero_le _⟩
  · exact ⟨Nat.zero_le _, Nat.zero_le _, Nat.zero_le _⟩
theorem len_syn (d : D) (h0 : d.now.length ≤ 110) : (syn d).now.length ≤ 1000000 ∧ (syn d).sure.length ≤ 1000000 ∧ (syn d).pend.length ≤ 1000000 := by
  unfold syn
  split
  · exact ⟨by show d.now.length ≤ _; omega, by show d.now.length ≤ _; omega, Nat.zero_le _⟩
  · exact ⟨Nat.zero_le _, Nat.zero_le _, Nat.zero_le _⟩
theorem len_cr (d : D) (n : Int) : (cr d n).now.length ≤ 1000000 ∧ (cr d n).sure.length ≤ 1000000 ∧ (cr d n).pend.length ≤ 1000000 := by
  unfold cr
  split
  · next hv =>
    have := (perf_cut (n := n) hv).2
    exact ⟨this, this, Nat.zero_le _⟩
  · exact ⟨Nat.zero_le _, Nat.zero_le _, Nat.zero_le _⟩

set_option maxHeartbeats 8000000 in
set_option maxRecDepth 100000 in
theorem dtells_walk (v : Value) (d : D) (o : O) (n : Int) (w : World) (hs : SeesD w v d) (hsn : ∀ x ∈ d.sure, x.name.size ≤ maxLen) (hpn : ∀ x ∈ d.pend, OkO x) (ho : OkO o) :
    Calls Try.prog 3 #[v, .agg #[.int .i64 o.kind, .string o.name, .string o.dst, .int .i64 o.node], .int .i64 n] w fun e w' => e = .returned (.bool true) ∧ Below w.heap.size w w' := by
  obtain ⟨A0, c0, A1, c1, A2, c2, rfl, s0, -, -⟩ := id hs.slices
  have HS := Lib.hid (fun W (hB : Below w.heap.size w W) => hs.later hB)
  have HS0 := Lib.hid (fun W (hB : Below w.heap.size w W) => s0.later hB)
  have HPN := Lib.hid hpn
  have HSN := Lib.hid hsn
  have HOK := Lib.hid ho
  have HO := Lib.hid (show o = ⟨o.kind, o.name, o.dst, o.node⟩ from rfl)
  obtain ⟨n0, e0⟩ : ∃ n, n = d.now.length := ⟨_, rfl⟩
  obtain ⟨n1, e1⟩ : ∃ n, n = d.sure.length := ⟨_, rfl⟩
  obtain ⟨n2, e2⟩ : ∃ n, n = d.pend.length := ⟨_, rfl⟩
  have FE := Lib.hid (fun W (hB : Below w.heap.size w W) => dfew_any _ d W (hs.later hB))
  rw [← e0, ← e1, ← e2] at HS FE ⊢
  rw [← e0] at HS0
  have N0 := Lib.hid e0
  have N1 := Lib.hid e1
  have N2 := Lib.hid e2
  clear hs s0 hpn hsn ho e0 e1 e2
  have BW := Lib.hid ((below_made w (.cells #[.slice A0 n0 c0, .slice A1 n1 c1, .slice A2 n2 c2] 25)).alloc (below_made w _).size (.cells #[.int .i64 o.kind, .string o.name, .string o.dst, .int .i64 o.node] 27))
  have X0 := Lib.hid ((DBox.made w (.slice A0 n0 c0) (.slice A1 n1 c1) (.slice A2 n2 c2)).later (below_made _ (.cells #[.int .i64 o.kind, .string o.name, .string o.dst, .int .i64 o.node] 27)))
  have P0 := Lib.hid (show OBox _ (w.heap.size + 1) _ by simpa using OBox.made (w.alloc (.cells #[.slice A0 n0 c0, .slice A1 n1 c1, .slice A2 n2 c2] 25)) o)
  obtain ⟨kd, nm, ds, nd⟩ := o
  simp only at BW X0 P0 HO ⊢
  go_enter Try.func3, Try.ntmps3
  go_wp2_with fail
  refine (FE.out _ BW.out).mono ?_
  rintro e w1 ⟨⟨t, rfl, ht⟩, hb1⟩
  have B1 := Lib.hid (BW.out.trans (hb1.mono BW.out.size))
  have HQ := Lib.hid (fun (W : World) (hB : Below w1.heap.size w1 W) => And.intro ((X0.out.later hb1).later hB).cells (show W.cell? ⟨w.heap.size + 1, 0, none⟩ = some (.int .i64 kd) ∧ W.cell? ⟨w.heap.size + 1, 1, none⟩ = some (.string nm) ∧ W.cell? ⟨w.heap.size + 1, 2, none⟩ = some (.string ds) ∧ W.cell? ⟨w.heap.size + 1, 3, none⟩ = some (.int .i64 nd) from ((P0.out.later hb1).later hB).cells))
  have l0 := (X0.out.later hb1).lt
  have l1 := (P0.out.later hb1).lt
  clear hb1 BW X0 P0
  cases t with
  | false =>
    clear ht HQ
    go_wp2_with fail
    refine (dawake_any _).mono ?_
    rintro e w' ⟨rfl, hb⟩
    have B2 := Lib.hid (B1.out.trans (hb.mono B1.out.size))
    clear hb
    go_wp2_with fail
    go_ret
    exact ⟨rfl, B2.out⟩
  | true =>
    obtain ⟨m0, m1, m2⟩ := ht rfl
    have M0 := Lib.hid (show d.now.length ≤ 110 by rw [← N0.out]; exact m0)
    have M1 := Lib.hid (show d.sure.length ≤ 110 by rw [← N1.out]; exact m1)
    have M2 := Lib.hid (show d.pend.length ≤ 40 by rw [← N2.out]; exact m2)
    have SZ := Lib.hid (show Sz d from ⟨by have := M1.out; omega, by have := M2.out; omega, HSN.out, HPN.out⟩)
    clear ht m0 m1 m2 HPN HSN
    obtain ⟨⟨x0, x1, x2⟩, p0, p1, p2, p3⟩ := HQ.out _ (Below.refl _ _)
    by_cases h1 : 100 < nm.size
    · have h1' : (100 : Int) < (nm.size : Int) := by omega
      clear HQ h1
      go_wp2_with fail
      refine (dawake_any _).mono ?_
      rintro e w' ⟨rfl, hb⟩
      have B2 := Lib.hid (B1.out.trans (hb.mono B1.out.size))
      clear hb
      go_wp2_with fail
      go_ret
      exact ⟨rfl, B2.out⟩
    · have h1' : decide ((100 : Int) < (nm.size : Int)) = false := by simp; omega
      have h1'' : decide (100 < nm.size) = false := by simp; omega
      by_cases h2 : 100 < ds.size
      · have h2' : (100 : Int) < (ds.size : Int) := by omega
        clear HQ h1 h2
        go_wp2_with fail
        refine (dawake_any _).mono ?_
        rintro e w' ⟨rfl, hb⟩
        have B2 := Lib.hid (B1.out.trans (hb.mono B1.out.size))
        clear hb
        go_wp2_with fail
        go_ret
        exact ⟨rfl, B2.out⟩
      · have h2' : decide ((100 : Int) < (ds.size : Int)) = false := by simp; omega
        have h2'' : decide (100 < ds.size) = false := by simp; omega
        have D1 := Lib.hid (ddo_any _ d ⟨kd, nm, ds, nd⟩ _ (HS.out _ B1.out) (by have := M2.out; omega))
        unfold DEPost at D1
        clear h1 h2
        go_wp2_with fail
        refine D1.out.mono ?_
        rintro e wa ⟨va, rfl, sa', ba⟩
        clear x0 x1 x2 p0 p1 p2 p3 h1' h1'' h2' h2'' D1
        obtain ⟨D0, d0, D1, d1, D2, d2, rfl, -, -, -⟩ := sa'.slices
        generalize (doD d ⟨kd, nm, ds, nd⟩).now.length = k0 at *
        generalize (doD d ⟨kd, nm, ds, nd⟩).sure.length = k1 at *
        generalize (doD d ⟨kd, nm, ds, nd⟩).pend.length = k2 at *
        have bx := below_made wa (.cells #[.slice D0 k0 d0, .slice D1 k1 d1, .slice D2 k2 d2] 25)
        have bq := ba.trans (bx.mono ba.size)
        have B2 := Lib.hid (B1.out.trans (bq.mono B1.out.size))
        have HQ2 := Lib.hid (fun (W : World) (hB : Below (wa.alloc (.cells #[.slice D0 k0 d0, .slice D1 k1 d1, .slice D2 k2 d2] 25)).heap.size (wa.alloc (.cells #[.slice D0 k0 d0, .slice D1 k1 d1, .slice D2 k2 d2] 25)) W) => And.intro (HQ.out W (bq.trans (hB.mono bq.size))) (And.intro ((DBox.made wa (.slice D0 k0 d0) (.slice D1 k1 d1) (.slice D2 k2 d2)).later hB).cells ((sa'.later bx).later hB)))
        have l2 := ba.size
        have f1 : w.heap.size < wa.heap.size := by omega
        have f2 : w.heap.size + 1 < wa.heap.size := by omega
        have l3 := (DBox.made wa (.slice D0 k0 d0) (.slice D1 k1 d1) (.slice D2 k2 d2)).lt
        have qa := HQ.out _ ba
        clear ba bx sa' bq HQ
        obtain ⟨⟨x0, x1, x2⟩, p0, p1, p2, p3⟩ := qa
        have D2' := Lib.hid (rddo_any _ d ⟨kd, nm, ds, nd⟩ _ (HS.out _ B2.out) SZ.out (by have := M2.out; omega) HOK.out)
        unfold DEPost at D2'
        go_wp2_with fail
        refine D2'.out.mono ?_
        rintro e wb ⟨vb, rfl, sb', bb⟩
        clear x0 x1 x2 p0 p1 p2 p3 D2'
        obtain ⟨E0, e0, E1, e1, E2, e2, rfl, -, -, -⟩ := sb'.slices
        generalize (doD d ⟨kd, nm, ds, nd⟩).now.length = i0 at *
        generalize (doD d ⟨kd, nm, ds, nd⟩).sure.length = i1 at *
        generalize (doD d ⟨kd, nm, ds, nd⟩).pend.length = i2 at *
        have bx := below_made wb (.cells #[.slice E0 i0 e0, .slice E1 i1 e1, .slice E2 i2 e2] 25)
        have bq := bb.trans (bx.mono bb.size)
        have B3 := Lib.hid (B2.out.trans (bq.mono B2.out.size))
        have HQ3 := Lib.hid (fun (W : World) (hB : Below (wb.alloc (.cells #[.slice E0 i0 e0, .slice E1 i1 e1, .slice E2 i2 e2] 25)).heap.size (wb.alloc (.cells #[.slice E0 i0 e0, .slice E1 i1 e1, .slice E2 i2 e2] 25)) W) => And.intro (HQ2.out W (bq.trans (hB.mono bq.size))) (And.intro ((DBox.made wb (.slice E0 i0 e0) (.slice E1 i1 e1) (.slice E2 i2 e2)).later hB).cells ((sb'.later bx).later hB)))
        have l4 := bb.size
        have l5 := (DBox.made wb (.slice E0 i0 e0) (.slice E1 i1 e1) (.slice E2 i2 e2)).lt
        have qa := HQ2.out _ bb
        clear bb bx sb' bq HQ2
        obtain ⟨⟨⟨x0, x1, x2⟩, p0, p1, p2, p3⟩, ⟨y0, y1, y2⟩, -⟩ := qa
        have FI := Lib.hid (find_any _ d nm _ (HS.out _ B3.out) (by have := M0.out; omega))
        have g1 : w.heap.size < wb.heap.size := by omega
        have g2 : w.heap.size + 1 < wb.heap.size := by omega
        have g3 : wa.heap.size < wb.heap.size := by omega
        clear l0 l1 l2 l3 l4 l5 f1 f2
        go_wp2_with fail
        refine FI.out.mono ?_
        rintro e wc ⟨rfl, bc⟩
        clear x0 x1 x2 p0 p1 p2 p3 y0 y1 y2 FI
        have B4 := Lib.hid (B3.out.trans (bc.mono B3.out.size))
        have HQ4 := Lib.hid (fun (W : World) (hB : Below wc.heap.size wc W) => HQ3.out W (bc.trans (hB.mono bc.size)))
        clear bc HQ3
        obtain ⟨⟨⟨⟨x0, x1, x2⟩, p0, p1, p2, p3⟩, ⟨y0, y1, y2⟩, -⟩, ⟨z0, z1, z2⟩, -⟩ := HQ4.out _ (Below.refl _ _)
        have AT := Lib.hid (rat_any _ d.now nm wc (HS0.out _ B4.out) (by have := M0.out; omega))
        go_wp2_with fail
        refine AT.out.mono ?_
        rintro e w' ⟨rfl, rfl⟩
        clear AT
        have LD2 := Lib.hid (len_doD d ⟨kd, nm, ds, nd⟩ M0.out M1.out M2.out)
        have N00 := Lib.hid N0.out
        have HD := Lib.hid (fun W (hB : Below wc.heap.size wc W) => HS.out W (B4.out.trans (hB.mono B4.out.size)))
        have KD : Below wc.heap.size wc wc.drew := below_drew _ (Nat.le_refl _)
        have NA := Lib.hid (fun W => dname_any nm W)
        have NB := Lib.hid (fun W => rname_any nm W HOK.out.1)
        have R1 := Lib.hid (show ∀ W, Below wc.heap.size wc W → Calls Try.prog 13 #[.agg #[.slice A0 n0 c0, .slice A1 n1 c1, .slice A2 n2 c2]] W fun e W' => e = .returned (.bool (valid d)) ∧ Below wc.heap.size wc W' from fun W hB => (dright_any _ d W (HD.out W hB) (by have := M2.out; omega)).mono fun e W' ⟨he, hb⟩ => ⟨he, hB.trans (hb.mono hB.size)⟩)
        have R2 := Lib.hid (show ∀ W, Below wc.heap.size wc W → Calls Try.prog 14 #[.agg #[.slice A0 n0 c0, .slice A1 n1 c1, .slice A2 n2 c2]] W fun e W' => e = .returned (.bool (valid d)) ∧ Below wc.heap.size wc W' from fun W hB => (rdright_any _ d W (HD.out W hB) SZ.out).mono fun e W' ⟨he, hb⟩ => ⟨he, hB.trans (hb.mono hB.size)⟩)
        have Q1 := Lib.hid (show ∀ W, Below wc.heap.size wc W → Calls Try.prog 15 #[.agg #[.slice D0 k0 d0, .slice D1 k1 d1, .slice D2 k2 d2], .agg #[.slice E0 i0 e0, .slice E1 i1 e1, .slice E2 i2 e2]] W fun e W' => e = .returned (.bool true) ∧ Below wc.heap.size wc W' from fun W hB => (rdsame_any _ _ (doD d ⟨kd, nm, ds, nd⟩) W (HQ4.out W hB).1.2.2 (HQ4.out W hB).2.2 LD2.out.1 LD2.out.2.1 LD2.out.2.2).mono fun e W' ⟨he, hb⟩ => ⟨he, hB.trans (hb.mono hB.size)⟩)
        have U1 := Lib.hid (show ∀ W, Below wc.heap.size wc W → Calls Try.prog 16 #[.agg #[.slice A0 n0 c0, .slice A1 n1 c1, .slice A2 n2 c2]] W fun e W' => ∃ v, e = .returned v ∧ SeesD W' v (syn d) ∧ Below W.heap.size W W' ∧ Below wc.heap.size wc W' from fun W hB => (dsync_any _ d W (HD.out W hB) (by have := M2.out; omega)).mono fun e W' ⟨v, he, hs, hb⟩ => ⟨v, he, hs, hb, hB.trans (hb.mono hB.size)⟩)
        have U2 := Lib.hid (show ∀ W, Below wc.heap.size wc W → Calls Try.prog 17 #[.agg #[.slice A0 n0 c0, .slice A1 n1 c1, .slice A2 n2 c2]] W fun e W' => ∃ v, e = .returned v ∧ SeesD W' v (syn d) ∧ Below W.heap.size W W' ∧ Below wc.heap.size wc W' from fun W hB => (rdsync_any _ d W (HD.out W hB) SZ.out).mono fun e W' ⟨v, he, hs, hb⟩ => ⟨v, he, hs, hb, hB.trans (hb.mono hB.size)⟩)
        have Q2 := Lib.hid (show ∀ W v1 v2, SeesD W v1 (syn d) → SeesD W v2 (syn d) → Below wc.heap.size wc W → Calls Try.prog 15 #[v1, v2] W fun e W' => e = .returned (.bool true) ∧ Below wc.heap.size wc W' from fun W v1 v2 h1 h2 hB => (rdsame_any _ _ (syn d) W h1 h2 (len_syn d M0.out).1 (len_syn d M0.out).2.1 (len_syn d M0.out).2.2).mono fun e W' ⟨he, hb⟩ => ⟨he, hB.trans (hb.mono hB.size)⟩)
        have C1 := Lib.hid (show ∀ W, Below wc.heap.size wc W → Calls Try.prog 18 #[.agg #[.slice A0 n0 c0, .slice A1 n1 c1, .slice A2 n2 c2], .int .i64 n] W fun e W' => ∃ v, e = .returned v ∧ SeesD W' v (cr d n) ∧ Below W.heap.size W W' ∧ Below wc.heap.size wc W' from fun W hB => (dcrash_any _ d n W (HD.out W hB) (by have := M2.out; omega)).mono fun e W' ⟨v, he, hs, hb⟩ => ⟨v, he, hs, hb, hB.trans (hb.mono hB.size)⟩)
        have C2 := Lib.hid (show ∀ W, Below wc.heap.size wc W → Calls Try.prog 19 #[.agg #[.slice A0 n0 c0, .slice A1 n1 c1, .slice A2 n2 c2], .int .i64 n] W fun e W' => ∃ v, e = .returned v ∧ SeesD W' v (cr d n) ∧ Below W.heap.size W W' ∧ Below wc.heap.size wc W' from fun W hB => (rdcrash_any _ d n W (HD.out W hB) SZ.out).mono fun e W' ⟨v, he, hs, hb⟩ => ⟨v, he, hs, hb, hB.trans (hb.mono hB.size)⟩)
        have Q3 := Lib.hid (show ∀ W v1 v2, SeesD W v1 (cr d n) → SeesD W v2 (cr d n) → Below wc.heap.size wc W → Calls Try.prog 15 #[v1, v2] W fun e W' => e = .returned (.bool true) ∧ Below wc.heap.size wc W' from fun W v1 v2 h1 h2 hB => (rdsame_any _ _ (cr d n) W h1 h2 (len_cr d n).1 (len_cr d n).2.1 (len_cr d n).2.2).mono fun e W' ⟨he, hb⟩ => ⟨he, hB.trans (hb.mono hB.size)⟩)
        have AW := Lib.hid (show ∀ W, Below wc.heap.size wc W → Calls Try.prog 6 #[] W fun e W' => e = .returned (.bool true) ∧ Below wc.heap.size wc W' from fun W hB => (dawake_any W).mono fun e W' ⟨he, hb⟩ => ⟨he, hB.trans (hb.mono hB.size)⟩)
        have FIN := Lib.hid (show ∀ W, Below wc.heap.size wc W → Below w.heap.size w W from fun W hB => B4.out.trans (hB.mono B4.out.size))
        have HC := Lib.hid (show ∀ W, Below wc.heap.size wc W → W.cell? ⟨w.heap.size, 0, none⟩ = some (.slice A0 n0 c0) ∧ W.cell? ⟨w.heap.size, 1, none⟩ = some (.slice A1 n1 c1) ∧ W.cell? ⟨w.heap.size, 2, none⟩ = some (.slice A2 n2 c2) ∧ W.cell? ⟨w.heap.size + 1, 1, none⟩ = some (.string nm) ∧ W.cell? ⟨wa.heap.size, 0, none⟩ = some (.slice D0 k0 d0) ∧ W.cell? ⟨wa.heap.size, 1, none⟩ = some (.slice D1 k1 d1) ∧ W.cell? ⟨wa.heap.size, 2, none⟩ = some (.slice D2 k2 d2) ∧ W.cell? ⟨wb.heap.size, 0, none⟩ = some (.slice E0 i0 e0) ∧ W.cell? ⟨wb.heap.size, 1, none⟩ = some (.slice E1 i1 e1) ∧ W.cell? ⟨wb.heap.size, 2, none⟩ = some (.slice E2 i2 e2) from
          fun W hB => by
            obtain ⟨⟨⟨⟨q0, q1, q2⟩, _, q4, _, _⟩, ⟨q5, q6, q7⟩, _⟩, ⟨q8, q9, q10⟩, _⟩ := HQ4.out W hB
            exact ⟨q0, q1, q2, q4, q5, q6, q7, q8, q9, q10⟩)
        have H0 := Lib.hid (HS0.out _ B4.out)
        clear HD HQ4 HS HS0 FE SZ HOK HO LD2 M1 M2 N0 N1 N2 B1 B2 B3 B4
        generalize doE d ⟨kd, nm, ds, nd⟩ = er at *
        generalize valid d = vv at *
        generalize nameOk nm = nb at *
        cases hh : has d.now nm with
        | true =>
          obtain ⟨k, hk, hav, hnode, -⟩ := av_has hh
          rw [hav]
          obtain ⟨g, off, rfl, hg, -, hc2⟩ := SeesE.cells H0.out hk
          rw [hnode] at hc2
          have hkn : k < n0 := by rw [N00.out]; exact hk
          have hk0 : (0 : Int) ≤ (k : Int) := by omega
          generalize fv d.now nm = fw at *
          clear hh hav hnode hk hg H0
          go_wp2_with fail
          go_region_held3 (fun W => W.cell? ⟨w.heap.size, 0, none⟩ = some (.slice (some ⟨g, off, none⟩) n0 c0) ∧ W.cell? ⟨w.heap.size, 1, none⟩ = some (.slice A1 n1 c1) ∧ W.cell? ⟨w.heap.size, 2, none⟩ = some (.slice A2 n2 c2) ∧ W.cell? ⟨w.heap.size + 1, 1, none⟩ = some (.string nm) ∧ W.cell? ⟨wa.heap.size, 0, none⟩ = some (.slice D0 k0 d0) ∧ W.cell? ⟨wa.heap.size, 1, none⟩ = some (.slice D1 k1 d1) ∧ W.cell? ⟨wa.heap.size, 2, none⟩ = some (.slice D2 k2 d2) ∧ W.cell? ⟨wb.heap.size, 0, none⟩ = some (.slice E0 i0 e0) ∧ W.cell? ⟨wb.heap.size, 1, none⟩ = some (.slice E1 i1 e1) ∧ W.cell? ⟨wb.heap.size, 2, none⟩ = some (.slice E2 i2 e2))
            (first | exact HC.out _ (by assumption))
            (first
              | (go_at_call 11; (with_reducible refine (NA.out _).mono ?_); rintro e z0 ⟨rfl, rfl⟩)
              | (go_at_call 12; (with_reducible refine (NB.out _).mono ?_); rintro e z00 ⟨rfl, rfl⟩)
              | (go_at_call 13; (with_reducible refine (R1.out _ (by assumption)).mono ?_); rintro e z1 ⟨rfl, k1⟩)
              | (go_at_call 14; (with_reducible refine (R2.out _ (by assumption)).mono ?_); rintro e z2 ⟨rfl, k2⟩)
              | (go_at_call 15; (with_reducible refine (Q1.out _ (by assumption)).mono ?_); rintro e z3 ⟨rfl, k3⟩)
              | (go_at_call 16; (with_reducible refine (U1.out _ (by assumption)).mono ?_); rintro e z4 ⟨v4, rfl, s4, b4, k4⟩)
              | (go_at_call 17; (with_reducible refine (U2.out _ (by assumption)).mono ?_); rintro e z5 ⟨v5, rfl, s5, b5, k5⟩; have s6 := s4.later b5)
              | (go_at_call 15; (with_reducible refine (Q2.out _ _ _ s6 s5 k5).mono ?_); rintro e z6 ⟨rfl, k6⟩)
              | (go_at_call 18; (with_reducible refine (C1.out _ (by assumption)).mono ?_); rintro e z7 ⟨v7, rfl, s7, b7, k7⟩)
              | (go_at_call 19; (with_reducible refine (C2.out _ (by assumption)).mono ?_); rintro e z8 ⟨v8, rfl, s8, b8, k8⟩; have s9 := s7.later b8)
              | (go_at_call 15; (with_reducible refine (Q3.out _ _ _ s9 s8 k8).mono ?_); rintro e z9 ⟨rfl, k9⟩)
              | (go_at_call 6; (with_reducible refine (AW.out _ (by assumption)).mono ?_); rintro e z10 ⟨rfl, k10⟩))
          all_goals
            have B9 := Lib.hid (FIN.out _ k10)
            go_wp2_with fail
            go_ret
            exact ⟨rfl, B9.out⟩
        | false =>
          obtain ⟨h1, h2⟩ := av_none hh
          rw [h1, h2]
          clear hh h1 h2 H0
          go_wp2_with fail
          go_region_held3 (fun W => W.cell? ⟨w.heap.size, 0, none⟩ = some (.slice A0 n0 c0) ∧ W.cell? ⟨w.heap.size, 1, none⟩ = some (.slice A1 n1 c1) ∧ W.cell? ⟨w.heap.size, 2, none⟩ = some (.slice A2 n2 c2) ∧ W.cell? ⟨w.heap.size + 1, 1, none⟩ = some (.string nm) ∧ W.cell? ⟨wa.heap.size, 0, none⟩ = some (.slice D0 k0 d0) ∧ W.cell? ⟨wa.heap.size, 1, none⟩ = some (.slice D1 k1 d1) ∧ W.cell? ⟨wa.heap.size, 2, none⟩ = some (.slice D2 k2 d2) ∧ W.cell? ⟨wb.heap.size, 0, none⟩ = some (.slice E0 i0 e0) ∧ W.cell? ⟨wb.heap.size, 1, none⟩ = some (.slice E1 i1 e1) ∧ W.cell? ⟨wb.heap.size, 2, none⟩ = some (.slice E2 i2 e2))
            (first | exact HC.out _ (by assumption))
            (first
              | (go_at_call 11; (with_reducible refine (NA.out _).mono ?_); rintro e z0 ⟨rfl, rfl⟩)
              | (go_at_call 12; (with_reducible refine (NB.out _).mono ?_); rintro e z00 ⟨rfl, rfl⟩)
              | (go_at_call 13; (with_reducible refine (R1.out _ (by assumption)).mono ?_); rintro e z1 ⟨rfl, k1⟩)
              | (go_at_call 14; (with_reducible refine (R2.out _ (by assumption)).mono ?_); rintro e z2 ⟨rfl, k2⟩)
              | (go_at_call 15; (with_reducible refine (Q1.out _ (by assumption)).mono ?_); rintro e z3 ⟨rfl, k3⟩)
              | (go_at_call 16; (with_reducible refine (U1.out _ (by assumption)).mono ?_); rintro e z4 ⟨v4, rfl, s4, b4, k4⟩)
              | (go_at_call 17; (with_reducible refine (U2.out _ (by assumption)).mono ?_); rintro e z5 ⟨v5, rfl, s5, b5, k5⟩; have s6 := s4.later b5)
              | (go_at_call 15; (with_reducible refine (Q2.out _ _ _ s6 s5 k5).mono ?_); rintro e z6 ⟨rfl, k6⟩)
              | (go_at_call 18; (with_reducible refine (C1.out _ (by assumption)).mono ?_); rintro e z7 ⟨v7, rfl, s7, b7, k7⟩)
              | (go_at_call 19; (with_reducible refine (C2.out _ (by assumption)).mono ?_); rintro e z8 ⟨v8, rfl, s8, b8, k8⟩; have s9 := s7.later b8)
              | (go_at_call 15; (with_reducible refine (Q3.out _ _ _ s9 s8 k8).mono ?_); rintro e z9 ⟨rfl, k9⟩)
              | (go_at_call 6; (with_reducible refine (AW.out _ (by assumption)).mono ?_); rintro e z10 ⟨rfl, k10⟩))
          all_goals
            have B9 := Lib.hid (FIN.out _ k10)
            go_wp2_with fail
            go_ret
            exact ⟨rfl, B9.out⟩
end Go.Proofs.Ytbpdlfcghlopmaa
