/-
  The walk of DirCrash.
-/
import Derived.Test.YtbpdlfcghlopmaaDirAwake
import Derived.Test.YtbpdlfcghlopmaaDirMade
namespace Go.Proofs.Ytbpdlfcghlopmaa
open Go.RowKit StrM DirM

theorem cr_syn {d : D} (h : valid d = true) (n : Int) : cr (syn d) n = ⟨d.now, d.now, []⟩ := by
  rw [cr_ok valid_syn, syn_ok h, crL_same]
theorem cr_all {d : D} (h : valid d = true) : cr d (d.pend.length : Int) = ⟨d.now, d.now, []⟩ := by
  rw [cr_ok h, crL_all h]
theorem cr_none {d : D} (h : valid d = true) : cr d 0 = ⟨d.sure, d.sure, []⟩ := by
  rw [cr_ok h, crL_zero]
theorem mv_doE {d : D} (h : valid d = true) {x : E} {r : List E} (hn : d.now = x :: r) : doE (syn d) (mv x) = if x.name = zz then 1 else 0 := by
  rw [doE_ok valid_syn, syn_ok h, hn, mv_err]
theorem mv_cr_all {d : D} (h : valid d = true) {x : E} {r : List E} (hn : d.now = x :: r) (hz : x.name ≠ zz) (n : Int) : (cr (doD (syn d) (mv x)) n).now = if n ≤ 0 then x :: r else done (x :: r) (mv x) := by
  have he : err (x :: r) (mv x) = 0 := by rw [mv_err, if_neg hz]
  have hd : doD (syn d) (mv x) = ⟨done (x :: r) (mv x), x :: r, [mv x]⟩ := by
    rw [doD_ok valid_syn (by rw [syn_ok h, hn]; exact he), syn_ok h, hn]; rfl
  rw [cr_ok valid_do]
  show crL (doD (syn d) (mv x)) n = _
  rw [hd, mv_cr he]

theorem field_now (A B C : Option Addr) (n0 c0 n1 c1 n2 c2 : Nat) (w : World) : (Instr.field 25 (.agg #[.slice A n0 c0, .slice B n1 c1, .slice C n2 c2]) 0).run Try.prog w = .ok (.slice A n0 c0) w := by
  kernel_rfl

/-- What had returns: did zz have that node already? -/
theorem had_any (v : Value) (d : D) (m : Int) (w : World) (hs : SeesD w v d) (hn : d.now.length ≤ 1000000) (hh : has d.now zz = true) (hf : fv d.now zz = m) :
    Calls Try.prog 22 #[v, .int .i64 m] w fun e w' => e = .returned (.bool true) ∧ Below w.heap.size w w' := by
  obtain ⟨A0, c0, A1, c1, A2, c2, rfl, -, -, -⟩ := id hs.slices
  generalize hn0 : d.now.length = n0 at *
  generalize d.sure.length = n1 at *
  generalize d.pend.length = n2 at *
  have B0 := Lib.hid (below_made w (.cells #[.slice A0 n0 c0, .slice A1 n1 c1, .slice A2 n2 c2] 25))
  have FI := Lib.hid (find_any _ d zz _ (hs.later B0.out) (by rw [hn0]; exact hn))
  rw [hh, hf] at FI
  unfold zz at FI
  clear hs hn hn0 hh hf
  go_enter Try.func22, Try.ntmps22
  go_wp2_with fail
  refine FI.out.mono ?_
  rintro e w1 ⟨rfl, hb⟩
  have B1 := Lib.hid (B0.out.trans (hb.mono B0.out.size))
  clear hb
  go_wp2_with fail
  go_ret
  exact ⟨rfl, B1.out⟩

set_option maxHeartbeats 8000000 in
set_option maxRecDepth 100000 in
theorem dcrash_walk (v u : Value) (l : List O) (bs : List Bool) (n : Int) (w : World) (hs : SeesO w v l) (hu : SeesB w u bs) (hl : ∀ o ∈ l, OkO o) :
    Calls Try.prog 4 #[v, u, .int .i64 n] w fun e w' => e = .returned (.bool true) ∧ Below w.heap.size w w' := by
  obtain ⟨a, cap, rfl, -⟩ := SeesN.form hs
  have AW := Lib.hid (fun W => dawake_any W)
  by_cases hlen : 30 < l.length
  · have hlen' : (30 : Int) < (l.length : Int) := by omega
    generalize l.length = ln at *
    clear hs hu hl
    go_enter Try.func4, Try.ntmps4
    go_wp2_with fail
    refine (AW.out _).mono ?_
    rintro e w' ⟨rfl, hb⟩
    have B2 := Lib.hid hb
    clear hb
    go_wp2_with fail
    go_ret
    exact ⟨rfl, B2.out⟩
  · have MD := Lib.hid (dmade_any _ u l bs w hs hu hl (by omega))
    unfold DPost at MD
    have VD := Lib.hid (valid_made l bs l.length)
    have PD := Lib.hid (show (madeTo l bs l.length).pend.length ≤ 30 by have := pend_made l bs l.length; omega)
    generalize madeTo l bs l.length = D at *
    have HS := Lib.hid hs
    obtain ⟨ln, e0⟩ : ∃ ln, ln = l.length := ⟨_, rfl⟩
    rw [← e0] at MD HS hlen ⊢
    have HN := Lib.hid e0
    have h1 : decide ((30 : Int) < (ln : Int)) = false := by simp; omega
    have h2 : decide (30 < ln) = false := by simp; omega
    have h3 : ln ≤ 30 := by omega
    clear hs hu hl e0 hlen
    go_enter Try.func4, Try.ntmps4
    go_wp2_with fail
    go_loopw [7] (fun i wr => ∃ k : Nat, k ≤ ln ∧ i = .int .i64 (k : Int) ∧ w = wr) (fun i _ => ln - (intOf i).toNat)
    case atStart => exact ⟨0, Nat.zero_le _, rfl, rfl⟩
    case round =>
      obtain ⟨k, hk, rfl, rfl⟩ := hrel
      by_cases hlt : k < ln
      · have k1 : k < l.length := by rw [← HN.out]; exact hlt
        have hlt' : (k : Int) < (ln : Int) := by omega
        obtain ⟨g, off, rfl, hg, p0, p1, p2, p3⟩ := SeesO.cells HS.out k1
        generalize l[k] = o at *
        obtain ⟨kd, nm, ds, nd⟩ := o
        simp only at p0 p1 p2 p3
        clear MD VD PD
        by_cases h1 : 100 < nm.size
        · have h1' : (100 : Int) < (nm.size : Int) := by omega
          clear h1
          go_wp2_with fail
          refine (AW.out _).mono ?_
          rintro e w' ⟨rfl, hb⟩
          have B2 := Lib.hid hb
          clear hb
          go_wp2_with fail
          go_ret
          exact ⟨rfl, B2.out⟩
        · have h1' : decide ((100 : Int) < (nm.size : Int)) = false := by simp; omega
          have h1'' : decide (100 < nm.size) = false := by simp; omega
          by_cases h2 : 100 < ds.size
          · have h2' : (100 : Int) < (ds.size : Int) := by omega
            clear h1 h2
            go_wp2_with fail
            refine (AW.out _).mono ?_
            rintro e w' ⟨rfl, hb⟩
            have B2 := Lib.hid hb
            clear hb
            go_wp2_with fail
            go_ret
            exact ⟨rfl, B2.out⟩
          · have h2' : decide ((100 : Int) < (ds.size : Int)) = false := by simp; omega
            have h2'' : decide (100 < ds.size) = false := by simp; omega
            clear h1 h2
            go_wp2_with fail
            go_roundw
            case rel => exact ⟨k + 1, by omega, by go_num, trivial⟩
            case measure => simp [intOf]; omega
      · clear HS HN
        go_wp2_with fail
        refine MD.out.mono ?_
        rintro e wm ⟨vm, rfl, sm, bm⟩
        have LN := Lib.hid (show D.now.length ≤ 100 from (valid_now VD.out).few)
        have LS := Lib.hid (show D.sure.length ≤ 100 from (valid_iff.1 VD.out).1.few)
        obtain ⟨A0, c0, A1, c1, A2, c2, rfl, -, -, -⟩ := id sm.slices
        obtain ⟨n0, e0⟩ : ∃ n, n = D.now.length := ⟨_, rfl⟩
        obtain ⟨n1, e1⟩ : ∃ n, n = D.sure.length := ⟨_, rfl⟩
        obtain ⟨n2, e2⟩ : ∃ n, n = D.pend.length := ⟨_, rfl⟩
        rw [← e0, ← e1, ← e2] at sm ⊢
        have N0 := Lib.hid e0
        have N1 := Lib.hid e1
        have N2 := Lib.hid e2
        have bx := below_made wm (.cells #[.slice A0 n0 c0, .slice A1 n1 c1, .slice A2 n2 c2] 25)
        have B1 := Lib.hid (bm.trans (bx.mono bm.size))
        have HQ := Lib.hid (fun (W : World) (hB : Below (wm.alloc (.cells #[.slice A0 n0 c0, .slice A1 n1 c1, .slice A2 n2 c2] 25)).heap.size (wm.alloc (.cells #[.slice A0 n0 c0, .slice A1 n1 c1, .slice A2 n2 c2] 25)) W) => And.intro ((DBox.made wm (.slice A0 n0 c0) (.slice A1 n1 c1) (.slice A2 n2 c2)).later hB).cells ((sm.later bx).later hB))
        have SY := Lib.hid (dsync_any _ D _ (sm.later bx) (by have := PD.out; omega))
        rw [syn_ok VD.out] at SY
        unfold DPost at SY
        clear bm bx sm e0 e1 e2 MD
        go_wp2_with fail
        refine SY.out.mono ?_
        rintro e ws ⟨vs, rfl, ss, bs'⟩
        obtain ⟨B0, b0, B1', b1, B2', b2, rfl, -, -, -⟩ := ss.slices' (n0 := n0) (n1 := n0) (n2 := 0) N0.out.symm N0.out.symm rfl
        have bx := below_made ws (.cells #[.slice B0 n0 b0, .slice B1' n0 b1, .slice B2' 0 b2] 25)
        have bq := bs'.trans (bx.mono bs'.size)
        have B2 := Lib.hid (B1.out.trans (bq.mono B1.out.size))
        have HQ2 := Lib.hid (fun (W : World) (hB : Below (ws.alloc (.cells #[.slice B0 n0 b0, .slice B1' n0 b1, .slice B2' 0 b2] 25)).heap.size (ws.alloc (.cells #[.slice B0 n0 b0, .slice B1' n0 b1, .slice B2' 0 b2] 25)) W) => And.intro (HQ.out W (bq.trans (hB.mono bq.size))) (And.intro ((DBox.made ws (.slice B0 n0 b0) (.slice B1' n0 b1) (.slice B2' 0 b2)).later hB).cells (And.intro ((ss.later bx).later hB) (Nat.lt_of_lt_of_le (DBox.made ws (.slice B0 n0 b0) (.slice B1' n0 b1) (.slice B2' 0 b2)).lt hB.size))))
        clear bs' bx ss bq HQ SY
        go_wp2_with fail
        generalize ws.alloc (.cells #[.slice B0 n0 b0, .slice B1' n0 b1, .slice B2' 0 b2] 25) = wq at *
        have KD : Below wq.heap.size wq wq.drew := below_drew _ (Nat.le_refl _)
        have R1 := Lib.hid (show ∀ W, Below wq.heap.size wq W → Calls Try.prog 13 #[.agg #[.slice A0 n0 c0, .slice A1 n1 c1, .slice A2 n2 c2]] W fun e W' => e = .returned (.bool true) ∧ Below wq.heap.size wq W' from fun W hB => (dright_any _ D W (HQ2.out W hB).1.2 (by have := PD.out; omega)).mono fun e W' ⟨he, hb⟩ => ⟨by rw [he, VD.out], hB.trans (hb.mono hB.size)⟩)
        have C1 := Lib.hid (show ∀ W, Below wq.heap.size wq W → Calls Try.prog 18 #[.agg #[.slice B0 n0 b0, .slice B1' n0 b1, .slice B2' 0 b2], .int .i64 n] W fun e W' => ∃ A c A' c' A'' c'', e = .returned (.agg #[.slice A n0 c, .slice A' n0 c', .slice A'' 0 c'']) ∧ SeesE W' (.slice A n0 c) D.now ∧ Below wq.heap.size wq W' from fun W hB => (dcrash_any _ _ n W (HQ2.out W hB).2.2.1 (Nat.zero_le _)).mono fun e W' ⟨v, he, hs, hb⟩ => by
          have e1 := cr_syn VD.out n
          rw [syn_ok VD.out] at e1
          rw [e1] at hs
          obtain ⟨A, c, A', c', A'', c'', rfl, h, -, -⟩ := hs.slices' (n0 := n0) (n1 := n0) (n2 := 0) N0.out.symm N0.out.symm rfl
          exact ⟨A, c, _, _, _, _, he, h, hB.trans (hb.mono hB.size)⟩)
        have C2 := Lib.hid (show ∀ W, Below wq.heap.size wq W → Calls Try.prog 18 #[.agg #[.slice A0 n0 c0, .slice A1 n1 c1, .slice A2 n2 c2], .int .i64 (n2 : Int)] W fun e W' => ∃ A c A' c' A'' c'', e = .returned (.agg #[.slice A n0 c, .slice A' n0 c', .slice A'' 0 c'']) ∧ SeesE W' (.slice A n0 c) D.now ∧ Below wq.heap.size wq W' from fun W hB => (dcrash_any _ _ (n2 : Int) W (HQ2.out W hB).1.2 (by have := PD.out; omega)).mono fun e W' ⟨v, he, hs, hb⟩ => by
          rw [N2.out, cr_all VD.out] at hs
          obtain ⟨A, c, A', c', A'', c'', rfl, h, -, -⟩ := hs.slices' (n0 := n0) (n1 := n0) (n2 := 0) N0.out.symm N0.out.symm rfl
          exact ⟨A, c, _, _, _, _, he, h, hB.trans (hb.mono hB.size)⟩)
        have C3 := Lib.hid (show ∀ W, Below wq.heap.size wq W → Calls Try.prog 18 #[.agg #[.slice A0 n0 c0, .slice A1 n1 c1, .slice A2 n2 c2], .int .i64 0] W fun e W' => ∃ A c A' c' A'' c'', e = .returned (.agg #[.slice A n1 c, .slice A' n1 c', .slice A'' 0 c'']) ∧ SeesE W' (.slice A n1 c) D.sure ∧ Below wq.heap.size wq W' from fun W hB => (dcrash_any _ _ 0 W (HQ2.out W hB).1.2 (by have := PD.out; omega)).mono fun e W' ⟨v, he, hs, hb⟩ => by
          rw [cr_none VD.out] at hs
          obtain ⟨A, c, A', c', A'', c'', rfl, h, -, -⟩ := hs.slices' (n0 := n1) (n1 := n1) (n2 := 0) N1.out.symm N1.out.symm rfl
          exact ⟨A, c, _, _, _, _, he, h, hB.trans (hb.mono hB.size)⟩)
        have E1 := Lib.hid (show ∀ W A c, SeesE W (.slice A n0 c) D.now → Below wq.heap.size wq W → Calls Try.prog 21 #[.slice A n0 c, .slice A0 n0 c0] W fun e W' => e = .returned (.bool true) ∧ Below wq.heap.size wq W' from fun W A c h hB => by
          obtain ⟨_, _, _, hag, g0, -, -⟩ := (HQ2.out W hB).1.2
          injection hag with hag
          simp at hag
          obtain ⟨rfl, rfl, rfl⟩ := hag
          refine (rentries_any _ _ D.now D.now W h g0 (by have := LN.out; omega)).mono fun e W' ⟨he, hb⟩ => ⟨by rw [he, decide_eq_true rfl], hB.trans (hb.mono hB.size)⟩)
        have E3 := Lib.hid (show ∀ W A c, SeesE W (.slice A n1 c) D.sure → Below wq.heap.size wq W → Calls Try.prog 21 #[.slice A n1 c, .slice A1 n1 c1] W fun e W' => e = .returned (.bool true) ∧ Below wq.heap.size wq W' from fun W A c h hB => by
          obtain ⟨_, _, _, hag, -, g1, -⟩ := (HQ2.out W hB).1.2
          injection hag with hag
          simp at hag
          obtain ⟨rfl, rfl, rfl⟩ := hag
          refine (rentries_any _ _ D.sure D.sure W h g1 (by have := LS.out; omega)).mono fun e W' ⟨he, hb⟩ => ⟨by rw [he, decide_eq_true rfl], hB.trans (hb.mono hB.size)⟩)
        have HC := Lib.hid (show ∀ W, Below wq.heap.size wq W → W.cell? ⟨wm.heap.size, 0, none⟩ = some (.slice A0 n0 c0) ∧ W.cell? ⟨wm.heap.size, 1, none⟩ = some (.slice A1 n1 c1) ∧ W.cell? ⟨wm.heap.size, 2, none⟩ = some (.slice A2 n2 c2) ∧ W.cell? ⟨ws.heap.size, 0, none⟩ = some (.slice B0 n0 b0) ∧ W.cell? ⟨ws.heap.size, 1, none⟩ = some (.slice B1' n0 b1) ∧ W.cell? ⟨ws.heap.size, 2, none⟩ = some (.slice B2' 0 b2) from fun W hB => by
          obtain ⟨⟨⟨q0, q1, q2⟩, _⟩, ⟨q3, q4, q5⟩, _⟩ := HQ2.out W hB
          exact ⟨q0, q1, q2, q3, q4, q5⟩)
        have HQ3 := Lib.hid (fun (W : World) (hB : Below wq.heap.size wq W) => (HQ2.out W hB).2)
        have FD := field_now
        clear HQ2 N1 N2 LS B1
        go_region_held3 (fun W => W.cell? ⟨wm.heap.size, 0, none⟩ = some (.slice A0 n0 c0) ∧ W.cell? ⟨wm.heap.size, 1, none⟩ = some (.slice A1 n1 c1) ∧ W.cell? ⟨wm.heap.size, 2, none⟩ = some (.slice A2 n2 c2) ∧ W.cell? ⟨ws.heap.size, 0, none⟩ = some (.slice B0 n0 b0) ∧ W.cell? ⟨ws.heap.size, 1, none⟩ = some (.slice B1' n0 b1) ∧ W.cell? ⟨ws.heap.size, 2, none⟩ = some (.slice B2' 0 b2))
          (first | exact HC.out _ (by assumption))
          (first
            | (go_at_call 13; (with_reducible refine (R1.out _ (by assumption)).mono ?_); rintro e z1 ⟨rfl, k1⟩)
            | (go_at_call 18; (with_reducible refine (C1.out _ (by assumption)).mono ?_); rintro e z2 ⟨G2, g2, I2, i2, J2, j2, rfl, s2, k2⟩)
            | (go_at_call 21; (with_reducible refine (E1.out _ _ _ s2 k2).mono ?_); rintro e z3 ⟨rfl, k3⟩)
            | (go_at_call 18; (with_reducible refine (C2.out _ (by assumption)).mono ?_); rintro e z4 ⟨G4, g4, I4, i4, J4, j4, rfl, s4, k4⟩)
            | (go_at_call 21; (with_reducible refine (E1.out _ _ _ s4 k4).mono ?_); rintro e z5 ⟨rfl, k5⟩)
            | (go_at_call 18; (with_reducible refine (C3.out _ (by assumption)).mono ?_); rintro e z6 ⟨G6, g6, I6, i6, J6, j6, rfl, s6, k6⟩)
            | (go_at_call 21; (with_reducible refine (E3.out _ _ _ s6 k6).mono ?_); rintro e z7 ⟨rfl, k7⟩))
        all_goals
          have HZ := Lib.hid (fun (W : World) (hB : Below z7.heap.size z7 W) => HQ3.out W (k7.trans (hB.mono k7.size)))
          have B7 := Lib.hid (B2.out.trans (k7.mono B2.out.size))
          clear k1 k2 k3 k4 k5 k6 k7 s2 s4 s6 FD HC HQ3 R1 C1 C2 C3 E1 E3 KD B2
          obtain ⟨⟨x0, x1, x2⟩, -, g1⟩ := HZ.out _ (Below.refl _ _)
          cases hnow : D.now with
          | nil =>
            have hn : n0 = 0 := by rw [N0.out, hnow]; rfl
            subst hn
            clear HZ hnow
            go_wp2_with fail
            refine (AW.out _).mono ?_
            rintro e w' ⟨rfl, hb⟩
            have BZ := Lib.hid (B7.out.trans (hb.mono B7.out.size))
            clear hb
            go_wp2_with fail
            go_ret
            exact ⟨rfl, BZ.out⟩
          | cons x r =>
            have hn : 0 < n0 := by rw [N0.out, hnow]; simp
            have hn' : (0 : Int) < (n0 : Int) := by omega
            have d1 : ((n0 : Int) == 0) = false := by simp; omega
            obtain ⟨_, _, _, hag, q0, -, -⟩ := (HZ.out _ (Below.refl _ _)).2.1
            injection hag with hag
            simp at hag
            obtain ⟨rfl, rfl, rfl⟩ := hag
            simp only at q0
            rw [hnow] at q0
            obtain ⟨g, off, rfl, hg, hc1, hc2⟩ := SeesE.cells q0 (k := 0) (by simp)
            simp only [Nat.zero_mul, Nat.add_zero, List.getElem_cons_zero] at hc1 hc2
            have HD := Lib.hid (mv_doE VD.out hnow)
            have HM := Lib.hid (fun hz => mv_cr_all VD.out hnow hz n)
            have HNOW := Lib.hid hnow
            have VM := Lib.hid (valid_do (d := syn D) (o := mv x))
            have PM := Lib.hid (show (doD (syn D) (mv x)).pend.length ≤ 1000000 by have := pend_do (syn D) (mv x); rw [pend_syn] at this; exact Nat.le_trans this (by decide))
            have bx := below_made z7 (.cells #[.string x.name, .int .i64 x.node] 37)
            have HZ2 := Lib.hid (fun (W : World) (hB : Below (z7.alloc (.cells #[.string x.name, .int .i64 x.node] 37)).heap.size (z7.alloc (.cells #[.string x.name, .int .i64 x.node] 37)) W) => And.intro (HZ.out W (bx.trans (hB.mono bx.size))) (And.intro ((EBox.made z7 x.name x.node).later (by simpa using hB)).cells (Nat.lt_of_lt_of_le (EBox.made z7 x.name x.node).lt hB.size)))
            have B8 := Lib.hid (B7.out.trans (bx.mono B7.out.size))
            have DX := Lib.hid (ddo_any _ (syn D) (mv x) _ (by rw [syn_ok VD.out]; exact (HZ2.out _ (Below.refl _ _)).1.2.1) (by rw [pend_syn]; exact Nat.zero_le _))
            unfold DEPost at DX
            rw [HD.out] at DX
            have hh0 := mv_now (x := x) (r := r)
            have DN := Lib.hid (fun hz => mv_done (x := x) (r := r) hz)
            generalize doD (syn D) (mv x) = M at *
            obtain ⟨er, her⟩ : ∃ er : Int, er = if x.name = zz then 1 else 0 := ⟨_, rfl⟩
            rw [← her] at DX
            have ER1 := Lib.hid (fun h : x.name = zz => show er = 1 by rw [her, if_pos h])
            have ER0 := Lib.hid (fun h : ¬ x.name = zz => show er = 0 by rw [her, if_neg h])
            generalize done (x :: r) (mv x) = dn at *
            clear hnow q0 hg bx HZ HD her
            obtain ⟨xn, xm⟩ := x
            unfold mv at DX
            simp only at hc1 hc2 DX HZ2 B8 HM hh0 ER1 ER0 DN
            have DY := Lib.hid (show Calls Try.prog 7 #[.agg #[.slice (some ⟨g, off, none⟩) n0 b0, .slice B1' n0 b1, .slice B2' 0 b2], .agg #[.int .i64 2, .string xn, .string ⟨#[122, 122]⟩, .int .i64 0]] (z7.alloc (.cells #[.string xn, .int .i64 xm] 37)) fun e w' => ∃ v, e = .returned (.tuple #[v, .int .i64 er]) ∧ SeesD w' v M ∧ Below (z7.alloc (.cells #[.string xn, .int .i64 xm] 37)).heap.size (z7.alloc (.cells #[.string xn, .int .i64 xm] 37)) w' from DX.out)
            clear DX
            go_wp2_with fail
            refine DY.out.mono ?_
            rintro e wd ⟨vd, rfl, sd, bd⟩
            obtain ⟨D0, d0, D1, d1', D2, d2, rfl, -, -, -⟩ := sd.slices
            generalize M.now.length = m0 at *
            generalize M.sure.length = m1 at *
            obtain ⟨m2, hm2⟩ : ∃ m2, m2 = M.pend.length := ⟨_, rfl⟩
            rw [← hm2] at sd PM ⊢
            obtain ⟨⟨⟨x0', x1', x2'⟩, -, g2⟩, ⟨e0, e1⟩, g3⟩ := HZ2.out _ bd
            have bx := below_made wd (.cells #[.slice D0 m0 d0, .slice D1 m1 d1', .slice D2 m2 d2] 25)
            have bq := bd.trans (bx.mono bd.size)
            have B9 := Lib.hid (B8.out.trans (bq.mono B8.out.size))
            have HZ3 := Lib.hid (fun (W : World) (hB : Below (wd.alloc (.cells #[.slice D0 m0 d0, .slice D1 m1 d1', .slice D2 m2 d2] 25)).heap.size (wd.alloc (.cells #[.slice D0 m0 d0, .slice D1 m1 d1', .slice D2 m2 d2] 25)) W) => HZ2.out W (bq.trans (hB.mono bq.size)))
            have CX := Lib.hid (dcrash_any _ M n _ (sd.later bx) (by rw [← hm2]; exact PM.out))
            unfold DPost at CX
            clear sd bd bx bq DY HZ2 x0 x1 x2 hc1 hc2 hm2
            by_cases hz : xn = zz
            · have he := ER1.out hz
              have hz' : xn = ⟨#[122, 122]⟩ := hz
              clear hz HM hh0 ER1 ER0 DN CX
              subst hz' he
              go_wp2_with fail
              refine (AW.out _).mono ?_
              rintro e w' ⟨rfl, hb⟩
              have BZ := Lib.hid (B9.out.trans (hb.mono B9.out.size))
              clear hb
              go_wp2_with fail
              go_ret
              exact ⟨rfl, BZ.out⟩
            · have he := ER0.out hz
              have hz' := name_ne hz
              unfold zz at hz'
              have HM2 := Lib.hid (HM.out hz)
              have DN2 := Lib.hid (DN.out hz)
              clear hz HM ER1 ER0 DN
              subst he
              go_wp2_with fail
              refine CX.out.mono ?_
              rintro e wc ⟨vc, rfl, sc, bc⟩
              have VC := Lib.hid (show (cr M n).now.length ≤ 1000000 by have := (valid_now (valid_cr (d := M) (n := n))).few; omega)
              generalize cr M n = C at *
              obtain ⟨F0, f0, F1, f1, F2, f2, rfl, -, -, -⟩ := sc.slices
              have FA := Lib.hid (fun W (h : SeesD W (.agg #[.slice F0 C.now.length f0, .slice F1 C.sure.length f1, .slice F2 C.pend.length f2]) C) => find_any _ C xn W h VC.out)
              have FB := Lib.hid (fun W (h : SeesD W (.agg #[.slice F0 C.now.length f0, .slice F1 C.sure.length f1, .slice F2 C.pend.length f2]) C) => find_any _ C zz W h VC.out)
              generalize C.now.length = t0 at *
              generalize C.sure.length = t1 at *
              generalize C.pend.length = t2 at *
              have FB2 := Lib.hid (fun W h => show Calls Try.prog 9 #[.agg #[.slice F0 t0 f0, .slice F1 t1 f1, .slice F2 t2 f2], .string ⟨#[122, 122]⟩] W _ from FB.out W h)
              have bx := below_made wc (.cells #[.slice F0 t0 f0, .slice F1 t1 f1, .slice F2 t2 f2] 25)
              have bq := bc.trans (bx.mono bc.size)
              have B10 := Lib.hid (B9.out.trans (bq.mono B9.out.size))
              have HZ4 := Lib.hid (fun (W : World) (hB : Below (wc.alloc (.cells #[.slice F0 t0 f0, .slice F1 t1 f1, .slice F2 t2 f2] 25)).heap.size (wc.alloc (.cells #[.slice F0 t0 f0, .slice F1 t1 f1, .slice F2 t2 f2] 25)) W) => And.intro (HZ3.out W (bq.trans (hB.mono bq.size))) (And.intro ((DBox.made wc (.slice F0 t0 f0) (.slice F1 t1 f1) (.slice F2 t2 f2)).later hB).cells ((sc.later bx).later hB)))
              clear x0' x1' x2' g2 e0 e1 g3 g1
              obtain ⟨⟨⟨x0', x1', x2'⟩, -, g2⟩, ⟨e0, e1⟩, g3⟩ := HZ3.out _ bc
              clear sc bc bx bq CX HZ3 FB
              go_wp2_with fail
              refine (FA.out _ (HZ4.out _ (Below.refl _ _)).2.2).mono ?_
              rintro e wf ⟨rfl, bf⟩
              clear x0' x1' x2' g2 e0 e1 g3
              obtain ⟨⟨⟨⟨x0', x1', x2'⟩, -, g2⟩, ⟨e0, e1⟩, g3⟩, ⟨y0, y1, y2⟩, -⟩ := HZ4.out _ bf
              have KF := Lib.hid bf
              clear bf FA
              go_wp2_with fail
              refine (FB2.out _ (HZ4.out _ KF.out).2.2).mono ?_
              rintro e wg ⟨rfl, bg⟩
              have KG := Lib.hid (KF.out.trans (bg.mono KF.out.size))
              have B11 := Lib.hid (B10.out.trans (KG.out.mono B10.out.size))
              clear x0' x1' x2' g2 e0 e1 g3 y0 y1 y2
              obtain ⟨⟨⟨⟨x0', x1', x2'⟩, -, g2⟩, ⟨e0, e1⟩, g3⟩, ⟨y0, y1, y2⟩, -⟩ := HZ4.out _ KG.out
              clear bg KF FB2
              by_cases hn0 : n ≤ 0
              · have hC : C.now = ⟨xn, xm⟩ :: r := by rw [HM2.out, if_pos hn0]
                rw [hC, hh0.1, hh0.2]
                cases hf : has (⟨xn, xm⟩ :: r) zz with
                | false =>
                  clear HZ4 HM2 DN2 HNOW hC hn0 hf hh0
                  go_wp2_with fail
                  refine (AW.out _).mono ?_
                  rintro e w' ⟨rfl, hb⟩
                  have BZ := Lib.hid (B11.out.trans (hb.mono B11.out.size))
                  clear hb
                  go_wp2_with fail
                  go_ret
                  exact ⟨rfl, BZ.out⟩
                | true =>
                  have hnw := HNOW.out
                  have HAD := Lib.hid (fun (m : Int) (h : fv (⟨xn, xm⟩ :: r) zz = m) => had_any _ _ m wg (HZ4.out _ KG.out).1.1.2.1 (by have := LN.out; show D.now.length ≤ _; omega) (by show has D.now zz = true; rw [hnw]; exact hf) (by show fv D.now zz = m; rw [hnw]; exact h))
                  generalize fv (⟨xn, xm⟩ :: r) zz = fz at *
                  clear HZ4 HM2 DN2 HNOW hC hn0 hf hh0 hnw
                  by_cases hfz : fz = xm
                  · subst hfz
                    have HA2 := Lib.hid (HAD.out _ rfl)
                    clear HAD
                    go_wp2_with fail
                    refine HA2.out.mono ?_
                    rintro e wh ⟨rfl, bh⟩
                    have B12 := Lib.hid (B11.out.trans (bh.mono B11.out.size))
                    clear bh HA2
                    go_wp2_with fail
                    refine (AW.out _).mono ?_
                    rintro e w' ⟨rfl, hb⟩
                    have BZ := Lib.hid (B12.out.trans (hb.mono B12.out.size))
                    clear hb
                    go_wp2_with fail
                    go_ret
                    exact ⟨rfl, BZ.out⟩
                  · have hfz' : (fz == xm) = false := by simpa using hfz
                    clear HAD hfz
                    go_wp2_with fail
                    refine (AW.out _).mono ?_
                    rintro e w' ⟨rfl, hb⟩
                    have BZ := Lib.hid (B11.out.trans (hb.mono B11.out.size))
                    clear hb
                    go_wp2_with fail
                    go_ret
                    exact ⟨rfl, BZ.out⟩
              · have hC : C.now = dn := by rw [HM2.out, if_neg hn0]
                rw [hC, DN2.out.1, DN2.out.2.1, DN2.out.2.2]
                clear HZ4 HM2 DN2 HNOW hC hn0 hh0
                go_wp2_with fail
                refine (AW.out _).mono ?_
                rintro e w' ⟨rfl, hb⟩
                have BZ := Lib.hid (B11.out.trans (hb.mono B11.out.size))
                clear hb
                go_wp2_with fail
                go_ret
                exact ⟨rfl, BZ.out⟩
end Go.Proofs.Ytbpdlfcghlopmaa
