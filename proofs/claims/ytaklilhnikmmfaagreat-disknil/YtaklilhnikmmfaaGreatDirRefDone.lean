/-
  The walks of the reference's Done and All.
-/
import Derived.Test.YtaklilhnikmmfaaGreatDirRefList
namespace Go.Proofs.YtaklilhnikmmfaaGreat
open Go.RowKit StrM DirM

/-- Names that a string can hold. -/
def OkO (o : O) : Prop := o.name.size ≤ maxLen ∧ o.dst.size ≤ maxLen
/-- What Done returns. -/
def RDPost (l : List E) (o : O) (w : World) (e : Ending) (w' : World) : Prop :=
  ∃ v, e = .returned (.tuple #[v, .int .i64 (err l o)]) ∧ SeesE w' v (if err l o = 0 then done l o else []) ∧ Below w.heap.size w w'

theorem err_out {l : List E} {o : O} (h : o.kind < 1 ∨ 3 < o.kind) : err l o = 16 := by
  unfold err
  rw [if_neg (by omega), if_neg (by omega), if_neg (by omega)]
theorem err_link {l : List E} {o : O} (h : o.kind = 1) : err l o = if nameOk o.name = true then (if has l o.name = true then 6 else if 100 ≤ l.length then 7 else 0) else 1 := by
  unfold err; rw [if_pos h]
theorem err_move {l : List E} {o : O} (h : o.kind = 2) : err l o = if has l o.name = true then (if nameOk o.dst = true ∧ o.dst ≠ o.name then 0 else 1) else 5 := by
  unfold err; rw [if_neg (by omega), if_pos h]
theorem err_unlink {l : List E} {o : O} (h : o.kind = 3) : err l o = if has l o.name = true then 0 else 5 := by
  unfold err; rw [if_neg (by omega), if_neg (by omega), if_pos h]
theorem done_link {l : List E} {o : O} (h : o.kind = 1) : done l o = wi ⟨o.name, o.node⟩ l := by unfold done; rw [if_pos h]
theorem done_move {l : List E} {o : O} (h : o.kind = 2) : done l o = wi ⟨o.dst, fv l o.name⟩ (wo (wo l o.name) o.dst) := by unfold done; rw [if_neg (by omega), if_pos h]
theorem done_unlink {l : List E} {o : O} (h : o.kind = 3) : done l o = wo l o.name := by unfold done; rw [if_neg (by omega), if_neg (by omega)]

set_option maxHeartbeats 4000000 in
set_option maxRecDepth 100000 in
theorem rdone_any (v : Value) (l : List E) (o : O) (w : World) (hs : SeesE w v l) (hn : l.length ≤ 100000) (ho : OkO o) :
    Calls Tryz.prog 86 #[v, .agg #[.int .i64 o.kind, .string o.name, .string o.dst, .int .i64 o.node]] w (RDPost l o w) := by
  obtain ⟨A, c, rfl, -⟩ := SeesN.form hs
  have HS := Lib.hid (fun W (hb : Below w.heap.size w W) => hs.later hb)
  have AT := Lib.hid (fun W (hb : Below w.heap.size w W) => rat_any _ l o.name W (hs.later hb) (by omega))
  have N1 := Lib.hid (fun W => rname_any o.name W ho.1)
  have N2 := Lib.hid (fun W => rname_any o.dst W ho.2)
  have WO := Lib.hid (fun W (hb : Below w.heap.size w W) => rwithout_any _ l o.name W (hs.later hb) (by omega))
  have WP := Lib.hid (fun W u (h : SeesE W u (wo l o.name)) => rwithout_any u (wo l o.name) o.dst W h (by have := len_wo l o.name; omega))
  have WI := Lib.hid (fun W (hb : Below w.heap.size w W) => rwith_any _ l ⟨o.name, o.node⟩ W (hs.later hb) (by omega))
  have WJ := Lib.hid (fun W u (h : SeesE W u (wo (wo l o.name) o.dst)) => rwith_any u _ ⟨o.dst, fv l o.name⟩ W h (by have := len_wo l o.name; have := len_wo (wo l o.name) o.dst; omega))
  unfold EPost at WO WP WI WJ
  obtain ⟨n, e0⟩ : ∃ n, n = l.length := ⟨_, rfl⟩
  rw [← e0] at AT WO WI HS hn ⊢
  have HN := Lib.hid e0
  have B0 := Lib.hid (below_made w (.cells #[.int .i64 o.kind, .string o.name, .string o.dst, .int .i64 o.node] 65))
  have P0 := Lib.hid (OBox.made w o)
  unfold RDPost
  have EO := Lib.hid (err_out (l := l) (o := o))
  have EL := Lib.hid (err_link (l := l) (o := o))
  have EM := Lib.hid (err_move (l := l) (o := o))
  have EU := Lib.hid (err_unlink (l := l) (o := o))
  have DL := Lib.hid (done_link (l := l) (o := o))
  have DM := Lib.hid (done_move (l := l) (o := o))
  have DU := Lib.hid (done_unlink (l := l) (o := o))
  rw [← e0] at EL
  generalize err l o = er at *
  generalize done l o = dn at *
  obtain ⟨res, hres⟩ : ∃ res, res = if er = 0 then dn else [] := ⟨_, rfl⟩
  rw [← hres]
  have RE := Lib.hid (fun h : ¬ er = 0 => show res = [] by rw [hres, if_neg h])
  have RO := Lib.hid (fun h : er = 0 => show res = dn by rw [hres, if_pos h])
  clear hs e0 ho hres
  obtain ⟨kd, nm, ds, nd⟩ := o
  simp only at AT N1 N2 WO WP WI WJ B0 P0 EO EL EM EU DL DM DU ⊢
  obtain ⟨p0, p1, p2, p3⟩ := P0.out.cells
  simp only at p0 p1 p2 p3
  by_cases k1 : kd < 1
  · have HE := Lib.hid (EO.out (.inl k1))
    clear N1 N2 WO WP WI WJ EO EL EM EU DL DM DU p0 p1 p2 p3
    go_enter Tryz.func86, Tryz.ntmps86
    go_wp2_with fail
    refine (AT.out _ B0.out).mono ?_
    rintro e w' ⟨rfl, rfl⟩
    go_wp2_with fail
    go_ret2
    exact ⟨_, by rw [HE.out]; rfl, by rw [RE.out (by rw [HE.out]; decide)]; exact seesE_nil _, B0.out⟩
  · by_cases k3 : 3 < kd
    · have HE := Lib.hid (EO.out (.inr k3))
      have d1 : decide (kd < 1) = false := by simpa using k1
      clear N1 N2 WO WP WI WJ EO EL EM EU DL DM DU p0 p1 p2 p3 k1
      go_enter Tryz.func86, Tryz.ntmps86
      go_wp2_with fail
      refine (AT.out _ B0.out).mono ?_
      rintro e w' ⟨rfl, rfl⟩
      go_wp2_with fail
      go_ret2
      exact ⟨_, by rw [HE.out]; rfl, by rw [RE.out (by rw [HE.out]; decide)]; exact seesE_nil _, B0.out⟩
    · have hk : kd = 1 ∨ kd = 2 ∨ kd = 3 := by omega
      clear k1 k3 EO
      rcases hk with rfl | rfl | rfl
      · have HE := Lib.hid (EL.out rfl)
        have HD := Lib.hid (DL.out rfl)
        clear EL EM EU DL DM DU WO WP WJ N2
        cases hb : nameOk nm with
        | false =>
          rw [hb] at HE N1
          have HE := Lib.hid (show er = 1 by rw [HE.out]; rfl)
          clear WI hb
          go_enter Tryz.func86, Tryz.ntmps86
          go_wp2_with fail
          refine (AT.out _ B0.out).mono ?_
          rintro e w' ⟨rfl, rfl⟩
          go_wp2_with fail
          refine (N1.out _).mono ?_
          rintro e w' ⟨rfl, rfl⟩
          go_wp2_with fail
          go_ret2
          exact ⟨_, by rw [HE.out]; rfl, by rw [RE.out (by rw [HE.out]; decide)]; exact seesE_nil _, B0.out⟩
        | true =>
          rw [hb] at HE N1
          cases hh : has l nm with
          | true =>
            rw [hh] at HE
            have HE2 := Lib.hid (show er = 6 by rw [HE.out]; rfl)
            obtain ⟨k, _, hav, _, _⟩ := av_has hh
            rw [hav] at AT
            have d1 : (0 : Int) ≤ (k : Int) := by omega
            clear WI hb hh hav HE
            go_enter Tryz.func86, Tryz.ntmps86
            go_wp2_with fail
            refine (AT.out _ B0.out).mono ?_
            rintro e w' ⟨rfl, rfl⟩
            go_wp2_with fail
            refine (N1.out _).mono ?_
            rintro e w' ⟨rfl, rfl⟩
            go_wp2_with fail
            go_ret2
            exact ⟨_, by rw [HE2.out]; rfl, by rw [RE.out (by rw [HE2.out]; decide)]; exact seesE_nil _, B0.out⟩
          | false =>
            rw [hh] at HE
            rw [(av_none hh).1] at AT
            by_cases h100 : 100 ≤ n
            · have HE2 := Lib.hid (show er = 7 by rw [HE.out, if_pos rfl, if_neg (by decide), if_pos h100])
              have d1 : (100 : Int) ≤ (n : Int) := by omega
              clear WI hb hh HE
              go_enter Tryz.func86, Tryz.ntmps86
              go_wp2_with fail
              refine (AT.out _ B0.out).mono ?_
              rintro e w' ⟨rfl, rfl⟩
              go_wp2_with fail
              refine (N1.out _).mono ?_
              rintro e w' ⟨rfl, rfl⟩
              go_wp2_with fail
              go_ret2
              exact ⟨_, by rw [HE2.out]; rfl, by rw [RE.out (by rw [HE2.out]; decide)]; exact seesE_nil _, B0.out⟩
            · have HE2 := Lib.hid (show er = 0 by rw [HE.out, if_pos rfl, if_neg (by decide), if_neg h100])
              have d1 : decide ((100 : Int) ≤ (n : Int)) = false := by simp; omega
              have d2 : decide (100 ≤ n) = false := by simp; omega
              clear hb hh HE h100
              go_enter Tryz.func86, Tryz.ntmps86
              go_wp2_with fail
              refine (AT.out _ B0.out).mono ?_
              rintro e w' ⟨rfl, rfl⟩
              go_wp2_with fail
              refine (N1.out _).mono ?_
              rintro e w' ⟨rfl, rfl⟩
              go_wp2_with fail
              refine (WI.out _ B0.out).mono ?_
              rintro e w' ⟨v', rfl, s', hb'⟩
              have S' := Lib.hid s'
              have B' := Lib.hid (B0.out.trans (hb'.mono B0.out.size))
              clear s' hb'
              go_wp2_with fail
              go_ret2
              exact ⟨_, by rw [HE2.out]; rfl, by rw [RO.out HE2.out, HD.out]; exact S'.out, B'.out⟩
      · have HE := Lib.hid (EM.out rfl)
        have HD := Lib.hid (DM.out rfl)
        clear EL EM EU DL DM DU WI N1
        cases hh : has l nm with
        | false =>
          rw [hh] at HE
          have HE2 := Lib.hid (show er = 5 by rw [HE.out]; rfl)
          rw [(av_none hh).1] at AT
          clear HE hh WO WP WJ N2
          go_enter Tryz.func86, Tryz.ntmps86
          go_wp2_with fail
          refine (AT.out _ B0.out).mono ?_
          rintro e w' ⟨rfl, rfl⟩
          go_wp2_with fail
          go_ret2
          exact ⟨_, by rw [HE2.out]; rfl, by rw [RE.out (by rw [HE2.out]; decide)]; exact seesE_nil _, B0.out⟩
        | true =>
          rw [hh] at HE
          obtain ⟨k, hkl, hav, hnode, -⟩ := av_has hh
          rw [hav] at AT
          have d1 : decide ((k : Int) < 0) = false := by simp
          cases hb : nameOk ds with
          | false =>
            rw [hb] at HE N2
            have HE2 := Lib.hid (show er = 1 by rw [HE.out]; simp)
            clear HE hh WO WP WJ hb hav hnode
            go_enter Tryz.func86, Tryz.ntmps86
            go_wp2_with fail
            refine (AT.out _ B0.out).mono ?_
            rintro e w' ⟨rfl, rfl⟩
            go_wp2_with fail
            refine (N2.out _).mono ?_
            rintro e w' ⟨rfl, rfl⟩
            go_wp2_with fail
            go_ret2
            exact ⟨_, by rw [HE2.out]; rfl, by rw [RE.out (by rw [HE2.out]; decide)]; exact seesE_nil _, B0.out⟩
          | true =>
            rw [hb] at HE N2
            by_cases e : ds = nm
            · subst e
              have HE2 := Lib.hid (show er = 1 by rw [HE.out]; simp)
              clear HE hh WO WP WJ hb hav hnode
              go_enter Tryz.func86, Tryz.ntmps86
              go_wp2_with fail
              refine (AT.out _ B0.out).mono ?_
              rintro e w' ⟨rfl, rfl⟩
              go_wp2_with fail
              refine (N2.out _).mono ?_
              rintro e w' ⟨rfl, rfl⟩
              go_wp2_with fail
              go_ret2
              exact ⟨_, by rw [HE2.out]; rfl, by rw [RE.out (by rw [HE2.out]; decide)]; exact seesE_nil _, B0.out⟩
            · have HE2 := Lib.hid (show er = 0 by rw [HE.out, if_pos rfl, if_pos ⟨rfl, e⟩])
              have dne := name_ne e
              have HR := Lib.hid (RO.out HE2.out)
              obtain ⟨g, off, rfl, hg, -, hc2⟩ := SeesE.cells (HS.out _ (Below.refl _ _)) hkl
              rw [hnode] at hc2
              have HC := Lib.hid (fun W (hb : Below w.heap.size w W) => (hb.cell (p := ⟨g, off + k * 2 + 1, none⟩) hg).trans hc2)
              have PB := Lib.hid (fun W (hb : Below (w.heap.size + 1) (w.alloc (.cells #[.int .i64 2, .string nm, .string ds, .int .i64 nd] 65)) W) => (P0.out.later (by simpa using hb)).cells)
              have BD := Lib.hid B0.out.drew
              have PD := Lib.hid (show Below (w.heap.size + 1) (w.alloc (.cells #[.int .i64 2, .string nm, .string ds, .int .i64 nd] 65)) (w.alloc (.cells #[.int .i64 2, .string nm, .string ds, .int .i64 nd] 65)).drew from (Below.refl _ _).drew)
              have hwk : k < n := by rw [HN.out]; exact hkl
              have hcd := HC.out _ B0.out
              generalize fv l nm = fw at *
              generalize wo l nm = l1 at *
              generalize wo l1 ds = l2 at *
              have SZ := Lib.hid (show ∀ W : World, Below (w.heap.size + 1) (w.alloc (.cells #[.int .i64 2, .string nm, .string ds, .int .i64 nd] 65)) W → w.heap.size + 1 ≤ W.heap.size from fun W hb => by have := hb.size; simpa using this)
              clear hb hh HE e hav hnode hc2 RE RO hg
              go_enter Tryz.func86, Tryz.ntmps86
              go_wp2_with fail
              refine (AT.out _ B0.out).mono ?_
              rintro e w' ⟨rfl, rfl⟩
              go_wp2_with fail
              refine (N2.out _).mono ?_
              rintro e w' ⟨rfl, rfl⟩
              go_wp2_with fail
              go_region_held3 (fun W => W.cell? ⟨w.heap.size, 1, none⟩ = some (.string nm) ∧ W.cell? ⟨w.heap.size, 2, none⟩ = some (.string ds) ∧ W.cell? ⟨g, off + k * 2 + 1, none⟩ = some (.int .i64 fw))
                (first | exact ⟨(PB.out _ PD.out).2.1, (PB.out _ PD.out).2.2.1, HC.out _ BD.out⟩ | exact ⟨(PB.out _ hP3).2.1, (PB.out _ hP3).2.2.1, HC.out _ hB3⟩ | exact ⟨(PB.out _ hP4).2.1, (PB.out _ hP4).2.2.1, HC.out _ hB4⟩ | exact ⟨(PB.out _ hP5).2.1, (PB.out _ hP5).2.2.1, HC.out _ hB5⟩)
                (first
                  | (go_at_call 104; (with_reducible refine (WO.out _ BD.out).mono ?_); rintro e w3 ⟨v3, rfl, s3, b3⟩; have hB3 := BD.out.trans (b3.mono BD.out.size); have hP3 := PD.out.trans (b3.mono (SZ.out _ PD.out)))
                  | (go_at_call 104; (with_reducible refine (WP.out _ _ s3).mono ?_); rintro e w4 ⟨v4, rfl, s4, b4⟩; have hB4 := hB3.trans (b4.mono hB3.size); have hP4 := hP3.trans (b4.mono (SZ.out _ hP3)))
                  | (go_at_call 103; (with_reducible refine (WJ.out _ _ s4).mono ?_); rintro e w5 ⟨v5, rfl, s5, b5⟩; have hB5 := hB4.trans (b5.mono hB4.size); have hP5 := hP4.trans (b5.mono (SZ.out _ hP4))))
              all_goals
                have S5 := Lib.hid s5
                have B5 := Lib.hid hB5
                clear s5 b5 hB5 hP5 s4 b4 hB4 hP4 s3 b3 hB3 hP3
                go_wp2_with fail
                go_ret2
                exact ⟨_, by rw [HE2.out]; rfl, by rw [HR.out, HD.out]; exact S5.out, B5.out⟩
      · have HE := Lib.hid (EU.out rfl)
        have HD := Lib.hid (DU.out rfl)
        clear EL EM EU DL DM DU WI N1 WP WJ N2
        cases hh : has l nm with
        | false =>
          rw [hh] at HE
          have HE2 := Lib.hid (show er = 5 by rw [HE.out]; rfl)
          rw [(av_none hh).1] at AT
          clear HE hh WO
          go_enter Tryz.func86, Tryz.ntmps86
          go_wp2_with fail
          refine (AT.out _ B0.out).mono ?_
          rintro e w' ⟨rfl, rfl⟩
          go_wp2_with fail
          go_ret2
          exact ⟨_, by rw [HE2.out]; rfl, by rw [RE.out (by rw [HE2.out]; decide)]; exact seesE_nil _, B0.out⟩
        | true =>
          rw [hh] at HE
          have HE2 := Lib.hid (show er = 0 by rw [HE.out]; rfl)
          obtain ⟨k, _, hav, _, _⟩ := av_has hh
          rw [hav] at AT
          have d1 : decide ((k : Int) < 0) = false := by simp
          clear hh hav HE
          go_enter Tryz.func86, Tryz.ntmps86
          go_wp2_with fail
          refine (AT.out _ B0.out).mono ?_
          rintro e w' ⟨rfl, rfl⟩
          go_wp2_with fail
          refine (WO.out _ B0.out).mono ?_
          rintro e w' ⟨v', rfl, s', hb'⟩
          have S' := Lib.hid s'
          have B' := Lib.hid (B0.out.trans (hb'.mono B0.out.size))
          clear s' hb'
          go_wp2_with fail
          go_ret2
          exact ⟨_, by rw [HE2.out]; rfl, by rw [RO.out HE2.out, HD.out]; exact S'.out, B'.out⟩
end Go.Proofs.YtaklilhnikmmfaaGreat
