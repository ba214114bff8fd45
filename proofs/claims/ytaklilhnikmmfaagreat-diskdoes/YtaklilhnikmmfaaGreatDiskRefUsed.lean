/-
  The walks of the reference's Used and Read.
-/
import Derived.Test.YtaklilhnikmmfaaGreatDiskRefSure
namespace Go.Proofs.YtaklilhnikmmfaaGreat
open Go.RowKit StrM BlockM FileM DirM DiskM

/-- The file of a node, in memory. -/
theorem RHeld.node {w : World} {N q i : Nat} {s : S} {r : RR} {A : Option Addr} {n c : Nat} (h : RHeld w N q s r) (hI : Inv i s) (hF : r.F = .slice A n c) {nd : Int} (ha : alive s.dir nd) :
    ∃ (k : Nat) (hk : k < s.files.length) (g : Nat) (A0 : Option Addr) (n0 c0 : Nat) (A1 : Option Addr) (n1 c1 : Nat) (A2 : Option Addr) (n2 c2 : Nat), nd = (k : Int) + 1 ∧ k < n ∧ n ≤ 100 + i ∧ A = some ⟨g, 0, none⟩ ∧ g < w.heap.size ∧ w.cell? ⟨g, k * 3, none⟩ = some (.slice A0 n0 c0) ∧ w.cell? ⟨g, k * 3 + 1, none⟩ = some (.slice A1 n1 c1) ∧ w.cell? ⟨g, k * 3 + 2, none⟩ = some (.slice A2 n2 c2) ∧
      n0 = (fl s.files nd).now.length ∧ s.files[k] = fl s.files nd ∧ SeesF w (.agg #[.slice A0 n0 c0, .slice A1 n1 c1, .slice A2 n2 c2]) (fl s.files nd) := by
  obtain ⟨h1, h2⟩ := hI.nodes nd ha
  obtain ⟨hk, e⟩ := fl_at h1 h2
  have hf := h.files
  obtain ⟨A', c', e', -⟩ := hf.form
  rw [hF] at e' hf
  injection e' with e1 e2 e3
  have hfew := hI.few
  obtain ⟨g, A0, n0, c0, A1, n1, c1, A2, n2, c2, hA, hg, x0, x1, x2, l0, -, -, hS⟩ := hf.at hk
  exact ⟨nd.toNat - 1, hk, g, A0, n0, c0, A1, n1, c1, A2, n2, c2, by omega, by omega, by omega, hA, hg, x0, x1, x2, by rw [e]; exact l0, e.symm, by rw [e]; exact hS⟩

set_option maxHeartbeats 4000000 in
set_option maxRecDepth 100000 in
theorem rused_any (N q i : Nat) (s : S) (w : World) (h : RD N q s w) (hI : Inv i s) (hi : i ≤ 100) :
    Calls Tryz.prog 17 #[.pointer (some ⟨q, 0, none⟩)] w fun e w' => e = .returned (.int .i64 (used s : Int)) ∧ Below w.heap.size w w' := by
  obtain ⟨r, H⟩ := h
  have HI := Lib.hid hI
  have HH := Lib.hid (fun W (hb : Below w.heap.size w W) => H.later hb)
  obtain ⟨A0, n0, c0, A1, n1, c1, A2, n2, c2, f0, f1, f2, en, -⟩ := H.entries
  obtain ⟨A3, c3, f3, -⟩ := H.files.form
  obtain ⟨n3, e3⟩ : ∃ n, n = s.files.length := ⟨_, rfl⟩
  rw [← e3] at f3
  have EN := Lib.hid en
  have NL := Lib.hid (show n0 ≤ 100 by rw [en]; exact (DirM.valid_now hI.dirs).few)
  have n0l := NL.out
  have SE := Lib.hid (show ∀ W, Below w.heap.size w W → SeesE W (.slice A0 n0 c0) s.dir.now from fun W hb => by
    have := (H.later hb).dir
    rw [f0] at this
    obtain ⟨_, _, _, e, h1, -⟩ := this
    injection e with e
    injection e with e
    injection e with e _
    rw [e]; exact h1)
  have F3 := Lib.hid f3
  have F0 := Lib.hid f0
  clear H hI f1 f2 f3 f0 en e3
  go_enter Tryz.func17, Tryz.ntmps17
  go_wp2_with fail
  go_loopw [3, 4] (fun s3 s4 wr => ∃ j : Nat, j ≤ n0 ∧ s4 = .int .i64 (j : Int) ∧ s3 = .int .i64 (usedL (s.dir.now.take j) s.files : Int) ∧ Below w.heap.size w wr) (fun _ s4 _ => n0 - (intOf s4).toNat)
  case atStart => exact ⟨0, Nat.zero_le _, rfl, by simp [usedL], Below.refl _ _⟩
  case round =>
    obtain ⟨j, hj, rfl, rfl, hB⟩ := hrel
    have HB := Lib.hid hB
    clear hB
    have H2 := HH.out _ HB.out
    obtain ⟨-, x1, -, -, x4, -⟩ := H2.box.cells
    rw [F0.out] at x1
    rw [F3.out] at x4
    by_cases hlt : j < n0
    · have hkl : j < s.dir.now.length := by rw [← EN.out]; exact hlt
      obtain ⟨gb, off, rfl, hg, hc1, hc2⟩ := (SE.out _ HB.out).cells hkl
      obtain ⟨k, hk, g, B0, m0, d0, B1, m1, d1, B2, m2, d2, hnd, hkn, hn3, rfl, hgs, y0, -, -, hm0, -, -⟩ := H2.node HI.out F3.out (now_alive HI.out.dirs _ (List.getElem_mem hkl))
      have US := Lib.hid (usedL_next (fs := s.files) hkl)
      have U1 := used_le_all HI.out j
      have U2 := used_le_all HI.out (j + 1)
      have VL := FileM.valid_now (fl_valid HI.out.fine s.dir.now[j].node)
      unfold nowLen at US
      rw [← hm0] at US VL
      rw [hnd] at hc2
      generalize s.dir.now[j].node = nd at *
      generalize s.dir.now[j].name = nm at *
      generalize usedL (s.dir.now.take j) s.files = u at *
      generalize husd : usedL (s.dir.now.take (j + 1)) s.files = u' at *
      have HU := Lib.hid husd
      have ek : (k : Int) + 1 - 1 = (k : Int) := by omega
      have hkn' : (k : Int) < (n3 : Int) := by omega
      clear hm0 hnd hc1 husd hk H2
      go_wp2_with fail
      go_quiet (fail)
      have BQ := Lib.hid (show Below w.heap.size w (wr.drewN nq) from ⟨HB.out.os, HB.out.tape, HB.out.output, HB.out.size, HB.out.block⟩)
      have UX := Lib.hid (show ((u : Int) + (m0 : Int)) = ((usedL (s.dir.now.take (j + 1)) s.files : Nat) : Int) by rw [HU.out, US.out]; omega)
      clear x1 x4 y0 hc2
      generalize wr.drewN nq = w2 at *
      go_wp2_with fail
      go_roundw
      case rel => exact ⟨j + 1, by omega, by go_num, by rw [UX.out], BQ.out⟩
      case measure => simp [intOf]; omega
    · have HX := Lib.hid (show ((usedL (s.dir.now.take j) s.files : Nat) : Int) = (used s : Int) by
        rw [show j = s.dir.now.length by rw [← EN.out]; omega, List.take_length]; rfl)
      clear H2
      go_wp2_with fail
      go_ret
      exact ⟨ret_int HX.out, HB.out⟩

set_option maxHeartbeats 4000000 in
set_option maxRecDepth 100000 in
theorem rread_any (N q i : Nat) (s : S) (nm : ByteArray) (w : World) (h : RD N q s w) (hI : Inv i s) (hi : i ≤ 100) :
    Calls Tryz.prog 19 #[.pointer (some ⟨q, 0, none⟩), .string nm] w (RPost (if s.down then [] else if has s.dir.now nm then (DiskM.file s nm).now else []) (if s.down then 9 else if has s.dir.now nm then 0 else 5) w) := by
  obtain ⟨r, H⟩ := h
  unfold RPost
  cases hd : s.down
  case' true =>
    obtain ⟨-, -, -, -, -, -, -, -, c8⟩ := H.box.cells
    rw [H.down, hd] at c8
    simp only [if_true]
    clear H hI hd
    go_enter Tryz.func19, Tryz.ntmps19
    go_wp2_with fail
    go_ret2
    exact ⟨_, rfl, ⟨none, 0, rfl, .inl rfl⟩, Below.refl _ _⟩
  case' false =>
    obtain ⟨A0, n0, c0, A1, n1, c1, A2, n2, c2, f0, f1, f2, en, -⟩ := H.entries
    obtain ⟨A3, c3, f3, -⟩ := H.files.form
    obtain ⟨n3, e3⟩ : ∃ n, n = s.files.length := ⟨_, rfl⟩
    rw [← e3] at f3
    have EN := Lib.hid en
    have NL := Lib.hid (show n0 ≤ 100 by rw [en]; exact (DirM.valid_now hI.dirs).few)
    have SE := Lib.hid (show SeesE w (.slice A0 n0 c0) s.dir.now from by
      have := H.dir
      rw [f0] at this
      obtain ⟨_, _, _, e, h1, -⟩ := this
      injection e with e
      injection e with e
      injection e with e _
      rw [e]; exact h1)
    have AT := Lib.hid (rat_any (.slice A0 n0 c0) s.dir.now nm w SE.out (by rw [← EN.out]; have := NL.out; omega))
    obtain ⟨-, x1, -, -, x4, -, -, -, c8⟩ := H.box.cells
    rw [H.down, hd] at c8
    rw [f0] at x1
    rw [f3] at x4
    simp only [Bool.false_eq_true, if_false]
    cases hh : has s.dir.now nm
    case' false =>
      rw [(av_none hh).1] at AT
      simp only [Bool.false_eq_true, if_false]
      clear H hI hd hh f0 f1 f2 f3 en e3 SE
      go_enter Tryz.func19, Tryz.ntmps19
      go_wp2_with fail
      refine AT.out.mono ?_
      rintro e w' ⟨rfl, rfl⟩
      clear AT
      go_wp2_with fail
      go_ret2
      exact ⟨_, rfl, ⟨none, 0, rfl, .inl rfl⟩, Below.refl _ _⟩
    case' true =>
      obtain ⟨j, hkl, ej, hno, -⟩ := av_has hh
      have hnode : s.dir.now[j].node = DiskM.node s nm := hno
      rw [ej] at AT
      obtain ⟨gb, off, rfl, hg, hc1, hc2⟩ := SE.out.cells hkl
      obtain ⟨k, hk, g, B0, m0, d0, B1, m1, d1, B2, m2, d2, hnd, hkn, hn3, rfl, hgs, y0, -, -, hm0, -, hS⟩ := H.node hI f3 (now_alive hI.dirs _ (List.getElem_mem hkl))
      have VX := Lib.hid (show SeesV w (.slice B0 m0 d0) (bys (DiskM.file s nm).now) by
        obtain ⟨_, _, _, e, h1, -⟩ := hS
        injection e with e
        injection e with e
        injection e with e _
        rw [e]
        rw [hnode] at h1
        exact h1)
      simp only [if_true]
      have hjn : (j : Int) < (n0 : Int) := by rw [EN.out]; omega
      have hj0 : ¬ (j : Int) < 0 := by omega
      have n0l := NL.out
      rw [hnd] at hc2
      have ek : (k : Int) + 1 - 1 = (k : Int) := by omega
      have hkn' : (k : Int) < (n3 : Int) := by omega
      have hjl : j < n0 := by omega
      clear H hI hd hh f0 f1 f2 f3 en e3 SE hnode hno hnd hS hm0 hc1 hk
      generalize (DiskM.file s nm).now = l at *
      go_enter Tryz.func19, Tryz.ntmps19
      go_wp2_with fail
      refine AT.out.mono ?_
      rintro e w' ⟨rfl, rfl⟩
      clear AT
      go_wp2_with fail
      go_quiet (fail)
      have BQ := Lib.hid (show Below w.heap.size w (w.drewN nq) from ⟨rfl, rfl, rfl, Nat.le_refl _, fun _ _ => rfl⟩)
      have VQ := Lib.hid (VX.out.later BQ.out)
      generalize w.drewN nq = w2 at *
      go_wp2_with fail
      go_ret2
      exact ⟨_, rfl, VQ.out, BQ.out⟩
end Go.Proofs.YtaklilhnikmmfaaGreat
