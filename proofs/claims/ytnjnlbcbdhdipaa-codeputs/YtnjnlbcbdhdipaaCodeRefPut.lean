/-
  The walk of the reference's Put of rows.
-/
import Derived.Test.YtnjnlbcbdhdipaaCodePut
import Derived.Deep.RegionHeld3
namespace Go.Proofs.Ytnjnlbcbdhdipaa
open Go.RowKit StrM VaryM CodeM

theorem run_bytes_own (w : World) (s : ByteArray) : ∃ v W, (convert 9 25 (.string s)).run Try.prog w = .ok v W ∧ SeesV W v (bys s.data.toList) ∧ Below w.heap.size w W := by
  obtain ⟨cap, W, h1, h2, h3⟩ := run_bytes w s
  refine ⟨_, W, h1, ⟨some ⟨w.heap.size, 0, none⟩, cap, by rw [bys_len, length_bytes], ?_⟩, h2⟩
  by_cases h0 : s.data.toList = []
  · left; rw [h0]; rfl
  · right
    have hlen : 0 < s.data.toList.length := by
      rcases hq : s.data.toList with _ | ⟨c, r⟩
      · exact absurd hq h0
      · simp
    refine ⟨w.heap.size, 0, rfl, ?_, fun k hk => ?_⟩
    · have := World.block_lt_of_cell? W _ (h3 0 hlen).1
      exact this
    · rw [Nat.zero_add, (h3 k (by rw [bys_len] at hk; exact hk)).1]
      simp [bys]

theorem step_append_all_k {P : Program} {t e : TypeId} {z : Value} {bytes : Nat} (H : OneCell P t e z bytes) {w : World} {ops : Array Oper} {o : Oper} {a : Act} {K : Act → World → Prop} {Q : Exit → Act → World → Prop} {E : Prop} (hgd : o.guard = none) (s x : Operand)
    (ho : o.op = .call { callee := .builtin .append, args := #[s, x], argTypes := #[t, t] })
    (base : Nat) (v : Value) (n : Nat) (xs : List Value) (hs : a.eval s = v) (hown : w.ownsRow base e 1 v n xs)
    (u : Value) (news : List Value) (hx : a.eval x = u) (hu : SeesV w u news) (h1 : ∀ c ∈ news, c.oneCell' = true)
    (hbound : (n + news.length) * bytes ≤ 140737488355328) (hn : n + news.length ≤ maxLen) (hbase : base ≤ w.heap.size)
    (h : ∀ v' w', w'.ownsRow base e 1 v' (n + news.length) (xs ++ news) → Below base w w' → Stays w w' v → K (a.put o.dst v') w') :
    if Region.wanted o (yielded ops a.tmps) = true then Oper.wp P o a w K Q else E := by
  have hw : Region.wanted o (yielded ops a.tmps) = true := by simp [Region.wanted, hgd]
  rw [if_pos hw]
  obtain ⟨A, c, rfl, hsee⟩ := hu
  rcases A with _ | ad
  · have hnil : news = [] := by
      rcases hsee with h0 | ⟨g, off, h0, _⟩
      · exact h0
      · cases h0
    subst hnil
    have hr := run_append_nil H w o.type hown c
    have hfin := h v w (by simpa using hown) (Below.refl _ _) (fun _ _ hq _ => hq)
    unfold Oper.wp execOp
    simp only [ho, resolve, invoke, builtin, Sem.run_bind, Sem.run_pure, Result.andThen_ok, List.map_toArray, List.map_cons, List.map_nil, hs, hx, List.length_nil, hr]
    exact hfin
  · obtain ⟨i0, hi, hz0, hz1, hz2⟩ := info_parts H.info
    refine wp_append_own w s x t ho base e i0 z 1 bytes H.under hi hz0 hz1 hz2 H.cells (by decide) v n xs hs hown ad news.length c news hx (by simp) (fun j u hj => ?_) h1 hn hbound hbase ?_
    · rcases hsee with h0 | ⟨g, off, h0, _, hc⟩
      · subst h0; simp at hj
      · have e1 := Option.some.inj h0
        subst e1
        have hjl : j < news.length := (List.getElem?_eq_some_iff.1 hj).1
        have := hc j hjl
        rw [List.getElem?_eq_getElem hjl] at hj
        rw [Option.some.inj hj] at this
        by_cases j0 : j = 0
        · subst j0; simpa [Addr.add] using this
        · simpa [Addr.add, j0] using this
    · intro v' w' h2 h3 _
      refine h v' w' h2 ((Below.refl _ _).grown h3 hbase fun k hk => (hown.lt k hk).1) fun q o hq hne => ?_
      rw [h3.block q (Array.getElem?_eq_some_iff.1 hq).1 hne]
      exact hq

/-- A row that was made later stays where another one grows. -/
theorem own_stays {w w' : World} {v u : Value} {base' n' : Nat} {ys : List Value} {e' : TypeId} (hu : w.ownsRow base' e' 1 u n' ys) (hs : Stays w w' v) (hlt : ∀ q, v.ownBlock = some q → q < base') : w'.ownsRow base' e' 1 u n' ys := by
  refine ⟨hu.1, ?_⟩
  rcases hu.2 with h | ⟨g, cap, cur, h1, h2, h3, h4⟩
  · exact .inl h
  · refine .inr ⟨g, cap, cur, h1, h2, ?_, h4⟩
    exact hs g _ h3 fun e => by have := hlt g e.symm; omega

/-- A call that makes a row, in whatever world that keeps what w holds. -/
theorem rgives (n : Nat) (w : World) (hn : n < 18446744073709551616) : ∀ W, Below w.heap.size w W → Calls Try.prog 21 #[.int .u64 (n : Int)] W fun e W' => ∃ v, e = .returned v ∧ W'.ownsRow W.heap.size 5 1 v (putL n).length (bys (putL n)) ∧ Below W.heap.size W W' ∧ Below w.heap.size w W' := by
  intro W hW
  refine (rvput_any n W hn).mono ?_
  rintro e W' ⟨v, rfl, ho, hb⟩
  exact ⟨v, rfl, ho, hb, hW.trans (hb.mono hW.size)⟩

theorem bnd1 {n : Nat} {l : List UInt8} (h : n + l.length ≤ 5000000) : (n + (bys l).length) * 1 ≤ 140737488355328 := by rw [bys_len]; omega
theorem bnd2 {n : Nat} {l : List UInt8} (h : n + l.length ≤ 5000000) : n + (bys l).length ≤ maxLen := by rw [bys_len]; unfold maxLen; omega

set_option maxHeartbeats 4000000 in
set_option maxRecDepth 100000 in
theorem rputs_any (v : Value) (l : List V) (w : World) (hs : SeesS w v l) (hf : ∀ v ∈ l, Fits v) (hR : right l = true) :
    Calls Try.prog 12 #[v] w (EndPost (put l) w) := by
  obtain ⟨len, hn⟩ : ∃ len, len = l.length := ⟨_, rfl⟩
  obtain ⟨a, cap, rfl, -⟩ := id hs
  have HS := Lib.hid hs
  rw [← hn] at HS ⊢
  have HN := Lib.hid hn
  have HFI := Lib.hid hf
  have HR := Lib.hid hR
  have hL : len ≤ 1000 := by
    rw [HN.out]
    simp only [right, Bool.and_eq_true, decide_eq_true_eq] at hR
    exact hR.1
  have PL := Lib.hid (fun w => rvput_any len w (by omega))
  clear hs hn hf hR
  go_enter Try.func12, Try.ntmps12
  go_wp2_with fail
  refine (PL.out _).mono ?_
  rintro e w2 ⟨v2, rfl, ho, hb⟩
  have HE := Lib.hid (show ERel w v2 (accP l 0) w2 by
    refine ⟨?_, hb⟩
    rw [show accP l 0 = putL len by rw [HN.out]; simp [accP, encs]]
    exact ho)
  clear ho hb
  go_wp2_with fail
  go_loopw [3, 4] (fun x i wr => ∃ k : Nat, k ≤ len ∧ i = .int .i64 (k : Int) ∧ ERel w x (accP l k) wr) (fun _ i _ => len - (intOf i).toNat)
  case atStart => exact ⟨0, Nat.zero_le _, rfl, HE.out⟩
  case round =>
    clear HE
    obtain ⟨k, hk, rfl, hE⟩ := hrel
    have HE := Lib.hid hE
    clear hE
    by_cases hlt : k < len
    · have hkl : k < l.length := by rw [← HN.out]; exact hlt
      have CE := HS.out.cells hkl
      obtain ⟨g, off, rfl, hg, cc1, cc2, cc3⟩ := CE
      have HAN := Lib.hid (accP_next hkl)
      have HAL2 := Lib.hid (show (accP l (k + 1)).length ≤ 5000000 from accP_len (k + 1) HR.out HFI.out)
      have hok := right_at HR.out hkl
      have hfi := HFI.out _ (List.getElem_mem hkl)
      obtain ⟨u, hu⟩ : ∃ u, u = l[k] := ⟨_, rfl⟩
      rw [← hu] at cc1 cc2 cc3 hok hfi HAN
      obtain ⟨acc, hacc⟩ : ∃ acc, acc = accP l k := ⟨_, rfl⟩
      rw [← hacc] at HE HAN
      clear hu hacc
      have hlt' : (k : Int) < (len : Int) := by omega
      have BD := Lib.hid HE.out.2.drew
      have OD := Lib.hid HE.out.1.drew
      have hsd := BD.out.size
      rcases told_ok u with ⟨_, hw⟩ | ⟨hno, _⟩
      · obtain ⟨uk, un, ut⟩ := u
        rcases hw with ⟨hk1, ht0⟩ | ⟨hk2, hn0, hsz⟩
        · have hk1 : uk = 1 := hk1
          subst hk1
          have HFU := Lib.hid hfi
          have ZI := Lib.hid (fun w => rzig_any un w HFU.out.1 HFU.out.2)
          obtain ⟨z, hz⟩ : ∃ z : Nat, (z : Int) = zig un := ⟨(zig un).toNat, Int.toNat_of_nonneg (zig_range HFU.out.1 HFU.out.2).1⟩
          have hz2 : zig un ≤ 18446744073709551615 := (zig_range HFU.out.1 HFU.out.2).2
          have PZ := Lib.hid (rgives z w (by omega))
          rw [← hz] at ZI
          have HEN := Lib.hid (show accP l (k + 1) = acc ++ [1] ++ putL z by rw [HAN.out, enc_num rfl]; simp only; rw [← hz]; simp)
          have HC := Lib.hid (show ∀ W, Below w.heap.size w W → W.cell? ⟨g, off + k * 3 + 1, none⟩ = some (.int .i64 un) from fun W hW => (hW.cell (p := ⟨g, off + k * 3 + 1, none⟩) hg).trans cc2)
          have hc1 : wr.cell? ⟨g, off + k * 3, none⟩ = some (.int .i64 1) := (HE.out.2.cell (p := ⟨g, off + k * 3, none⟩) hg).trans cc1
          have hc2 := HC.out _ HE.out.2
          have hm : acc.length + 1 + (putL z).length ≤ 5000000 := by have := HAL2.out; rw [HEN.out, List.length_append, List.length_append] at this; exact this
          have N1 := Lib.hid (bnd1 (n := acc.length) (l := [1]) (by simp; omega))
          have N2 := Lib.hid (bnd2 (n := acc.length) (l := [1]) (by simp; omega))
          have N3 := Lib.hid (bnd1 (n := acc.length + (bys [1]).length) (l := putL z) (by rw [bys_len]; simp; omega))
          have N4 := Lib.hid (bnd2 (n := acc.length + (bys [1]).length) (l := putL z) (by rw [bys_len]; simp; omega))
          have BA := Lib.hid (BD.out.alloc BD.out.size (.cells #[.int .u8 1] 5))
          have OA := Lib.hid (OD.out.alloc (.cells #[.int .u8 1] 5))
          have SA := Lib.hid (SeesV.of_own (own_built1 wr.drew (c := 1) (x := 1) rfl))
          clear hz hz2 hok hfi ht0 cc1 cc2 cc3 hm
          go_wp2_with fail
          go_region_held3 (fun W => W.cell? ⟨g, off + k * 3 + 1, none⟩ = some (.int .i64 un))
            (first | go_keep | exact HC.out _ (by assumption) | exact HC.out _ BD.out | exact HC.out _ BA.out)
            (first
              | (go_at_call 22; ((with_reducible refine (ZI.out _).mono ?_)); rintro e w' ⟨rfl, rfl⟩)
              | (go_at_call 21; (first | (with_reducible refine (PZ.out _ hB3).mono ?_) | (with_reducible refine (PZ.out _ BA.out).mono ?_) | (with_reducible refine (PZ.out _ BD.out).mono ?_)); rintro e w4 ⟨v4, rfl, ho4, hb4, hB4⟩)
              | (refine step_append_all_k oneByte rfl (.tmp 21) (.tmp 22) rfl w.heap.size _ _ _ (by simp [Act.eval]) OA.out _ (bys [1]) (by simp [Act.eval]) SA.out (bys_ones _) N1.out N2.out BA.out.size ?_; intro v3 w3 ho3 hb3 hs3; have hB3 := BA.out.trans hb3)
              | (refine step_append_all_k oneByte rfl (.tmp 21) (.tmp 22) rfl w.heap.size _ _ _ (by simp [Act.eval]) (own_below OA.out hb4) _ (bys [1]) (by simp [Act.eval]) (SA.out.later hb4) (bys_ones _) N1.out N2.out hB4.size ?_; intro v3 w3 ho3 hb3 hs3; have hB3 := hB4.trans hb3)
              | (refine step_append_all_k oneByte rfl (.tmp 21) (.tmp 22) rfl w.heap.size _ _ _ (by simp [Act.eval]) ((own_below OD.out hb4).alloc _) _ (bys [1]) (by simp [Act.eval]) (SeesV.of_own (own_built1 _ rfl)) (bys_ones _) N1.out N2.out (hB4.alloc hB4.size _).size ?_; intro v3 w3 ho3 hb3 hs3; have hB3 := (hB4.alloc hB4.size _).trans hb3)
              | (refine step_append_all_k oneByte rfl (.tmp 23) (.tmp 30) rfl w.heap.size _ _ _ (by simp [Act.eval]) (own_below ho3 hb4) _ (bys (putL z)) (by simp [Act.eval]) (SeesV.of_own ho4) (bys_ones _) N3.out N4.out hB4.size ?_; intro v5 w5 ho5 hb5 hs5; have hB5 := hB4.trans hb5)
              | (refine step_append_all_k oneByte rfl (.tmp 23) (.tmp 30) rfl w.heap.size _ _ _ (by simp [Act.eval]) ho3 _ (bys (putL z)) (by simp [Act.eval]) (SeesV.of_own (own_stays ho4 hs3 fun q hq => (OA.out.lt q hq).2)) (bys_ones _) N3.out N4.out hB3.size ?_; intro v5 w5 ho5 hb5 hs5; have hB5 := hB3.trans hb5)
              | (refine step_append_all_k oneByte rfl (.tmp 23) (.tmp 30) rfl w.heap.size _ _ _ (by simp [Act.eval]) ho3 _ (bys (putL z)) (by simp [Act.eval]) (SeesV.of_own (own_stays (ho4.alloc _) hs3 fun q hq => (OD.out.lt q hq).2)) (bys_ones _) N3.out N4.out hB3.size ?_; intro v5 w5 ho5 hb5 hs5; have hB5 := hB3.trans hb5))
          all_goals
            have HX := Lib.hid (show ERel w v5 (accP l (k + 1)) w5 from ⟨by rw [HEN.out]; simpa [bys, Nat.add_assoc, Nat.add_comm, Nat.add_left_comm] using ho5, hB5⟩)
            clear ho3 hb3 hs3 hB3 ho4 hb4 hB4 ho5 hb5 hs5 hB5
            go_wp2_with fail
            go_roundw
            case rel => exact ⟨k + 1, by omega, by go_num, HX.out⟩
            case measure => simp [intOf]; omega
        · have hk2 : uk = 2 := hk2
          have hn0 : un = 0 := hn0
          have hsz : ut.size ≤ 4096 := hsz
          subst hk2 hn0
          have PZ := Lib.hid (rgives ut.size w (by omega))
          have HEN := Lib.hid (show accP l (k + 1) = acc ++ [2] ++ putL ut.size ++ ut.data.toList by rw [HAN.out, enc_text (show (2 : Int) ≠ 1 by decide)]; simp)
          have HC := Lib.hid (show ∀ W, Below w.heap.size w W → W.cell? ⟨g, off + k * 3 + 2, none⟩ = some (.string ut) from fun W hW => (hW.cell (p := ⟨g, off + k * 3 + 2, none⟩) hg).trans cc3)
          have hc1 : wr.cell? ⟨g, off + k * 3, none⟩ = some (.int .i64 2) := (HE.out.2.cell (p := ⟨g, off + k * 3, none⟩) hg).trans cc1
          have hc3 := HC.out _ HE.out.2
          have hm : acc.length + 1 + (putL ut.size).length + ut.size ≤ 5000000 := by have := HAL2.out; rw [HEN.out, List.length_append, List.length_append, List.length_append, length_bytes] at this; exact this
          have N1 := Lib.hid (bnd1 (n := acc.length) (l := [2]) (by simp; omega))
          have N2 := Lib.hid (bnd2 (n := acc.length) (l := [2]) (by simp; omega))
          have N3 := Lib.hid (bnd1 (n := acc.length + (bys [2]).length) (l := putL ut.size) (by rw [bys_len]; simp; omega))
          have N4 := Lib.hid (bnd2 (n := acc.length + (bys [2]).length) (l := putL ut.size) (by rw [bys_len]; simp; omega))
          have BA := Lib.hid (BD.out.alloc BD.out.size (.cells #[.int .u8 2] 5))
          have OA := Lib.hid (OD.out.alloc (.cells #[.int .u8 2] 5))
          have SA := Lib.hid (SeesV.of_own (own_built1 wr.drew (c := 2) (x := 2) rfl))
          have hm2 := Lib.hid hm
          have hwz : IntKind.u64.wrap (ut.size : Int) = (ut.size : Int) := by rw [wrap_u64_mod]; omega
          clear hok hfi cc1 cc2 cc3 hm
          go_wp2_with fail
          go_region_held3 (fun W => W.cell? ⟨g, off + k * 3 + 2, none⟩ = some (.string ut))
            (first | go_keep | exact HC.out _ (by assumption) | exact HC.out _ BD.out | exact HC.out _ BA.out)
            (first
              | (go_at_call 21; (first | (with_reducible refine (PZ.out _ hB3).mono ?_) | (with_reducible refine (PZ.out _ BA.out).mono ?_) | (with_reducible refine (PZ.out _ BD.out).mono ?_)); rintro e w4 ⟨v4, rfl, ho4, hb4, hB4⟩)
              | (refine step_append_all_k oneByte rfl (.tmp 32) (.tmp 33) rfl w.heap.size _ _ _ (by simp [Act.eval]) OA.out _ (bys [2]) (by simp [Act.eval]) SA.out (bys_ones _) N1.out N2.out BA.out.size ?_; intro v3 w3 ho3 hb3 hs3; have hB3 := BA.out.trans hb3)
              | (refine step_append_all_k oneByte rfl (.tmp 32) (.tmp 33) rfl w.heap.size _ _ _ (by simp [Act.eval]) (own_below OA.out hb4) _ (bys [2]) (by simp [Act.eval]) (SA.out.later hb4) (bys_ones _) N1.out N2.out hB4.size ?_; intro v3 w3 ho3 hb3 hs3; have hB3 := hB4.trans hb3)
              | (refine step_append_all_k oneByte rfl (.tmp 32) (.tmp 33) rfl w.heap.size _ _ _ (by simp [Act.eval]) ((own_below OD.out hb4).alloc _) _ (bys [2]) (by simp [Act.eval]) (SeesV.of_own (own_built1 _ rfl)) (bys_ones _) N1.out N2.out (hB4.alloc hB4.size _).size ?_; intro v3 w3 ho3 hb3 hs3; have hB3 := (hB4.alloc hB4.size _).trans hb3)
              | (refine step_append_all_k oneByte rfl (.tmp 34) (.tmp 42) rfl w.heap.size _ _ _ (by simp [Act.eval]) (own_below ho3 hb4) _ (bys (putL ut.size)) (by simp [Act.eval]) (SeesV.of_own ho4) (bys_ones _) N3.out N4.out hB4.size ?_; intro v5 w5 ho5 hb5 hs5; have hB5 := hB4.trans hb5)
              | (refine step_append_all_k oneByte rfl (.tmp 34) (.tmp 42) rfl w.heap.size _ _ _ (by simp [Act.eval]) ho3 _ (bys (putL ut.size)) (by simp [Act.eval]) (SeesV.of_own (own_stays ho4 hs3 fun q hq => (OA.out.lt q hq).2)) (bys_ones _) N3.out N4.out hB3.size ?_; intro v5 w5 ho5 hb5 hs5; have hB5 := hB3.trans hb5)
              | (refine step_append_all_k oneByte rfl (.tmp 34) (.tmp 42) rfl w.heap.size _ _ _ (by simp [Act.eval]) ho3 _ (bys (putL ut.size)) (by simp [Act.eval]) (SeesV.of_own (own_stays (ho4.alloc _) hs3 fun q hq => (OD.out.lt q hq).2)) (bys_ones _) N3.out N4.out hB3.size ?_; intro v5 w5 ho5 hb5 hs5; have hB5 := hB3.trans hb5))
          all_goals
            have O5 := Lib.hid (show w5.ownsRow w.heap.size 5 1 v5 (acc ++ [2] ++ putL ut.size).length (bys (acc ++ [2] ++ putL ut.size)) by simpa [bys, Nat.add_assoc, Nat.add_comm, Nat.add_left_comm] using ho5)
            have B5 := Lib.hid hB5
            obtain ⟨v6, w6, hconv, hsee6, hb6⟩ := run_bytes_own w5 ut
            have O6 := Lib.hid (own_below O5.out hb6)
            have S6 := Lib.hid hsee6
            have B6 := Lib.hid (B5.out.trans (hb6.mono B5.out.size))
            have hc5 := HC.out _ hB5
            clear ho3 hb3 hs3 hB3 ho4 hb4 hB4 ho5 hb5 hs5 hB5 hsee6 hb6 hc1 hc3
            go_wp2_with (at_builtin; refine append_all oneByte rfl _ _ rfl w.heap.size _ _ _ rfl O6.out _ (bys ut.data.toList) rfl S6.out (bys_ones _) (bnd1 ?b1) (bnd2 ?b1) ?b3 ?_)
            case b1 => rw [List.length_append, List.length_append, length_bytes]; exact hm2.out
            case b3 => exact B6.out.size
            intro v7 w7 ho7 hb7
            have HX := Lib.hid (show ERel w v7 (accP l (k + 1)) w7 from ⟨by rw [HEN.out]; simpa [bys, Nat.add_assoc, Nat.add_comm, Nat.add_left_comm] using ho7, B6.out.trans hb7⟩)
            clear ho7 hb7 hc5 hconv
            go_wp2_with fail
            go_roundw
            case rel => exact ⟨k + 1, by omega, by go_num, HX.out⟩
            case measure => simp [intOf]; omega
      · rw [hok] at hno; cases hno
    · have HX := Lib.hid (accP_end (l := l) (k := k) (by rw [← HN.out]; exact hlt))
      have HO := Lib.hid (show wr.ownsRow w.heap.size 5 1 _ (put l).length (bys (put l)) by rw [← HX.out]; exact HE.out.1)
      have HB3 := Lib.hid HE.out.2
      go_wp2_with fail
      go_ret
      exact ⟨_, rfl, HO.out, HB3.out⟩
end Go.Proofs.Ytnjnlbcbdhdipaa
