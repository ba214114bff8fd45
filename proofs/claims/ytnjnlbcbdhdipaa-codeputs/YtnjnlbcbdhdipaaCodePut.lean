/-
  The walk of code.Put.
-/
import Derived.Test.YtnjnlbcbdhdipaaCodeRight
import Derived.Test.YtnjnlbcbdhdipaaTextApp
namespace Go.Proofs.Ytnjnlbcbdhdipaa
open Go.RowKit StrM VaryM CodeM

/-- Whatever block is not the row's own stays as it is. -/
def Stays (w w' : World) (v : Value) : Prop := ∀ q o, w.heap[q]? = some o → some q ≠ v.ownBlock → w'.heap[q]? = some o

theorem append_one_k {P : Program} {t e : TypeId} {z : Value} {bytes : Nat} (H : OneCell P t e z bytes) {w : World} {ops : Array Oper} {rest : List Oper} {o : Oper} {a : Act} {Q : Exit → Act → World → Prop} (hgd : o.guard = none) (s x : Operand)
    (ho : o.op = .call { callee := .builtin .append, args := #[s, x], argTypes := #[t, t] })
    (base : Nat) (v : Value) (n : Nat) (xs : List Value) (hs : a.eval s = v) (hown : w.ownsRow base e 1 v n xs)
    (u : Value) (hu : u.oneCell' = true) (hx : a.eval x = .slice (some ⟨w.heap.size, 0, none⟩) 1 1)
    (hbound : (n + 1) * bytes ≤ 140737488355328) (hn : n + 1 ≤ maxLen) (hbase : base ≤ w.heap.size)
    (h : ∀ v' w', w'.ownsRow base e 1 v' (n + 1) (xs ++ [u]) → Below base w w' → Stays w w' v → wpList P ops Q rest (a.put o.dst v') w') : wpList P ops Q (o :: rest) a (w.alloc (.cells #[u] e)) := by
  obtain ⟨i0, hi, hz0, hz1, hz2⟩ := info_parts H.info
  refine wpList_append_own (w.alloc (.cells #[u] e)) hgd s x t ho base e i0 z 1 bytes H.under hi hz0 hz1 hz2 H.cells (by decide) v n xs hs (hown.alloc _) ⟨w.heap.size, 0, none⟩ 1 1 [u] hx rfl (fun j c hj => ?_) (fun c hc => ?_) hn hbound (by simp; omega) ?_
  · match j, hj with
    | 0, hj => simp at hj; subst hj; simp [Addr.add]
  · have : c = u := by simpa using hc
    subst this; exact hu
  · intro v' w' h1 h2 _
    refine h v' w' h1 (((Below.refl _ _).alloc hbase _).grown h2 (by simp; omega) fun k hk => (hown.lt k hk).1) fun q o hq hne => ?_
    have hlt : q < w.heap.size := (Array.getElem?_eq_some_iff.1 hq).1
    rw [h2.block q (by simp; omega) hne, Below.heap_alloc w _ q hlt]
    exact hq

theorem append_all_k {P : Program} {t e : TypeId} {z : Value} {bytes : Nat} (H : OneCell P t e z bytes) {w : World} {ops : Array Oper} {rest : List Oper} {o : Oper} {a : Act} {Q : Exit → Act → World → Prop} (hgd : o.guard = none) (s x : Operand)
    (ho : o.op = .call { callee := .builtin .append, args := #[s, x], argTypes := #[t, t] })
    (base : Nat) (v : Value) (n : Nat) (xs : List Value) (hs : a.eval s = v) (hown : w.ownsRow base e 1 v n xs)
    (u : Value) (news : List Value) (hx : a.eval x = u) (hu : SeesV w u news) (h1 : ∀ c ∈ news, c.oneCell' = true)
    (hbound : (n + news.length) * bytes ≤ 140737488355328) (hn : n + news.length ≤ maxLen) (hbase : base ≤ w.heap.size)
    (h : ∀ v' w', w'.ownsRow base e 1 v' (n + news.length) (xs ++ news) → Below base w w' → Stays w w' v → wpList P ops Q rest (a.put o.dst v') w') : wpList P ops Q (o :: rest) a w := by
  obtain ⟨A, c, rfl, hsee⟩ := hu
  rcases A with _ | ad
  · have hnil : news = [] := by
      rcases hsee with h0 | ⟨g, off, h0, _⟩
      · exact h0
      · cases h0
    subst hnil
    refine wpList_plain hgd fun K hK => ?_
    have hr := run_append_nil H w o.type hown c
    have hfin := hK _ _ (h v w (by simpa using hown) (Below.refl _ _) (fun _ _ hq _ => hq))
    unfold Oper.wp execOp
    simp only [ho, resolve, invoke, builtin, Sem.run_bind, Sem.run_pure, Result.andThen_ok, List.map_toArray, List.map_cons, List.map_nil, hs, hx, List.length_nil, hr]
    exact hfin
  · obtain ⟨i0, hi, hz0, hz1, hz2⟩ := info_parts H.info
    refine wpList_append_own w hgd s x t ho base e i0 z 1 bytes H.under hi hz0 hz1 hz2 H.cells (by decide) v n xs hs hown ad news.length c news hx (by simp) (fun j u hj => ?_) h1 hn hbound hbase ?_
    · rcases hsee with h0 | ⟨g, off, h0, _, hc⟩
      · subst h0; simp at hj
      · have e1 := Option.some.inj h0
        subst e1
        have hjl : j < news.length := (List.getElem?_eq_some_iff.1 hj).1
        have := hc j hjl
        rw [List.getElem?_eq_getElem hjl] at hj
        rw [Option.some.inj hj] at this
        by_cases j0 : j = 0
        · subst j0; simpa [Addr.add] using this
        · simpa [Addr.add, j0] using this
    · intro v' w' h2 h3 _
      refine h v' w' h2 ((Below.refl _ _).grown h3 hbase fun k hk => (hown.lt k hk).1) fun q o hq hne => ?_
      rw [h3.block q (Array.getElem?_eq_some_iff.1 hq).1 hne]
      exact hq

/-- The block of a value that a loop holds. -/
def Boxed (w : World) (q : Nat) (u : V) : Prop := w.heap[q]? = some (.cells #[.int .i64 u.k, .int .i64 u.n, .string u.t] 37 (0, 0))
theorem Boxed.made (w : World) (u : V) : Boxed (w.alloc (.cells #[.int .i64 u.k, .int .i64 u.n, .string u.t] 37)) w.heap.size u := heap_alloc_new w _
theorem Boxed.cells {w : World} {q : Nat} {u : V} (h : Boxed w q u) : w.cell? ⟨q, 0, none⟩ = some (.int .i64 u.k) ∧ w.cell? ⟨q, 1, none⟩ = some (.int .i64 u.n) ∧ w.cell? ⟨q, 2, none⟩ = some (.string u.t) := by
  unfold Boxed at h
  simp [World.cell?, h]
theorem Boxed.later {w w' : World} {q : Nat} {u : V} (h : Boxed w q u) (hb : Below w.heap.size w w') : Boxed w' q u := by
  unfold Boxed at h ⊢
  rw [hb.block q (Array.getElem?_eq_some_iff.1 h).1]; exact h
theorem Boxed.stays {w w' : World} {q : Nat} {u : V} {v : Value} {base n : Nat} {xs : List Value} (h : Boxed w q u) (hown : w.ownsRow base 5 1 v n xs) (hs : Stays w w' v) : Boxed w' q u := by
  refine hs q _ h fun e => ?_
  rcases hown.2 with ⟨rfl, _⟩ | ⟨g, cap, cur, rfl, _, hg, _⟩
  · simp [Value.ownBlock] at e
  · simp only [Value.ownBlock, Option.some.injEq] at e
    subst e
    unfold Boxed at h
    rw [h] at hg
    simp at hg

/-- What Put has gathered before value k. -/
def accP (l : List V) (k : Nat) : List UInt8 := putL l.length ++ encs (l.take k)
theorem accP_next {l : List V} {k : Nat} (hk : k < l.length) : accP l (k + 1) = accP l k ++ enc l[k] := by
  rw [accP, accP, List.take_succ_eq_append_getElem hk, encs_add, encs_one, List.append_assoc]
theorem accP_end {l : List V} {k : Nat} (hk : ¬ k < l.length) : accP l k = put l := by
  rw [accP, List.take_of_length_le (by omega), put]
theorem accP_len {l : List V} (k : Nat) (hr : right l = true) (hf : ∀ v ∈ l, Fits v) : (accP l k).length ≤ 5000000 := by
  have h := put_len hr hf
  rw [put] at h
  have h2 : encs l = encs (l.take k) ++ encs (l.drop k) := by rw [← encs_add, List.take_append_drop]
  rw [h2] at h
  simp only [accP, List.length_append] at h ⊢
  omega
theorem right_at {l : List V} (hr : right l = true) {k : Nat} (hk : k < l.length) : ok l[k] = true := by
  simp only [right, Bool.and_eq_true] at hr
  exact List.all_eq_true.1 hr.2 _ (List.getElem_mem hk)

/-- What Put returns. -/
def PutPost (l : List V) (w : World) (e : Ending) (w' : World) : Prop :=
  ∃ v, e = .returned (.tuple #[v, .int .i64 (if right l then 0 else 1)]) ∧ (if right l then w'.ownsRow w.heap.size 5 1 v (put l).length (bys (put l)) else v = .slice none 0 0) ∧ Below w.heap.size w w'

set_option maxHeartbeats 2000000 in
set_option maxRecDepth 100000 in
theorem puts_any (v : Value) (l : List V) (w : World) (hs : SeesS w v l) (hf : ∀ v ∈ l, Fits v) :
    Calls Try.prog 8 #[v] w (PutPost l w) := by
  obtain ⟨len, hn⟩ : ∃ len, len = l.length := ⟨_, rfl⟩
  obtain ⟨a, cap, rfl, -⟩ := id hs
  have HS := Lib.hid hs
  have RI := Lib.hid (rights_any _ l w hs)
  rw [← hn] at HS RI ⊢
  have HN := Lib.hid hn
  have HFI := Lib.hid hf
  clear hs hn hf
  cases hR : right l with
  | false =>
    rw [hR] at RI
    have HP := Lib.hid (show ∀ w', Below w.heap.size w w' → PutPost l w (.returned (.tuple #[.slice none 0 0, .int .i64 1])) w' from fun w' hb => ⟨_, by rw [hR]; rfl, by rw [hR]; rfl, hb⟩)
    clear hR
    go_enter Try.func8, Try.ntmps8
    go_wp2_with fail
    refine (RI.out).mono ?_
    rintro e w1 ⟨rfl, hb⟩
    have HB := Lib.hid hb
    clear hb
    go_wp2_with fail
    go_ret2
    exact HP.out _ HB.out
  | true =>
    rw [hR] at RI
    have HP := Lib.hid (show ∀ v w', w'.ownsRow w.heap.size 5 1 v (put l).length (bys (put l)) → Below w.heap.size w w' → PutPost l w (.returned (.tuple #[v, .int .i64 0])) w' from fun v w' ho hb => ⟨v, by rw [hR]; rfl, by rw [hR]; exact ho, hb⟩)
    have HR := Lib.hid hR
    have hL : len ≤ 1000 := by
      rw [HN.out]
      simp only [right, Bool.and_eq_true, decide_eq_true_eq] at hR
      exact hR.1
    have PL := Lib.hid (fun w => vput_any len w (by omega))
    clear hR
    go_enter Try.func8, Try.ntmps8
    go_wp2_with fail
    refine (RI.out).mono ?_
    rintro e w1 ⟨rfl, hb⟩
    have HB := Lib.hid hb
    clear hb
    go_wp2_with fail
    refine (PL.out _).mono ?_
    rintro e w2 ⟨v2, rfl, ho, hb⟩
    have HE := Lib.hid (show ERel w v2 (accP l 0) w2 by
      refine ⟨?_, HB.out.trans (hb.mono HB.out.size)⟩
      rw [show accP l 0 = putL len by rw [HN.out]; simp [accP, encs]]
      exact own_base ho HB.out.size)
    clear ho hb
    go_wp2_with fail
    go_loopw [4, 16] (fun x i wr => ∃ k : Nat, k ≤ len ∧ i = .int .i64 (k : Int) ∧ ERel w x (accP l k) wr) (fun _ i _ => len - (intOf i).toNat)
    case atStart => exact ⟨0, Nat.zero_le _, rfl, HE.out⟩
    case round =>
      clear HE
      obtain ⟨k, hk, rfl, hE⟩ := hrel
      have HE := Lib.hid hE
      clear hE
      by_cases hlt : k < len
      · have hkl : k < l.length := by rw [← HN.out]; exact hlt
        obtain ⟨g, off, rfl, hg, hc1, hc2, hc3⟩ := (HS.out.later HE.out.2).cells hkl
        have HAN := Lib.hid (accP_next hkl)
        have HAL := Lib.hid (show (accP l k).length ≤ 5000000 from accP_len k HR.out HFI.out)
        have HAL2 := Lib.hid (show (accP l (k + 1)).length ≤ 5000000 from accP_len (k + 1) HR.out HFI.out)
        have hok := right_at HR.out hkl
        have hfi := HFI.out _ (List.getElem_mem hkl)
        obtain ⟨u, hu⟩ : ∃ u, u = l[k] := ⟨_, rfl⟩
        rw [← hu] at hc1 hc2 hc3 hok hfi HAN
        obtain ⟨acc, hacc⟩ : ∃ acc, acc = accP l k := ⟨_, rfl⟩
        rw [← hacc] at HE HAN HAL
        clear hu hacc
        have B0 := Lib.hid (HE.out.2.alloc HE.out.2.size (.cells #[.int .i64 u.k, .int .i64 u.n, .string u.t] 37))
        have O0 := Lib.hid (HE.out.1.alloc (.cells #[.int .i64 u.k, .int .i64 u.n, .string u.t] 37))
        have X0 := Lib.hid (Boxed.made wr u)
        have h1 : (acc.length + 1) * 1 ≤ 140737488355328 := by have := HAL.out; omega
        have h2 : acc.length + 1 ≤ maxLen := by have := HAL.out; unfold maxLen; omega
        have h3 : w.heap.size ≤ (wr.alloc (.cells #[.int .i64 u.k, .int .i64 u.n, .string u.t] 37)).heap.size := B0.out.size
        rcases told_ok u with ⟨_, hw⟩ | ⟨hno, _⟩
        · obtain ⟨uk, un, ut⟩ := u
          rcases hw with ⟨hk1, ht0⟩ | ⟨hk2, hn0, hsz⟩
          · have hk1 : uk = 1 := hk1
            subst hk1
            have HFU := Lib.hid hfi
            have ZI := Lib.hid (fun w => zig_any un w HFU.out.1 HFU.out.2)
            obtain ⟨z, hz⟩ : ∃ z : Nat, (z : Int) = zig un := ⟨(zig un).toNat, Int.toNat_of_nonneg (zig_range HFU.out.1 HFU.out.2).1⟩
            have hz2 : zig un ≤ 18446744073709551615 := (zig_range HFU.out.1 HFU.out.2).2
            have PZ := Lib.hid (fun w => vput_any z w (by omega))
            rw [← hz] at ZI
            have HEN := Lib.hid (show accP l (k + 1) = acc ++ [1] ++ putL z by rw [HAN.out, enc_num rfl]; simp only; rw [← hz]; simp)
            clear hz hz2 hok hfi ht0
            simp only at hc1 hc2 hc3
            go_wp2_with (at_builtin; refine append_one_k oneByte rfl _ _ rfl w.heap.size _ _ _ rfl O0.out (.int .u8 1) rfl (by simp [Act.eval]) h1 h2 h3 ?_)
            intro v3 w3 ho hb hst
            have X1 := Lib.hid (X0.out.stays O0.out hst)
            have O1 := Lib.hid (show w3.ownsRow w.heap.size 5 1 v3 (acc ++ [1]).length (bys (acc ++ [1])) by simpa [bys] using ho)
            have B1 := Lib.hid (B0.out.trans hb)
            obtain ⟨x0, x1, x2⟩ := X1.out.cells
            simp only at x0 x1 x2
            clear ho hb hst
            go_wp2_with fail
            refine (ZI.out _).mono ?_
            rintro e w' ⟨rfl, rfl⟩
            go_wp2_with fail
            refine (PZ.out _).mono ?_
            rintro e w4 ⟨v4, rfl, ho, hb⟩
            have O2 := Lib.hid (own_below O1.out hb)
            have S2 := Lib.hid (SeesV.of_own ho)
            have B2 := Lib.hid (B1.out.trans (hb.mono B1.out.size))
            have hln : (acc ++ [1]).length + (bys (putL z)).length ≤ 5000000 := by have := HAL2.out; rw [HEN.out, List.length_append] at this; rw [bys_len]; exact this
            have hsz := B2.out.size
            clear ho hb x0 x1 x2
            go_wp2_with (at_builtin; refine append_all oneByte rfl _ _ rfl w.heap.size _ _ _ rfl O2.out _ (bys (putL z)) rfl S2.out (bys_ones _) ?a1 ?a2 ?a3 ?_)
            case a1 => omega
            case a2 => unfold maxLen; omega
            case a3 => exact hsz
            intro v5 w5 ho hb
            have HX := Lib.hid (show ERel w v5 (accP l (k + 1)) w5 by
              refine ⟨?_, B2.out.trans hb⟩
              rw [HEN.out, bys_add, List.length_append, show (acc ++ [(1 : UInt8)]).length = acc.length + 1 by simp]
              rw [bys_len] at ho
              exact ho)
            clear ho hb
            go_wp2_with fail
            go_roundw
            case rel => exact ⟨k + 1, by omega, by go_num, HX.out⟩
            case measure => simp [intOf]; omega
          · have hk2 : uk = 2 := hk2
            have hn0 : un = 0 := hn0
            have hsz : ut.size ≤ 4096 := hsz
            subst hk2 hn0
            have PZ := Lib.hid (fun w => vput_any ut.size w (by omega))
            have HEN := Lib.hid (show accP l (k + 1) = acc ++ [2] ++ putL ut.size ++ ut.data.toList by rw [HAN.out, enc_text (show (2 : Int) ≠ 1 by decide)]; simp)
            clear hok hfi
            simp only at hc1 hc2 hc3
            go_wp2_with (at_builtin; refine append_one_k oneByte rfl _ _ rfl w.heap.size _ _ _ rfl O0.out (.int .u8 2) rfl (by simp [Act.eval]) h1 h2 h3 ?_)
            intro v3 w3 ho hb hst
            have X1 := Lib.hid (X0.out.stays O0.out hst)
            have O1 := Lib.hid (show w3.ownsRow w.heap.size 5 1 v3 (acc ++ [2]).length (bys (acc ++ [2])) by simpa [bys] using ho)
            have B1 := Lib.hid (B0.out.trans hb)
            obtain ⟨x0, x1, x2⟩ := X1.out.cells
            simp only at x0 x1 x2
            clear ho hb hst
            go_wp2_with fail
            refine (PZ.out _).mono ?_
            rintro e w4 ⟨v4, rfl, ho, hb⟩
            have O2 := Lib.hid (own_below O1.out hb)
            have X2 := Lib.hid (X1.out.later hb)
            have S2 := Lib.hid (SeesV.of_own ho)
            have B2 := Lib.hid (B1.out.trans (hb.mono B1.out.size))
            have hln : (acc ++ [2]).length + (putL ut.size).length + ut.size ≤ 5000000 := by have := HAL2.out; rw [HEN.out, List.length_append, List.length_append, length_bytes] at this; exact this
            have hsz2 := B2.out.size
            clear ho hb x0 x1 x2
            go_wp2_with (at_builtin; refine append_all_k oneByte rfl _ _ rfl w.heap.size _ _ _ rfl O2.out _ (bys (putL ut.size)) rfl S2.out (bys_ones _) ?b1 ?b2 ?b3 ?_)
            case b1 => rw [bys_len]; omega
            case b2 => rw [bys_len]; unfold maxLen; omega
            case b3 => exact hsz2
            intro v5 w5 ho hb hst
            have X3 := Lib.hid (X2.out.stays O2.out hst)
            have O3 := Lib.hid (show w5.ownsRow w.heap.size 5 1 v5 (acc ++ [2] ++ putL ut.size).length (bys (acc ++ [2] ++ putL ut.size)) by
              rw [bys_add, List.length_append, show (acc ++ [(2 : UInt8)]).length = acc.length + 1 by simp]
              rw [bys_len] at ho
              exact ho)
            have B3 := Lib.hid (B2.out.trans hb)
            have hsz3 := B3.out.size
            obtain ⟨x0, x1, x2⟩ := X3.out.cells
            simp only at x0 x1 x2
            clear ho hb hst
            go_wp2_with (at_builtin; refine append_text rfl _ _ rfl w.heap.size _ _ _ rfl O3.out ut rfl ?c1 ?c2 ?_)
            case c1 => rw [List.length_append]; omega
            case c2 => exact hsz3
            intro v6 w6 ho hb
            have HX := Lib.hid (show ERel w v6 (accP l (k + 1)) w6 by
              refine ⟨?_, B3.out.trans hb⟩
              have e1 : acc ++ 2 :: (putL ut.size ++ ut.data.toList) = accP l (k + 1) := by rw [HEN.out]; simp
              have e2 : (accP l (k + 1)).length = acc.length + ((putL ut.size).length + 1) + ut.size := by
                rw [← e1]; simp only [List.length_append, List.length_cons, length_bytes]; omega
              rw [← e1] at e2 ⊢
              rw [e2]
              simpa using ho)
            clear ho hb x0 x1 x2
            go_wp2_with fail
            go_roundw
            case rel => exact ⟨k + 1, by omega, by go_num, HX.out⟩
            case measure => simp [intOf]; omega
        · rw [hok] at hno; cases hno
      · have HX := Lib.hid (accP_end (l := l) (k := k) (by rw [← HN.out]; exact hlt))
        have HO := Lib.hid (show wr.ownsRow w.heap.size 5 1 _ (put l).length (bys (put l)) by rw [← HX.out]; exact HE.out.1)
        have HB3 := Lib.hid HE.out.2
        go_wp2_with fail
        go_ret2
        exact HP.out _ _ HO.out HB3.out
end Go.Proofs.Ytnjnlbcbdhdipaa
