/-
  The walk of sha.ending, and append of a whole slice.
-/
import Derived.Test.YtcccgcahmnmchaaDoorShaJoin
namespace Go.Proofs.YtcccgcahmnmchaaDoor
open Go.RowKit StrM ShaM

theorem run_append_nil {P : Program} {t e : TypeId} {z : Value} {bytes : Nat} (H : OneCell P t e z bytes) (w : World) (ty : TypeId) {base n : Nat} {v : Value} {xs : List Value} (hown : w.ownsRow base e 1 v n xs) (c : Nat) :
    (Builtin.append_ #[t, t] ty #[v, .slice none 0 c]).run P w = .ok v w := by
  obtain ⟨i0, hi, _⟩ := info_parts H.info
  rcases hown.2 with ⟨rfl, rfl⟩ | ⟨g, cap, cur, rfl, _, _, hnc, _⟩
  · simp [Builtin.append_, run_underlying H.under, sizeOf, typeInfo, hi, Builtin.lenOf, Builtin.firstCells]
  · simp [Builtin.append_, run_underlying H.under, sizeOf, typeInfo, hi, Builtin.lenOf, Builtin.firstCells, hnc, storeCells]

/-- append of all elements of a slice that is read as a list, to a row of the call's own. -/
theorem append_all {P : Program} {t e : TypeId} {z : Value} {bytes : Nat} (H : OneCell P t e z bytes) {w : World} {ops : Array Oper} {rest : List Oper} {o : Oper} {a : Act} {Q : Exit → Act → World → Prop} (hgd : o.guard = none) (s x : Operand)
    (ho : o.op = .call { callee := .builtin .append, args := #[s, x], argTypes := #[t, t] })
    (base : Nat) (v : Value) (n : Nat) (xs : List Value) (hs : a.eval s = v) (hown : w.ownsRow base e 1 v n xs)
    (u : Value) (news : List Value) (hx : a.eval x = u) (hu : SeesV w u news) (h1 : ∀ c ∈ news, c.oneCell' = true)
    (hbound : (n + news.length) * bytes ≤ 140737488355328) (hn : n + news.length ≤ maxLen) (hbase : base ≤ w.heap.size)
    (h : ∀ v' w', w'.ownsRow base e 1 v' (n + news.length) (xs ++ news) → Below base w w' → wpList P ops Q rest (a.put o.dst v') w') : wpList P ops Q (o :: rest) a w := by
  obtain ⟨A, c, rfl, hsee⟩ := hu
  rcases A with _ | ad
  · have hnil : news = [] := by
      rcases hsee with h0 | ⟨g, off, h0, _⟩
      · exact h0
      · cases h0
    subst hnil
    refine wpList_plain hgd fun K hK => ?_
    have hr := run_append_nil H w o.type hown c
    have hfin := hK _ _ (h v w (by simpa using hown) (Below.refl _ _))
    unfold Oper.wp execOp
    simp only [ho, resolve, invoke, builtin, Sem.run_bind, Sem.run_pure, Result.andThen_ok, List.map_toArray, List.map_cons, List.map_nil, hs, hx, List.length_nil, hr]
    exact hfin
  · obtain ⟨i0, hi, hz0, hz1, hz2⟩ := info_parts H.info
    refine wpList_append_own w hgd s x t ho base e i0 z 1 bytes H.under hi hz0 hz1 hz2 H.cells (by decide) v n xs hs hown ad news.length c news hx (by simp) (fun j u hj => ?_) h1 hn hbound hbase ?_
    · rcases hsee with h0 | ⟨g, off, h0, _, hc⟩
      · subst h0; simp at hj
      · have e1 := Option.some.inj h0
        subst e1
        have hjl : j < news.length := (List.getElem?_eq_some_iff.1 hj).1
        have := hc j hjl
        rw [List.getElem?_eq_getElem hjl] at hj
        rw [Option.some.inj hj] at this
        by_cases j0 : j = 0
        · subst j0; simpa [Addr.add] using this
        · simpa [Addr.add, j0] using this
    · intro v' w' h2 h3 _
      exact h v' w' h2 ((Below.refl _ _).grown h3 hbase fun k hk => (hown.lt k hk).1)
theorem bys_ones (l : List UInt8) : ∀ c ∈ bys l, c.oneCell' = true := by
  intro c hc
  simp only [bys, List.mem_map] at hc
  obtain ⟨b, _, rfl⟩ := hc
  rfl

/-- What ending and padded have gathered so far. -/
def ERel (w : World) (v : Value) (acc : List UInt8) (wr : World) : Prop := wr.ownsRow w.heap.size 5 1 v acc.length (bys acc) ∧ Below w.heap.size w wr
theorem ERel.step {w wr w' : World} {v v' : Value} {acc : List UInt8} (h : ERel w v acc wr) {c : UInt8} {x : Int} (hx : x = (c.toNat : Int)) (h1 : w'.ownsRow w.heap.size 5 1 v' (acc.length + 1) (bys acc ++ [.int .u8 x])) (h2 : Below w.heap.size wr w') : ERel w v' (acc ++ [c]) w' := by
  subst hx
  refine ⟨?_, h.2.trans h2⟩
  rw [bys_add]
  simpa [bys] using h1
/-- A row's value, as a slice: its length and its capacity. -/
theorem own_slice {w : World} {base n : Nat} {e : TypeId} {v : Value} {xs : List Value} (h : w.ownsRow base e 1 v n xs) : ∃ A cap, v = .slice A n cap ∧ n ≤ cap := by
  rcases h.2 with ⟨rfl, rfl⟩ | ⟨g, cap, cur, rfl, _, _, hnc, _⟩
  · exact ⟨none, 0, rfl, Nat.le_refl _⟩
  · exact ⟨_, cap, rfl, hnc⟩

theorem byteAt_shift (n k : Nat) : ((byteAt n k).toNat : Int) = (n : Int) / 2 ^ (8 * k) % 256 := by
  have e : (256 : Nat) ^ k = 2 ^ (8 * k) := by rw [Nat.pow_mul]
  rw [byteAt_toNat, e]; simp

/-- What ending returns: a row of the call's own. -/
def EndPost (l : List UInt8) (w : World) (e : Ending) (w' : World) : Prop :=
  ∃ v, e = .returned v ∧ w'.ownsRow w.heap.size 5 1 v l.length (bys l) ∧ Below w.heap.size w w'

/-- The length of the slice in a slot (a measure). -/
def sliceLen : Value → Nat | .slice _ n _ => n | _ => 0
def endAt (rest : List UInt8) (size k i : Nat) : List UInt8 := rest ++ (128 :: (List.replicate k 0 ++ (be8 (8 * size)).take i))
theorem endAt_len (rest : List UInt8) (size k i : Nat) (hi : i ≤ 8) : (endAt rest size k i).length = rest.length + 1 + k + i := by
  simp [endAt, be8]; omega
theorem endAt_zero (rest : List UInt8) (size k : Nat) : endAt rest size k 0 ++ [0] = endAt rest size (k + 1) 0 := by
  simp [endAt, List.replicate_succ']
theorem endAt_byte (rest : List UInt8) (size k : Nat) {i : Nat} (hi : i < 8) : endAt rest size k i ++ [byteAt (8 * size) (7 - i)] = endAt rest size k (i + 1) := by
  have e : (be8 (8 * size)).take i ++ [byteAt (8 * size) (7 - i)] = (be8 (8 * size)).take (i + 1) := by
    rcases i with _ | _ | _ | _ | _ | _ | _ | _ | i <;> first | rfl | omega
  simp only [endAt, List.append_assoc, List.cons_append, e]
theorem endAt_done (rest : List UInt8) (size : Nat) : endAt rest size (zeros rest.length) 8 = endL rest size := by
  simp [endAt, endL, be8]

set_option maxHeartbeats 800000 in
set_option maxRecDepth 100000 in
theorem ending_any (v : Value) (r : List UInt8) (size : Nat) (w : World) (hv : SeesV w v (bys r)) (hr : r.length ≤ 1000000) (hs : size ≤ 1000000) :
    Calls Tryd.prog 12 #[v, .int .i64 (size : Int)] w (EndPost (endL r size) w) := by
  obtain ⟨W, hmk, hown, hbel⟩ := made_own oneByte w 128 (by omega) (by unfold maxLen; omega)
  rw [show ((128 : Nat) : Int) = 128 from rfl] at hmk
  have H0 := Lib.hid (show W.ownsRow w.heap.size 5 1 (.slice (some ⟨w.heap.size, 0, none⟩) 0 128) 0 [] from hown)
  have HB := Lib.hid hbel
  have HV := Lib.hid (hv.later hbel)
  have HZ := Lib.hid (hbel.size)
  clear hown hbel hv
  obtain ⟨A, cap, rfl, _⟩ := HV.out
  go_enter Tryd.func12, Tryd.ntmps12
  go_wp2_with (at_builtin; refine append_all oneByte rfl (.tmp 9) (.tmp 10) rfl w.heap.size _ _ _ rfl H0.out _ (bys r) rfl HV.out (bys_ones r) ?a1 ?a2 ?a3 ?_)
  case a1 => rw [bys_len]; omega
  case a2 => rw [bys_len]; unfold maxLen; omega
  case a3 => exact HZ.out
  intro v1 w1 ho1 hb1
  have HE1 := Lib.hid (show ERel w v1 r w1 from ⟨by simpa [bys_len] using ho1, HB.out.trans hb1⟩)
  clear ho1 hb1 hmk
  have hz1 := HE1.out.2.size
  go_wp2_with (at_builtin; refine append_one oneByte rfl _ _ rfl w.heap.size _ _ _ rfl HE1.out.1 (.int .u8 128) rfl rfl ?b1 ?b2 ?b3 ?_)
  case b1 => omega
  case b2 => unfold maxLen; omega
  case b3 => exact hz1
  intro v2 w2 ho2 hb2
  have HE2 := Lib.hid (show ERel w v2 (endAt r size 0 0) w2 from HE1.out.step (c := 128) rfl ho2 hb2)
  clear ho2 hb2 HE1 hz1
  go_wp2_with fail
  go_loopw [5] (fun x wr => ∃ k : Nat, k ≤ zeros r.length ∧ ERel w x (endAt r size k 0) wr) (fun x _ => r.length + 100 - (sliceLen x))
  case atStart => exact ⟨0, Nat.zero_le _, HE2.out⟩
  case round =>
    obtain ⟨k, hk, hE⟩ := hrel
    obtain ⟨A1, cap1, hx, hcap⟩ := own_slice hE.1
    subst hx
    have HE := Lib.hid hE
    have hz := hE.2.size
    have hzl := zeros_lt r.length
    have hln := endAt_len r size k 0 (by omega)
    clear hE HE2
    obtain ⟨m, hm⟩ : ∃ m, m = (endAt r size k 0).length := ⟨_, rfl⟩
    rw [← hm] at hcap hln ⊢
    have HM := Lib.hid hm
    have HLN := Lib.hid hln
    have hm1 : m ≤ 2000000 := by omega
    have hm2 : m < r.length + 100 := by omega
    clear hm
    by_cases hlt : k < zeros r.length
    · have ht : ((m : Int) % 64 != 56) = true := by
        have := zeros_before hlt
        simp only [bne_iff_ne, ne_eq]; omega
      clear hln
      go_wp2_with (at_builtin; refine append_one oneByte rfl _ _ rfl w.heap.size _ m _ rfl (by rw [HM.out]; exact HE.out.1) (.int .u8 0) rfl rfl ?c1 ?c2 ?c3 ?_)
      case c1 => omega
      case c2 => unfold maxLen; omega
      case c3 => exact hz
      intro v3 w3 ho3 hb3
      have HE3 := Lib.hid (show ERel w v3 (endAt r size (k + 1) 0) w3 by
        rw [HM.out] at ho3
        have := HE.out.step (c := 0) rfl ho3 hb3
        rwa [endAt_zero] at this)
      have hv3 : ∃ A3 cap3, v3 = .slice A3 (m + 1) cap3 := by
        obtain ⟨A3, cap3, e, _⟩ := own_slice HE3.out.1
        exact ⟨A3, cap3, by rw [e, show (endAt r size (k + 1) 0).length = m + 1 by rw [endAt_len r size (k + 1) 0 (by omega)]; have := HLN.out; omega]⟩
      obtain ⟨A3, cap3, rfl⟩ := hv3
      clear ho3 hb3
      go_wp2_with fail
      go_roundw
      case rel => exact ⟨k + 1, by omega, HE3.out⟩
      case measure => simp [sliceLen]; omega
    · have HKZ := Lib.hid (show k = zeros r.length by omega)
      have ht : ((m : Int) % 64 != 56) = false := by
        have := zeros_fit r.length
        have := HKZ.out
        simp only [bne_eq_false_iff_eq]; omega
      clear hln
      go_wp2_with fail
      go_loopw [25, 5] (fun y x wr => ∃ i : Nat, i ≤ 8 ∧ y = .int .i64 (i : Int) ∧ ERel w x (endAt r size k i) wr) (fun y _ _ => 8 - (intOf y).toNat)
      case atStart => exact ⟨0, by omega, rfl, by rw [HM.out]; exact HE.out⟩
      case round =>
        obtain ⟨i, hi, rfl, hE⟩ := hrel
        obtain ⟨A2, cap2, hx, hcap2⟩ := own_slice hE.1
        subst hx
        clear HE
        have HE := Lib.hid hE
        have hz2 := hE.2.size
        have hln2 := endAt_len r size k i hi
        clear hE
        by_cases hi8 : i < 8
        · obtain ⟨n2, hn2⟩ : ∃ n, n = (endAt r size k i).length := ⟨_, rfl⟩
          rw [← hn2] at hcap2 hln2 ⊢
          have HN2 := Lib.hid hn2
          have hn3 : n2 ≤ 2000000 := by omega
          clear hn2 hln2
          have p1 : (0 : Int) ≤ 7 - (i : Int) := by omega
          have p2 : (0 : Int) ≤ 8 * (7 - (i : Int)) := by omega
          go_wp2_with (at_builtin; refine append_one oneByte rfl _ _ rfl w.heap.size _ n2 _ rfl (by rw [HN2.out]; exact HE.out.1) _ rfl rfl ?d1 ?d2 ?d3 ?_)
          case d1 => omega
          case d2 => unfold maxLen; omega
          case d3 => exact hz2
          intro v3 w3 ho3 hb3
          have HE3 := Lib.hid (show ERel w v3 (endAt r size k (i + 1)) w3 by
            rw [HN2.out] at ho3
            have := HE.out.step (c := byteAt (8 * size) (7 - i)) (by rw [byteAt_shift]; simp) ho3 hb3
            rwa [endAt_byte r size k hi8] at this)
          clear ho3 hb3 p1 p2
          go_wp2_with fail
          go_roundw
          case rel => exact ⟨i + 1, by omega, by go_num, HE3.out⟩
          case measure => simp [intOf]; omega
        · have HF := Lib.hid (show EndPost (endL r size) w (.returned (.slice A2 (endAt r size k i).length cap2)) wr by
            have e8 : i = 8 := by omega
            subst e8
            have h1 := HE.out
            rw [HKZ.out, endAt_done] at h1 ⊢
            exact ⟨_, rfl, h1.1, h1.2⟩)
          go_wp2_with fail
          go_ret
          exact HF.out
end Go.Proofs.YtcccgcahmnmchaaDoor
