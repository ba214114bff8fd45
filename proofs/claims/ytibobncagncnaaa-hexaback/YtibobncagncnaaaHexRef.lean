/-
  The walks of the reference's digit, Put, Value and Get for hexadecimal digits.
-/
import Derived.Test.YtibobncagncnaaaHexGet
import Derived.Deep.RegionHeld3
namespace Go.Proofs.Ytibobncagncnaaa
open Go.RowKit StrM

theorem ret_u8 {a b : Int} (h : a = b) : Ending.returned (.int .u8 a) = .returned (.int .u8 b) := by rw [h]
theorem hexD_small {n : Nat} (h : n < 10) : ((hexD n).toNat : Int) = 48 + (n : Int) := by
  simp only [hexD, h, if_true, UInt8.toNat_ofNat']; omega
theorem hexD_big {n : Nat} (h : ¬ n < 10) (h' : n < 16) : ((hexD n).toNat : Int) = 87 + (n : Int) := by
  simp only [hexD, h, if_false, UInt8.toNat_ofNat']; omega

set_option maxHeartbeats 400000 in
theorem digit_any (n : Nat) (w : World) (h : n < 16) :
    Calls Try.prog 15 #[.int .i64 (n : Int)] w fun e w' => e = .returned (.int .u8 ((hexD n).toNat : Int)) ∧ w = w' := by
  by_cases h1 : n < 10
  · have H := Lib.hid (hexD_small h1)
    go_enter Try.func15, Try.ntmps15
    go_wp2_with fail
    go_ret
    exact ⟨ret_u8 (by rw [H.out]), rfl⟩
  · have H := Lib.hid (hexD_big h1 h)
    go_enter Try.func15, Try.ntmps15
    go_wp2_with fail
    go_ret
    exact ⟨ret_u8 (by rw [H.out]), rfl⟩

set_option maxHeartbeats 1000000 in
theorem rput_any (v : Value) (l : List UInt8) (w : World) (hs : SeesV w v (bys l)) (hl : l.length ≤ 1000000) :
    Calls Try.prog 9 #[v] w fun e w' => e = .returned (.string (hexS l)) ∧ Below w.heap.size w w' := by
  obtain ⟨n, hn⟩ : ∃ n, n = l.length := ⟨_, rfl⟩
  obtain ⟨a, cap, rfl, -⟩ := id hs
  have HS := Lib.hid hs
  rw [bys_len] at HS ⊢
  rw [← hn] at HS hl ⊢
  have HN := Lib.hid hn
  clear hs hn
  go_enter Try.func9, Try.ntmps9
  go_wp2_with fail
  go_loopw [3, 4] (fun v i wr => ∃ k : Nat, k ≤ n ∧ i = .int .i64 k ∧ HexRel w l k v wr) (fun _ i _ => n - (intOf i).toNat)
  case atStart => exact ⟨0, Nat.zero_le _, rfl, by simpa [HexRel, bys, hexL] using ⟨own_made w _, below_made w _⟩⟩
  case round =>
    obtain ⟨k, hk, rfl, hR⟩ := hrel
    have HR := Lib.hid hR
    clear hR
    by_cases hlt : k < n
    · have hkl : k < l.length := by rw [← HN.out]; exact hlt
      obtain ⟨g, off, rfl, hg, hc0⟩ := HS.out.cell hkl
      have hc := (HR.out.2.cell (p := ⟨g, off + k, none⟩) hg).trans hc0
      clear hc0
      generalize hcc : l[k] = c at *
      have HCC := Lib.hid hcc
      clear hcc
      have hb := c.toNat_lt
      obtain ⟨p, hp⟩ : ∃ p, p = c.toNat / 16 := ⟨_, rfl⟩
      obtain ⟨q, hq⟩ : ∃ q, q = c.toNat % 16 := ⟨_, rfl⟩
      have hd1 : (c.toNat : Int).tdiv 16 = (p : Int) := by rw [Int.tdiv_eq_ediv_of_nonneg (by omega)]; omega
      have hd2 : (c.toNat : Int).tmod 16 = (q : Int) := by rw [Int.tmod_eq_emod_of_nonneg (by omega)]; omega
      have hp1 : p < 16 := by omega
      have hq1 : q < 16 := by omega
      have HP := Lib.hid hp
      have HQ := Lib.hid hq
      clear hp hq
      have h1 : (2 * k + 2) * 1 ≤ 140737488355328 := by omega
      have h2 : 2 * k + 2 ≤ maxLen := by unfold maxLen; omega
      have h3 : w.heap.size ≤ wr.drew.heap.size := HR.out.2.size
      have k0 : (0 : Int) ≤ (k : Int) := by omega
      have k1 : (k : Int) < (n : Int) := by omega
      have e0 : IntKind.i64.wrap (c.toNat : Int) = (c.toNat : Int) := IntWalk.i64_in _ (by omega)
      have e1 : IntKind.i64.wrap (p : Int) = (p : Int) := IntWalk.i64_in _ (by omega)
      have e2 : IntKind.i64.wrap (q : Int) = (q : Int) := IntWalk.i64_in _ (by omega)
      go_wp2_with fail
      go_region_held3 (fun w' => w'.cell? ⟨g, off + k, none⟩ = some (.int .u8 (c.toNat : Int))) (first | go_keep | exact (hbw.cell (p := ⟨g, off + k, none⟩) hg).trans hc)
        (first
          | (go_at_call_of 15 p; refine (digit_any p _ hp1).mono ?_; rintro e w' ⟨rfl, rfl⟩)
          | (go_at_call_of 15 q; refine (digit_any q _ hq1).mono ?_; rintro e w' ⟨rfl, rfl⟩)
          | (refine step_append_two oneByte rfl (.tmp 12) (.tmp 27) rfl w.heap.size _ (2 * k) _ (by simp [Act.eval]) HR.out.1.drew _ _ rfl rfl (by simp [Act.eval]) h1 h2 h3 ?_; intro v' w2 ho hbw))
      all_goals
        have HR' := Lib.hid (HR.out.step hkl (HR.out.2.trans (below_drew _ HR.out.2.size)) (x := ((hexD p).toNat : Int)) (by rw [HCC.out, HP.out]) (y := ((hexD q).toNat : Int)) (by rw [HCC.out, HQ.out]) ho hbw)
        clear ho hbw e0 e1 e2
        go_wp2_with fail
        go_roundw
        case rel => exact ⟨k + 1, by omega, by go_num, HR'.out⟩
        case measure => simp [intOf]; omega
    · have hcv := run_text_own HR.out.1
      have hfin : (⟨(hexL (l.take k)).toArray⟩ : ByteArray) = hexS l := by
        have := HN.out
        rw [List.take_of_length_le (by omega)]; rfl
      rw [hfin] at hcv
      obtain ⟨S, hS⟩ : ∃ S, S = hexS l := ⟨_, rfl⟩
      rw [← hS] at hcv
      have HF := Lib.hid hS
      clear hfin hS
      go_wp2_with fail
      go_ret
      exact ⟨ret_str HF.out, HR.out.2⟩

/-! What the reference's Value tries. -/
theorem try_small_all : ∀ i : Nat, i < 16 → ∀ n, n < 256 → (hexD i == UInt8.ofNat n) = true → hexV (UInt8.ofNat n) = i := by decide +kernel
theorem try_big_all : ∀ i : Nat, i < 16 → ∀ n, n < 256 → 9 < i → (hexD i).toNat - 32 = (UInt8.ofNat n).toNat → hexV (UInt8.ofNat n) = i := by decide +kernel
theorem try_none_all : ∀ i : Nat, i < 16 → ∀ n, n < 256 → hexV (UInt8.ofNat n) = i → (hexD i).toNat = (UInt8.ofNat n).toNat ∨ (9 < i ∧ (hexD i).toNat - 32 = (UInt8.ofNat n).toNat) := by decide +kernel
theorem try_small {i : Nat} (hi : i < 16) (c : UInt8) : (hexD i == c) = true → hexV c = i := forall_byte (p := fun c => (hexD i == c) = true → hexV c = i) (try_small_all i hi) c
theorem try_big {i : Nat} (hi : i < 16) (c : UInt8) : 9 < i → (hexD i).toNat - 32 = c.toNat → hexV c = i := forall_byte (p := fun c => 9 < i → (hexD i).toNat - 32 = c.toNat → hexV c = i) (try_big_all i hi) c
theorem try_none {i : Nat} (hi : i < 16) (c : UInt8) : hexV c = i → (hexD i).toNat = c.toNat ∨ (9 < i ∧ (hexD i).toNat - 32 = c.toNat) := forall_byte (p := fun c => hexV c = i → (hexD i).toNat = c.toNat ∨ (9 < i ∧ (hexD i).toNat - 32 = c.toNat)) (try_none_all i hi) c

theorem ret_int64 {a b : Int} (h : a = b) : Ending.returned (.int .i64 a) = .returned (.int .i64 b) := by rw [h]

set_option maxHeartbeats 1000000 in
theorem rvalue_any (c : UInt8) (w : World) :
    Calls Try.prog 14 #[.int .u8 (c.toNat : Int)] w fun e w' => e = .returned (.int .i64 (hexV c)) ∧ w = w' := by
  obtain ⟨z, hz⟩ : ∃ z : Int, z = (c.toNat : Int) := ⟨_, rfl⟩
  rw [← hz]
  have HZ := Lib.hid hz
  clear hz
  go_enter Try.func14, Try.ntmps14
  go_wp2_with fail
  go_loop [3] (fun x => ∃ i : Nat, i ≤ 16 ∧ x = .int .i64 (i : Int) ∧ ∀ j : Nat, j < i → hexV c ≠ j) (fun x => 16 - (intOf x).toNat)
  case atStart => exact ⟨0, by omega, rfl, fun j hj => by omega⟩
  case round =>
    obtain ⟨i, hi, rfl, hno⟩ := hrel
    have HNO := Lib.hid hno
    clear hno
    by_cases hlt : i < 16
    · have hd := fun w => digit_any i w hlt
      obtain ⟨d, hdd⟩ : ∃ d : Int, d = ((hexD i).toNat : Int) := ⟨_, rfl⟩
      rw [← hdd] at hd
      have HD := Lib.hid hd
      have HDD := Lib.hid hdd
      clear hd hdd
      cases hb : (d == z)
      · by_cases h9 : i ≤ 9
        · have HN := Lib.hid (show ∀ j : Nat, j < i + 1 → hexV c ≠ j by
            intro j hj he
            by_cases hji : j < i
            · exact HNO.out j hji he
            · have : j = i := by omega
              subst this
              have h1 := HZ.out
              have h2 := HDD.out
              have h3 := beq_eq_false_iff_ne.1 hb
              rcases try_none hlt c he with h | ⟨h, _⟩ <;> omega)
          have h9' : decide ((9 : Int) < (i : Int)) = false := by simp; omega
          have h9n : decide (9 < i) = false := by simp; omega
          go_wp2_with fail
          refine (HD.out _).mono ?_
          rintro e w' ⟨rfl, rfl⟩
          go_wp2_with fail
          go_round
          case rel => exact ⟨i + 1, by omega, by go_num, HN.out⟩
          case measure => simp [intOf]; omega
        · have h9' : (9 : Int) < (i : Int) := by omega
          have h9n : 9 < i := by omega
          have hdb : 97 ≤ d ∧ d ≤ 102 := by
            have h1 := HDD.out
            rw [hexD_big (by omega) hlt] at h1
            omega
          have hd1 := hdb.1
          have hd2 := hdb.2
          clear hdb
          cases hb2 : (d - 32 == z)
          · have HN := Lib.hid (show ∀ j : Nat, j < i + 1 → hexV c ≠ j by
              intro j hj he
              by_cases hji : j < i
              · exact HNO.out j hji he
              · have : j = i := by omega
                subst this
                have h1 := HZ.out
                have h2 := HDD.out
                have h3 := beq_eq_false_iff_ne.1 hb
                have h4 := beq_eq_false_iff_ne.1 hb2
                rcases try_none hlt c he with h | ⟨_, h⟩ <;> omega)
            go_wp2_with fail
            refine (HD.out _).mono ?_
            rintro e w' ⟨rfl, rfl⟩
            go_wp2_with fail
            refine (HD.out _).mono ?_
            rintro e w' ⟨rfl, rfl⟩
            go_wp2_with fail
            go_round
            case rel => exact ⟨i + 1, by omega, by go_num, HN.out⟩
            case measure => simp [intOf]; omega
          · have HE := Lib.hid (show hexV c = i by
              have h1 := HZ.out
              have h2 := HDD.out
              have h4 := beq_iff_eq.1 hb2
              exact try_big hlt c h9n (by omega))
            go_wp2_with fail
            refine (HD.out _).mono ?_
            rintro e w' ⟨rfl, rfl⟩
            go_wp2_with fail
            refine (HD.out _).mono ?_
            rintro e w' ⟨rfl, rfl⟩
            go_wp2_with fail
            go_ret
            exact ⟨ret_int64 HE.out.symm, rfl⟩
      · have HE := Lib.hid (show hexV c = i by
          have h1 := HZ.out
          have h2 := HDD.out
          have h4 := beq_iff_eq.1 hb
          refine try_small hlt c ?_
          rw [beq_iff_eq]
          exact toNat_eq (by omega))
        go_wp2_with fail
        refine (HD.out _).mono ?_
        rintro e w' ⟨rfl, rfl⟩
        go_wp2_with fail
        go_ret
        exact ⟨ret_int64 HE.out.symm, rfl⟩
    · have HE := Lib.hid (show hexV c = -1 by
        have := hexV_range c
        by_cases h : hexV c = -1
        · exact h
        · exact absurd (show hexV c = ((hexV c).toNat : Int) by omega) (HNO.out (hexV c).toNat (by omega)))
      go_wp2_with fail
      go_ret
      exact ⟨ret_int64 HE.out.symm, rfl⟩

set_option maxHeartbeats 1000000 in
theorem rget_any (s : ByteArray) (w : World) (hs : s.size ≤ 1000000) : Calls Try.prog 7 #[.string s] w (GetPost s.data.toList w) := by
  obtain ⟨l, hl⟩ : ∃ l, l = s.data.toList := ⟨_, rfl⟩
  rw [← hl]
  have HLL := Lib.hid (show l.length = s.size by rw [hl, length_bytes])
  have hlat : ∀ i (h : i < l.length) (h' : i < s.size), s[i] = l[i] := by
    intro i h h'; subst hl; rfl
  have HAT := Lib.hid hlat
  clear hl hlat
  go_enter Try.func7, Try.ntmps7
  go_wp2_with fail
  go_loopw [4, 5] (fun v x wr => ∃ (i : Nat) (acc : List UInt8), i ≤ s.size ∧ x = .int .i64 (i : Int) ∧ GetRel w l i acc v wr) (fun _ x _ => s.size - (intOf x).toNat)
  case atStart => exact ⟨0, [], Nat.zero_le _, rfl, ⟨own_made w _, below_made w _, HexAt.start _, rfl⟩⟩
  case round =>
    obtain ⟨i, acc, hi, rfl, hR⟩ := hrel
    have HAC := Lib.hid hR.2.2.2
    have hal : acc.length ≤ 1000000 := by have := HAC.out; omega
    have hsz := hR.2.1.size
    have HR := Lib.hid hR
    clear hR
    by_cases hlt1 : i + 1 < s.size
    · have hlt : i < s.size := by omega
      have hil : i + 1 < l.length := by rw [HLL.out]; exact hlt1
      have hv1 : ∀ w, Calls Try.prog 14 #[.int .u8 (s[i].toNat : Int)] w fun e w' => e = .returned (.int .i64 (hexV l[i])) ∧ w = w' := by
        intro w
        rw [← HAT.out i (by omega) hlt]
        exact rvalue_any s[i] w
      have hv2 : ∀ w, Calls Try.prog 14 #[.int .u8 (s[i + 1].toNat : Int)] w fun e w' => e = .returned (.int .i64 (hexV l[i + 1])) ∧ w = w' := by
        intro w
        rw [← HAT.out (i + 1) hil hlt1]
        exact rvalue_any s[i + 1] w
      have x1 := hexV_range l[i]
      have x2 := hexV_range l[i + 1]
      obtain ⟨x, hx⟩ : ∃ x, x = hexV l[i] := ⟨_, rfl⟩
      obtain ⟨y, hy⟩ : ∃ y, y = hexV l[i + 1] := ⟨_, rfl⟩
      rw [← hx] at hv1 x1
      rw [← hy] at hv2 x2
      have V1 := Lib.hid hv1
      have V2 := Lib.hid hv2
      have HX := Lib.hid hx
      have HY := Lib.hid hy
      clear hv1 hv2 hx hy
      have h4 : (i : Int) + 1 < (s.size : Int) := by omega
      by_cases hxb : x < 0
      · have HB := Lib.hid (fun n => get_bad (w := w) (HR.out.2.2.1.bad hil (.inl (by rw [← HX.out]; exact hxb))) (HR.out.2.1.trans ((below_drewN wr n).mono hsz)))
        have h1 : IntKind.i64.wrap ((i : Int) + 1) = (i : Int) + 1 := IntWalk.i64_in _ (by omega)
        have h2 : 0 ≤ (i : Int) + 1 := by omega
        have h3 : ((i : Int) + 1).toNat = i + 1 := by omega
        go_wp2_with fail
        go_quiet (first | (go_at_call 14; with_reducible exact quiet_same (V1.out _)) | (go_at_call 14; with_reducible exact quiet_same (V2.out _)))
        go_wp2_with fail
        go_ret2
        exact HB.out _
      · have hx0 : 0 ≤ x := by omega
        have hxd : decide (x < 0) = false := by simp; omega
        have hx15 := x1.2
        have hy15 := x2.2
        by_cases hyb : y < 0
        · have HB := Lib.hid (fun n => get_bad (w := w) (HR.out.2.2.1.bad hil (.inr (by rw [← HY.out]; exact hyb))) (HR.out.2.1.trans ((below_drewN wr n).mono hsz)))
          clear hxb
          have h1 : IntKind.i64.wrap ((i : Int) + 1) = (i : Int) + 1 := IntWalk.i64_in _ (by omega)
          have h2 : 0 ≤ (i : Int) + 1 := by omega
          have h3 : ((i : Int) + 1).toNat = i + 1 := by omega
          go_wp2_with fail
          go_quiet (first | (go_at_call 14; with_reducible exact quiet_same (V1.out _)) | (go_at_call 14; with_reducible exact quiet_same (V2.out _)))
          go_wp2_with fail
          go_ret2
          exact HB.out _
        · have hy0 : 0 ≤ y := by omega
          have hyd : decide (y < 0) = false := by simp; omega
          have HO := Lib.hid (fun n => own_below HR.out.1 (below_drewN wr n))
          clear hxb hyb
          have h1 : IntKind.i64.wrap ((i : Int) + 1) = (i : Int) + 1 := IntWalk.i64_in _ (by omega)
          have h2 : 0 ≤ (i : Int) + 1 := by omega
          have h3 : ((i : Int) + 1).toNat = i + 1 := by omega
          go_wp2_with fail
          go_quiet (first | (go_at_call 14; with_reducible exact quiet_same (V1.out _)) | (go_at_call 14; with_reducible exact quiet_same (V2.out _)))
          clear h1
          go_wp2_with (at_builtin; refine append_one oneByte rfl _ _ rfl w.heap.size _ _ _ rfl (HO.out _) (.int .u8 (16 * x + y)) rfl rfl ?a1 ?a2 ?a3 ?_)
          case a1 => omega
          case a2 => unfold maxLen; omega
          case a3 => exact hsz
          intro v' w2 ho hbw
          have HR' := Lib.hid (HR.out.step hil (by rw [← HX.out]; exact hx0) (by rw [← HY.out]; exact hy0) (x := 16 * x + y) (by rw [← HX.out, ← HY.out]) (HR.out.2.1.trans ((below_drewN wr _).mono hsz)) ho hbw)
          clear ho hbw
          go_wp2_with fail
          go_roundw
          case rel => exact ⟨i + 2, _, by omega, by go_num, HR'.out⟩
          case measure => simp [intOf]; omega
    · have h4 : ¬ ((i : Int) + 1 < (s.size : Int)) := by omega
      by_cases hodd : s.size % 2 = 1
      · have HB := Lib.hid (get_bad (w := w) (un_odd (l := l) (by rw [HLL.out]; exact hodd)) HR.out.2.1)
        have ho : (s.size : Int) % 2 = 1 := by omega
        clear hodd
        go_wp2_with fail
        go_ret2
        exact HB.out
      · have HD := Lib.hid (HR.out.done (by rw [HLL.out]; have := HAC.out; omega))
        have he : (s.size : Int) % 2 = 0 := by omega
        clear hodd
        go_wp2_with fail
        go_ret2
        exact HD.out
end Go.Proofs.Ytibobncagncnaaa
