/-
  The walks of the reference's digit, Put, Value and Get for hexadecimal digits.
-/
import Derived.Test.YtcccgcahmnmchaaDoorHexGet
import Derived.Deep.RegionHeld3
namespace Go.Proofs.YtcccgcahmnmchaaDoor
open Go.RowKit StrM

theorem ret_u8 {a b : Int} (h : a = b) : Ending.returned (.int .u8 a) = .returned (.int .u8 b) := by rw [h]
theorem hexD_small {n : Nat} (h : n < 10) : ((hexD n).toNat : Int) = 48 + (n : Int) := by
  simp only [hexD, h, if_true, UInt8.toNat_ofNat']; omega
theorem hexD_big {n : Nat} (h : ¬ n < 10) (h' : n < 16) : ((hexD n).toNat : Int) = 87 + (n : Int) := by
  simp only [hexD, h, if_false, UInt8.toNat_ofNat']; omega

set_option maxHeartbeats 400000 in
theorem digit_any (n : Nat) (w : World) (h : n < 16) :
    Calls Tryd.prog 23 #[.int .i64 (n : Int)] w fun e w' => e = .returned (.int .u8 ((hexD n).toNat : Int)) ∧ w = w' := by
  by_cases h1 : n < 10
  · have H := Lib.hid (hexD_small h1)
    go_enter Tryd.func23, Tryd.ntmps23
    go_wp2_with fail
    go_ret
    exact ⟨ret_u8 (by rw [H.out]), rfl⟩
  · have H := Lib.hid (hexD_big h1 h)
    go_enter Tryd.func23, Tryd.ntmps23
    go_wp2_with fail
    go_ret
    exact ⟨ret_u8 (by rw [H.out]), rfl⟩

set_option maxHeartbeats 1000000 in
theorem rput_any (v : Value) (l : List UInt8) (w : World) (hs : SeesV w v (bys l)) (hl : l.length ≤ 1000000) :
    Calls Tryd.prog 17 #[v] w fun e w' => e = .returned (.string (hexS l)) ∧ Below w.heap.size w w' := by
  obtain ⟨n, hn⟩ : ∃ n, n = l.length := ⟨_, rfl⟩
  obtain ⟨a, cap, rfl, -⟩ := id hs
  have HS := Lib.hid hs
  rw [bys_len] at HS ⊢
  rw [← hn] at HS hl ⊢
  have HN := Lib.hid hn
  clear hs hn
  go_enter Tryd.func17, Tryd.ntmps17
  go_wp2_with fail
  go_loopw [3, 4] (fun v i wr => ∃ k : Nat, k ≤ n ∧ i = .int .i64 k ∧ HexRel w l k v wr) (fun _ i _ => n - (intOf i).toNat)
  case atStart => exact ⟨0, Nat.zero_le _, rfl, by simpa [HexRel, bys, hexL] using ⟨own_made w _, below_made w _⟩⟩
  case round =>
    obtain ⟨k, hk, rfl, hR⟩ := hrel
    have HR := Lib.hid hR
    clear hR
    by_cases hlt : k < n
    · have hkl : k < l.length := by rw [← HN.out]; exact hlt
      obtain ⟨g, off, rfl, hg, hc0⟩ := HS.out.cell hkl
      have hc := (HR.out.2.cell (p := ⟨g, off + k, none⟩) hg).trans hc0
      clear hc0
      generalize hcc : l[k] = c at *
      have HCC := Lib.hid hcc
      clear hcc
      have hb := c.toNat_lt
      obtain ⟨p, hp⟩ : ∃ p, p = c.toNat / 16 := ⟨_, rfl⟩
      obtain ⟨q, hq⟩ : ∃ q, q = c.toNat % 16 := ⟨_, rfl⟩
      have hd1 : (c.toNat : Int).tdiv 16 = (p : Int) := by rw [Int.tdiv_eq_ediv_of_nonneg (by omega)]; omega
      have hd2 : (c.toNat : Int).tmod 16 = (q : Int) := by rw [Int.tmod_eq_emod_of_nonneg (by omega)]; omega
      have hp1 : p < 16 := by omega
      have hq1 : q < 16 := by omega
      have HP := Lib.hid hp
      have HQ := Lib.hid hq
      clear hp hq
      have h1 : (2 * k + 2) * 1 ≤ 140737488355328 := by omega
      have h2 : 2 * k + 2 ≤ maxLen := by unfold maxLen; omega
      have h3 : w.heap.size ≤ wr.drew.heap.size := HR.out.2.size
      have k0 : (0 : Int) ≤ (k : Int) := by omega
      have k1 : (k : Int) < (n : Int) := by omega
      have e0 : IntKind.i64.wrap (c.toNat : Int) = (c.toNat : Int) := IntWalk.i64_in _ (by omega)
      have e1 : IntKind.i64.wrap (p : Int) = (p : Int) := IntWalk.i64_in _ (by omega)
      have e2 : IntKind.i64.wrap (q : Int) = (q : Int) := IntWalk.i64_in _ (by omega)
      go_wp2_with fail
      go_region_held3 (fun w' => w'.cell? ⟨g, off + k, none⟩ = some (.int .u8 (c.toNat : Int))) (first | go_keep | exact (hbw.cell (p := ⟨g, off + k, none⟩) hg).trans hc)
        (first
          | (go_at_call_of 23 p; refine (digit_any p _ hp1).mono ?_; rintro e w' ⟨rfl, rfl⟩)
          | (go_at_call_of 23 q; refine (digit_any q _ hq1).mono ?_; rintro e w' ⟨rfl, rfl⟩)
          | (refine step_append_two oneByte rfl (.tmp 12) (.tmp 27) rfl w.heap.size _ (2 * k) _ (by simp [Act.eval]) HR.out.1.drew _ _ rfl rfl (by simp [Act.eval]) h1 h2 h3 ?_; intro v' w2 ho hbw))
      all_goals
        have HR' := Lib.hid (HR.out.step hkl (HR.out.2.trans (below_drew _ HR.out.2.size)) (x := ((hexD p).toNat : Int)) (by rw [HCC.out, HP.out]) (y := ((hexD q).toNat : Int)) (by rw [HCC.out, HQ.out]) ho hbw)
        clear ho hbw e0 e1 e2
        go_wp2_with fail
        go_roundw
        case rel => exact ⟨k + 1, by omega, by go_num, HR'.out⟩
        case measure => simp [intOf]; omega
    · have hcv := run_text_own HR.out.1
      have hfin : (⟨(hexL (l.take k)).toArray⟩ : ByteArray) = hexS l := by
        have := HN.out
        rw [List.take_of_length_le (by omega)]; rfl
      rw [hfin] at hcv
      obtain ⟨S, hS⟩ : ∃ S, S = hexS l := ⟨_, rfl⟩
      rw [← hS] at hcv
      have HF := Lib.hid hS
      clear hfin hS
      go_wp2_with fail
      go_ret
      exact ⟨ret_str HF.out, HR.out.2⟩

/-! What the reference's Value tries. -/
theorem try_small_all : ∀ i : Nat, i < 16 → ∀ n, n < 256 → (hexD i == UInt8.ofNat n) = true → hexV (UInt8.ofNat n) = i := by decide +kernel
theorem try_big_all : ∀ i : Nat, i < 16 → ∀ n, n < 256 → 9 < i → (hexD i).toNat - 32 = (UInt8.ofNat n).toNat → hexV (UInt8.ofNat n) = i := by decide +kernel
theorem try_none_all : ∀ i : Nat, i < 16 → ∀ n, n < 256 → hexV (UInt8.ofNat n) = i → (hexD i).toNat = (UInt8.ofNat n).toNat ∨ (9 < i ∧ (hexD i).toNat - 32 = (UInt8.ofNat n).toNat) := by decide +kernel
theorem try_small {i : Nat} (hi : i < 16) (c : UInt8) : (hexD i == c) = true → hexV c = i := forall_byte (p := fun c => (hexD i == c) = true → hexV c = i) (try_small_all i hi) c
theorem try_big {i : Nat} (hi : i < 16) (c : UInt8) : 9 < i → (hexD i).toNat - 32 = c.toNat → hexV c = i := forall_byte (p := fun c => 9 < i → (hexD i).toNat - 32 = c.toNat → hexV c = i) (try_big_all i hi) c
theorem try_none {i : Nat} (hi : i < 16) (c : UInt8) : hexV c = i → (hexD i).toNat = c.toNat ∨ (9 < i ∧ (hexD i).toNat - 32 = c.toNat) := forall_byte (p := fun c => hexV c = i → (hexD i).toNat = c.toNat ∨ (9 < i ∧ (hexD i).toNat - 32 = c.toNat)) (try_none_all i hi) c

theorem ret_int64 {a b : Int} (h : a = b) : Ending.returned (.int .i64 a) = .returned (.int .i64 b) := by rw [h]

end Go.Proofs.YtcccgcahmnmchaaDoor
