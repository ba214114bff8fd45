/-
  The walks of vary.Put and the reference's Put.
-/
import Derived.Test.YtnjnlbcbdhdipaaVaryLeaf
import Derived.Deep.RegionHeld3
namespace Go.Proofs.Ytnjnlbcbdhdipaa
open Go.RowKit StrM VaryM

theorem or128_all : ∀ a, a < 256 → bits .or .u8 ((a : Nat) : Int) 128 = ((a % 128 + 128 : Nat) : Int) := by decide +kernel

theorem ERel.start (w : World) : ERel w (.slice none 0 0) [] w := ⟨World.ownsRow_nil _ _ _ _, Below.refl _ _⟩
theorem EndPost.of {w w' : World} {v v' : Value} {acc l : List UInt8} {wr : World} (h : ERel w v acc wr) {c : UInt8} {x : Int} (hx : x = (c.toNat : Int)) (hl : l = acc ++ [c]) (h1 : w'.ownsRow w.heap.size 5 1 v' (acc.length + 1) (bys acc ++ [.int .u8 x])) (h2 : Below w.heap.size wr w') : EndPost l w (.returned v') w' := by
  have := h.step hx h1 h2
  subst hl
  exact ⟨v', rfl, this.1, this.2⟩

set_option maxHeartbeats 800000 in
theorem vput_any (n : Nat) (w : World) (hn : n < 18446744073709551616) : Calls Try.prog 18 #[.int .u64 (n : Int)] w (EndPost (putL n) w) := by
  have HT := Lib.hid (putL_ten hn)
  go_enter Try.func18, Try.ntmps18
  go_wp2_with fail
  go_loopw [0, 3] (fun x v wr => ∃ (m : Nat) (acc : List UInt8), m < 18446744073709551616 ∧ x = .int .u64 (m : Int) ∧ putL n = acc ++ putL m ∧ ERel w v acc wr) (fun x _ _ => (intOf x).toNat)
  case atStart => exact ⟨n, [], hn, rfl, rfl, ERel.start w⟩
  case round =>
    obtain ⟨m, acc, hm, rfl, hp, hR⟩ := hrel
    have ha : acc.length ≤ 10 := by have := HT.out; rw [hp] at this; simp at this; omega
    have h1 : (acc.length + 1) * 1 ≤ 140737488355328 := by omega
    have h2 : acc.length + 1 ≤ maxLen := by unfold maxLen; omega
    have h3 : w.heap.size ≤ wr.heap.size := hR.2.size
    have HP := Lib.hid hp
    have HR := Lib.hid hR
    clear hp hR
    by_cases hlt : m < 128
    · have hd : decide ((128 : Int) ≤ (m : Int)) = false := by simp; omega
      have hx : (m : Int) % 256 = (m : Int) := by omega
      go_wp2_with (at_builtin; refine append_one oneByte rfl _ _ rfl w.heap.size _ _ _ rfl HR.out.1 (.int .u8 (m : Int)) rfl rfl h1 h2 h3 ?_)
      intro v' w2 ho hb
      have HF := Lib.hid (EndPost.of HR.out (l := putL n) (c := UInt8.ofNat m) (by rw [toNat_small (by omega)]) (by rw [HP.out, putL_small hlt]) ho hb)
      clear ho hb
      go_wp2_with fail
      go_ret
      exact HF.out
    · have hge : (128 : Int) ≤ (m : Int) := by omega
      obtain ⟨y, hy⟩ : ∃ y : Int, y = bits .or .u8 ((m : Int) % 256) 128 := ⟨_, rfl⟩
      have HY := Lib.hid (show y = (((UInt8.ofNat (m % 128 + 128)).toNat : Nat) : Int) by
        rw [hy, toNat_small (by omega), show (m : Int) % 256 = ((m % 256 : Nat) : Int) by omega, or128_all _ (by omega)]
        congr 2
        omega)
      have hy' := hy.symm
      clear hy
      go_wp2_with (at_builtin; refine append_one oneByte rfl _ _ rfl w.heap.size _ _ _ rfl HR.out.1 (.int .u8 y) rfl rfl h1 h2 h3 ?_)
      intro v' w2 ho hb
      have HR' := Lib.hid (HR.out.step HY.out ho hb)
      obtain ⟨q, hq0⟩ : ∃ q, q = m / 128 := ⟨_, rfl⟩
      have hq : (m : Int) / 128 = (q : Int) := by omega
      have hqm : q < m := by omega
      have HQ := Lib.hid (show putL n = (acc ++ [UInt8.ofNat (m % 128 + 128)]) ++ putL q by rw [HP.out, putL_big (by omega), hq0]; simp)
      clear ho hb hq0
      go_wp2_with fail
      go_roundw
      case rel => exact ⟨q, acc ++ [UInt8.ofNat (m % 128 + 128)], by omega, by go_num, HQ.out, HR'.out⟩
      case measure => simp [intOf]; omega

/-- A row that is built with its elements ([]byte{..}). -/
theorem own_built (w : World) (l : List UInt8) (hl : l.length ≤ maxLen) : (w.alloc (.cells (bys l).toArray 5)).ownsRow w.heap.size 5 1 (.slice (some ⟨w.heap.size, 0, none⟩) l.length l.length) l.length (bys l) :=
  ⟨by simp [bys_len], .inr ⟨w.heap.size, l.length, (bys l).toArray, rfl, Nat.le_refl _, heap_alloc_new w _, Nat.le_refl _, hl, by simp [bys_len], by rw [List.take_of_length_le (by simp [bys_len])]⟩⟩
theorem own_built1 (w : World) {c : UInt8} {x : Int} (hx : x = (c.toNat : Int)) : (w.alloc (.cells #[.int .u8 x] 5)).ownsRow w.heap.size 5 1 (.slice (some ⟨w.heap.size, 0, none⟩) 1 1) 1 (bys [c]) := by
  subst hx
  exact own_built w [c] (by unfold maxLen; simp)

set_option maxHeartbeats 800000 in
theorem rvput_any : ∀ (n : Nat) (w : World), n < 18446744073709551616 → Calls Try.prog 21 #[.int .u64 (n : Int)] w (EndPost (putL n) w) := by
  intro n
  induction n using Nat.strongRecOn with
  | ind n ih =>
    intro w hn
    have HT := Lib.hid (putL_ten hn)
    by_cases hlt : n < 128
    · have hx : (n : Int) % 256 = (n : Int) := by omega
      have HF := Lib.hid (show EndPost (putL n) w (.returned (.slice (some ⟨w.heap.size, 0, none⟩) 1 1)) (w.alloc (.cells #[.int .u8 (n : Int)] 5)) from
        ⟨_, rfl, by rw [putL_small hlt]; exact own_built1 w (by rw [toNat_small (by omega)]), below_made w _⟩)
      have hlt' : (n : Int) < 128 := by omega
      clear ih hlt
      go_enter Try.func21, Try.ntmps21
      go_wp2_with fail
      go_ret
      exact HF.out
    · have hd : decide ((n : Int) < 128) = false := by simp; omega
      obtain ⟨q, hq0⟩ : ∃ q, q = n / 128 := ⟨_, rfl⟩
      have hq : (n : Int) / 128 = (q : Int) := by omega
      obtain ⟨c, hc⟩ : ∃ c, c = UInt8.ofNat (n % 128 + 128) := ⟨_, rfl⟩
      have HQ := Lib.hid (show putL n = c :: putL q by rw [putL_big (by omega), hq0, hc])
      have IH := Lib.hid (fun w => ih q (by omega) w (by omega))
      obtain ⟨y, hy⟩ : ∃ y : Nat, y = n % 128 := ⟨_, rfl⟩
      have hy1 : (n : Int) % 128 = (y : Int) := by omega
      have hy2 : y < 128 := by omega
      have HY := Lib.hid hy
      have HO := Lib.hid (own_built1 w (c := c) (x := (y : Int) + 128) (by rw [hc, toNat_small (by omega), ← hy]; rfl))
      clear ih hq0 hy hc
      go_enter Try.func21, Try.ntmps21
      go_wp2_with fail
      refine (IH.out _).mono ?_
      rintro e w2 ⟨v2, rfl, ho2, hb2⟩
      have O1 := Lib.hid (own_below HO.out hb2)
      have S2 := Lib.hid (SeesV.of_own ho2)
      have B2 := Lib.hid ((below_made w _).trans (hb2.mono (below_made w _).size))
      have hsz := B2.out.size
      have hln : 1 + (bys (putL q)).length ≤ 10 := by have := HT.out; rw [HQ.out] at this; rw [bys_len]; simp at this; omega
      clear ho2 hb2
      go_wp2_with (at_builtin; refine append_all oneByte rfl (.tmp 12) (.tmp 15) rfl w.heap.size _ _ _ rfl O1.out _ (bys (putL q)) rfl S2.out (bys_ones _) ?a1 ?a2 ?a3 ?_)
      case a1 => omega
      case a2 => unfold maxLen; omega
      case a3 => exact hsz
      intro v' w3 ho hb
      have HF := Lib.hid (show EndPost (putL n) w (.returned v') w3 from ⟨v', rfl, by rw [HQ.out]; rw [← bys_add, bys_len, Nat.add_comm] at ho; exact ho, B2.out.trans hb⟩)
      clear ho hb
      go_wp2_with fail
      go_ret
      exact HF.out
end Go.Proofs.Ytnjnlbcbdhdipaa
