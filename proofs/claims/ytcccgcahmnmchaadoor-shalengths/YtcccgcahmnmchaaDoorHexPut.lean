/-
  The walks of hexa.value and hexa.Put.
-/
import Derived.Test.YtcccgcahmnmchaaDoorRowMore
import Derived.Test.YtcccgcahmnmchaaDoorHexMath
import Derived.Deep.RegionLaw
namespace Go.Proofs.YtcccgcahmnmchaaDoor
open Go.RowKit StrM

def digitsS : ByteArray := ⟨#[48, 49, 50, 51, 52, 53, 54, 55, 56, 57, 97, 98, 99, 100, 101, 102]⟩

theorem and15_all : ∀ n, n < 256 → bits .and .u8 ((UInt8.ofNat n).toNat : Int) 15 = (((UInt8.ofNat n).toNat % 16 : Nat) : Int) := by decide +kernel
theorem and15 (c : UInt8) : bits .and .u8 (c.toNat : Int) 15 = ((c.toNat % 16 : Nat) : Int) := forall_byte (p := fun c => bits .and .u8 (c.toNat : Int) 15 = ((c.toNat % 16 : Nat) : Int)) and15_all c

/-- What the walk of Put has gathered. -/
def HexRel (w : World) (l : List UInt8) (k : Nat) (v : Value) (wr : World) : Prop :=
  wr.ownsRow w.heap.size 5 1 v (2 * k) (bys (hexL (l.take k))) ∧ Below w.heap.size w wr

theorem HexRel.step {w : World} {l : List UInt8} {k : Nat} {v v' : Value} {wr w1 w2 : World} (_ : HexRel w l k v wr) (hk : k < l.length) (hw : Below w.heap.size w w1) {x y : Int} (hx : x = ((hexD (l[k].toNat / 16)).toNat : Int)) (hy : y = ((hexD (l[k].toNat % 16)).toNat : Int))
    (h1 : w2.ownsRow w.heap.size 5 1 v' (2 * k + 2) (bys (hexL (l.take k)) ++ [.int .u8 x, .int .u8 y])) (h2 : Below w.heap.size w1 w2) : HexRel w l (k + 1) v' w2 := by
  refine ⟨?_, hw.trans h2⟩
  subst hx hy
  rw [List.take_succ_eq_append_getElem hk, hexL_snoc, bys_add]
  exact h1

theorem below_drew {N : Nat} (w : World) (_ : N ≤ w.heap.size) : Below N w w.drew := ⟨rfl, rfl, rfl, Nat.le_refl _, fun _ _ => rfl⟩
theorem dig_at {l : List UInt8} {k : Nat} {hk : k < l.length} {c : UInt8} {p : Nat} (hp : p = c.toNat / 16) (hc : l[k] = c) {h : p < digitsS.size} {x : Int} (hx : x = (digitsS[p].toNat : Int)) : x = ((hexD (l[k].toNat / 16)).toNat : Int) := by
  subst hx hc
  have := hexD_table p h
  rw [← hp, ← this]; rfl
theorem dig_at' {l : List UInt8} {k : Nat} {hk : k < l.length} {c : UInt8} {p : Nat} (hp : p = c.toNat % 16) (hc : l[k] = c) {h : p < digitsS.size} {x : Int} (hx : x = (digitsS[p].toNat : Int)) : x = ((hexD (l[k].toNat % 16)).toNat : Int) := by
  subst hx hc
  have := hexD_table p h
  rw [← hp, ← this]; rfl

set_option maxHeartbeats 1000000 in
theorem put_any (v : Value) (l : List UInt8) (w : World) (hs : SeesV w v (bys l)) (hl : l.length ≤ 1000000) :
    Calls Tryd.prog 16 #[v] w fun e w' => e = .returned (.string (hexS l)) ∧ Below w.heap.size w w' := by
  obtain ⟨n, hn⟩ : ∃ n, n = l.length := ⟨_, rfl⟩
  obtain ⟨W, hmk, hown, hbel⟩ := made_own oneByte w (2 * n) (by omega) (by unfold maxLen; omega)
  rw [show ((2 * n : Nat) : Int) = 2 * (n : Int) from by omega] at hmk
  have H0 := Lib.hid (show HexRel w l 0 (.slice (some ⟨w.heap.size, 0, none⟩) 0 (2 * n)) W from ⟨by simpa [hexL, bys] using hown, hbel⟩)
  obtain ⟨a, cap, rfl, -⟩ := id hs
  have HS := Lib.hid hs
  rw [bys_len] at HS ⊢
  rw [← hn] at HS hl ⊢
  have HN := Lib.hid hn
  clear hs hn hown hbel
  go_enter Tryd.func16, Tryd.ntmps16
  go_wp2_with fail
  go_loopw [3, 12] (fun v i wr => ∃ k : Nat, k ≤ n ∧ i = .int .i64 k ∧ HexRel w l k v wr) (fun _ i _ => n - (intOf i).toNat)
  case atStart => exact ⟨0, Nat.zero_le _, rfl, H0.out⟩
  case round =>
    obtain ⟨k, hk, rfl, hR⟩ := hrel
    have HR := Lib.hid hR
    clear hR hmk
    by_cases hlt : k < n
    · have hkl : k < l.length := by rw [← HN.out]; exact hlt
      obtain ⟨g, off, rfl, hg, hc⟩ := (HS.out.later HR.out.2).cell hkl
      generalize hcc : l[k] = c at *
      have HCC := Lib.hid hcc
      clear hcc
      have hb := c.toNat_lt
      obtain ⟨p, hp⟩ : ∃ p, p = c.toNat / 16 := ⟨_, rfl⟩
      obtain ⟨q, hq⟩ : ∃ q, q = c.toNat % 16 := ⟨_, rfl⟩
      have hd1 : (c.toNat : Int) / 16 = (p : Int) := by omega
      have hd2 : bits .and .u8 (c.toNat : Int) 15 = (q : Int) := by rw [and15, hq]
      have hp1 : (p : Int) < 16 := by omega
      have hq1 : (q : Int) < 16 := by omega
      have HP := Lib.hid hp
      have HQ := Lib.hid hq
      clear hp hq
      have h1 : (2 * k + 2) * 1 ≤ 140737488355328 := by omega
      have h2 : 2 * k + 2 ≤ maxLen := by unfold maxLen; omega
      have h3 : w.heap.size ≤ wr.drew.heap.size := HR.out.2.size
      go_wp2_with fail
      go_region_law (refine step_append_two oneByte rfl (.tmp 16) (.tmp 23) rfl w.heap.size _ (2 * k) _ (by simp [Act.eval]) HR.out.1.drew _ _ rfl rfl (by simp [Act.eval]) h1 h2 h3 ?_; intro v' w2 ho hb)
      all_goals
        have HR' := Lib.hid (HR.out.step hkl (HR.out.2.trans (below_drew _ HR.out.2.size)) (dig_at HP.out HCC.out rfl) (dig_at' HQ.out HCC.out rfl) ho hb)
        clear ho hb
        go_wp2_with fail
        go_roundw
        case rel => exact ⟨k + 1, by omega, by go_num, HR'.out⟩
        case measure => simp [intOf]; omega
    · have hcv := run_text_own HR.out.1
      have hfin : (⟨(hexL (l.take k)).toArray⟩ : ByteArray) = hexS l := by
        have := HN.out
        rw [List.take_of_length_le (by omega)]; rfl
      rw [hfin] at hcv
      obtain ⟨S, hS⟩ : ∃ S, S = hexS l := ⟨_, rfl⟩
      rw [← hS] at hcv
      have HF := Lib.hid hS
      clear hfin hS
      go_wp2_with fail
      go_ret
      exact ⟨ret_str HF.out, HR.out.2⟩

end Go.Proofs.YtcccgcahmnmchaaDoor
