/-
  The walk of block.Pieces.
-/
import Derived.Test.YtaklilhnikmmfaaGreatBlockRow
namespace Go.Proofs.YtaklilhnikmmfaaGreat
open Go.RowKit StrM BlockM

/-- What Pieces returns: an error, and the pieces. -/
def pErr (p : Int) (n : Nat) : Int := if p < 0 then 1 else if 65536 < p + n then 4 else 0
def pList (p : Int) (b : List UInt8) : List P := if p < 0 then [] else if 65536 < p + b.length then [] else pieces p.toNat b
def PiecesPost (p : Int) (b : List UInt8) (w : World) (e : Ending) (w' : World) : Prop :=
  ∃ v, e = .returned (.tuple #[v, .int .i64 (pErr p b.length)]) ∧ SeesP w' v (pList p b) ∧ Below w.heap.size w w'

theorem seesP_nil (w : World) : SeesP w (.slice none 0 0) [] := ⟨none, 0, rfl, .inl rfl⟩
theorem PiecesPost.neg {p : Int} {b : List UInt8} {w : World} (h : p < 0) : PiecesPost p b w (.returned (.tuple #[.slice none 0 0, .int .i64 1])) w :=
  ⟨_, by rw [pErr, if_pos h], by rw [pList, if_pos h]; exact seesP_nil w, Below.refl _ _⟩
theorem PiecesPost.long {p : Int} {b : List UInt8} {w : World} (h : ¬ p < 0) (h2 : 65536 < p + b.length) : PiecesPost p b w (.returned (.tuple #[.slice none 0 0, .int .i64 4])) w :=
  ⟨_, by rw [pErr, if_neg h, if_pos h2], by rw [pList, if_neg h, if_pos h2]; exact seesP_nil w, Below.refl _ _⟩
theorem PiecesPost.fits {n : Nat} {b : List UInt8} {w w' : World} {v : Value} (h2 : n + b.length ≤ 65536) (hv : SeesP w' v (pieces n b)) (hb : Below w.heap.size w w') : PiecesPost n b w (.returned (.tuple #[v, .int .i64 0])) w' :=
  ⟨v, by rw [pErr, if_neg (by omega), if_neg (by omega)], by rw [pList, if_neg (by omega), if_neg (by omega), Int.toNat_natCast]; exact hv, hb⟩

/-- What the loop holds. -/
def PLoop (w : World) (n : Nat) (b : List UInt8) (q : Nat) (r : List UInt8) (v : Value) (wr : World) : Prop :=
  ∃ l : List PB, PRel w v l wr ∧ l.map Prod.fst ++ pieces q r = pieces n b ∧ q + r.length = n + b.length ∧ l.length + r.length ≤ b.length

theorem PLoop.start (w : World) (n : Nat) (b : List UInt8) : PLoop w n b n b (.slice none 0 0) w := ⟨[], PRel.start w, rfl, rfl, by simp⟩
theorem PLoop.last {w : World} {n : Nat} {b : List UInt8} {q : Nat} {v : Value} {wr : World} (h : PLoop w n b q [] v wr) : SeesP wr v (pieces n b) ∧ Below w.heap.size w wr := by
  obtain ⟨l, h1, h2, _, _⟩ := h
  rw [pieces_nil, List.append_nil] at h2
  rw [← h2]
  exact ⟨h1.sees, h1.2.2⟩

set_option maxHeartbeats 2000000 in
set_option maxRecDepth 100000 in
theorem pieces_any (p : Int) (A : Option Addr) (len cap : Nat) (b : List UInt8) (w : World) (hs : SeesV w (.slice A len cap) (bys b)) (hlen : b.length = len) (hcap : len ≤ cap) (hmax : len ≤ 1000000) (hp : p ≤ 9223372036854775807) :
    Calls Tryz.prog 53 #[.int .i64 p, .slice A len cap] w (PiecesPost p b w) := by
  by_cases h1 : p < 0
  · have HP := Lib.hid (PiecesPost.neg (b := b) (w := w) h1)
    clear hs hlen
    go_enter Tryz.func53, Tryz.ntmps53
    go_wp2_with fail
    go_ret2
    exact HP.out
  · obtain ⟨n, rfl⟩ : ∃ n : Nat, p = n := ⟨p.toNat, by omega⟩
    have FI := Lib.hid (fun w => bfits_any n len w (by omega))
    by_cases h2 : n + len ≤ 65536
    · rw [decide_eq_true h2] at FI
      have HP := Lib.hid (fun w' v (hv : SeesP w' v (pieces n b)) (hb : Below w.heap.size w w') => PiecesPost.fits (w := w) (n := n) (b := b) (by omega) hv hb)
      have HS := Lib.hid hs
      have HL := Lib.hid hlen
      have h1' : decide ((n : Int) < 0) = false := by simp
      clear hs hlen h1 hp
      go_enter Tryz.func53, Tryz.ntmps53
      go_wp2_with fail
      refine (FI.out _).mono ?_
      rintro e w' ⟨rfl, rfl⟩
      go_wp2_with fail
      go_loopw [0, 1, 6, 7] (fun x y v z wr => ∃ (q m c : Nat) (A : Option Addr) (r : List UInt8), x = .int .i64 (q : Int) ∧ y = .slice A m c ∧ m = r.length ∧ m ≤ c ∧ q + m = n + len ∧ SeesV w (.slice A m c) (bys r) ∧ PLoop w n b q r v wr) (fun _ y _ _ _ => sliceLen y)
      case atStart => exact ⟨n, len, cap, A, b, rfl, rfl, HL.out.symm, hcap, rfl, HS.out, PLoop.start w n b⟩
      case round =>
        obtain ⟨q, m, c, A1, r, rfl, rfl, hm, hmc, hqm, hS, hP⟩ := hrel
        by_cases h0 : m = 0
        · subst h0
          obtain rfl : r = [] := List.eq_nil_of_length_eq_zero hm.symm
          have HX := Lib.hid hP.last
          clear hS hP hm
          go_wp2_with fail
          go_ret2
          exact HP.out _ _ HX.out.1 HX.out.2
        · obtain ⟨l, hR, hE, hq2, hll⟩ := hP
          have h0' : (0 : Int) < (m : Int) := by omega
          have RO := Lib.hid (fun w => broom_any q w (by omega))
          obtain ⟨k, hk⟩ : ∃ k, k = min m (room q) := ⟨_, rfl⟩
          have hrp := room_pos q
          have hk0 : 0 < k := by omega
          have hkm : k ≤ m := by omega
          have hki : (if room q < m then (room q : Int) else (m : Int)) = (k : Int) := by split <;> omega
          have hmin : ∀ W, (Builtin.min_ #[3, 3] 3 #[.int .i64 (m : Int), .int .i64 (room q : Int)]).run Tryz.prog W = .ok (.int .i64 (k : Int)) W := by
            intro W
            rw [run_min_int2]
            by_cases g : room q < m
            · rw [if_pos (by omega), show room q = k by omega]
            · rw [if_neg (by omega), show m = k by omega]
          obtain ⟨A2, r2, s2⟩ := cut_h hS hmc hkm
          obtain ⟨A3, r3, s3⟩ := cut_l hS hmc hkm
          obtain ⟨t, ht⟩ : ∃ t, t = r.take k := ⟨_, rfl⟩
          rw [← ht] at s2
          have HT := Lib.hid (show t.length = k by rw [ht, List.length_take]; omega)
          have CL := Lib.hid (clone_any A2 k c t wr (s2.later hR.2.2) (by have := HT.out; omega))
          have HR := Lib.hid hR
          have S3 := Lib.hid s3
          have HE := Lib.hid (show l.map Prod.fst ++ (⟨(q : Int), t⟩ :: pieces (q + k) (r.drop k)) = pieces n b by
            rw [← hE, pieces_min q (b := r) (m := k) (by omega) (by omega), ht])
          have HD := Lib.hid (show m - k = (r.drop k).length by rw [List.length_drop]; omega)
          have HQ := Lib.hid (show q + k + (r.drop k).length = n + b.length by rw [← HD.out]; omega)
          have hll2 : l.length + 1 + (m - k) ≤ len := by rw [← HL.out]; omega
          generalize room q = rq at *
          clear hR hE s2 s3 ht hS hm hk hrp h1' hq2 hll
          go_wp2_with fail
          refine (RO.out _).mono ?_
          rintro e w' ⟨rfl, rfl⟩
          go_wp2_with fail
          refine (CL.out).mono ?_
          rintro e w1 ⟨B, rfl, hB, hb1⟩
          obtain ⟨A4, c4, hBe, -⟩ := own_slice hB
          rw [HT.out] at hBe
          subst hBe
          have HB := Lib.hid hB
          have HB1 := Lib.hid hb1
          have O1 := Lib.hid (own_belowN HR.out.1 hb1)
          have hsz := Nat.le_trans HR.out.2.2.size hb1.size
          clear hB hb1
          go_wp2_with (at_builtin; refine append_piece rfl _ _ rfl w.heap.size _ _ _ rfl O1.out (⟨(q : Int), t⟩, .slice A4 k c4) (own_one HB.out) rfl ?a1 ?a2 ?_)
          case a1 => omega
          case a2 => exact hsz
          intro v' w2 ho hb2 hst
          have HN := Lib.hid (show PLoop w n b (q + k) (r.drop k) v' w2 from
            ⟨l ++ [(⟨(q : Int), t⟩, .slice A4 k c4)], HR.out.add HB1.out HB.out ho hb2 hst, by have := HE.out; simpa using this, HQ.out, by rw [List.length_append, ← HD.out, HL.out]; simpa using hll2⟩)
          clear ho hb2 hst
          go_wp2_with fail
          go_roundw
          case rel => exact ⟨q + k, m - k, c - k, A3, r.drop k, by go_num, by simp, HD.out, by omega, by omega, S3.out, HN.out⟩
          case measure => simp [sliceLen]; omega
    · rw [decide_eq_false h2] at FI
      have HP := Lib.hid (PiecesPost.long (p := n) (b := b) (w := w) h1 (by omega))
      clear hs hlen h1 h2
      go_enter Tryz.func53, Tryz.ntmps53
      go_wp2_with fail
      refine (FI.out _).mono ?_
      rintro e w' ⟨rfl, rfl⟩
      go_wp2_with fail
      go_ret2
      exact HP.out
end Go.Proofs.YtaklilhnikmmfaaGreat
