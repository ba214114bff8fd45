/-
  The walk of hexa.Get.
-/
import Derived.Test.YtibobncagncnaaaHexPut
import Derived.Test.YtibobncagncnaaaStrLow
namespace Go.Proofs.Ytibobncagncnaaa
open Go.RowKit StrM

theorem quiet_same {P : Program} {f : FuncId} {args : Array Value} {w : World} {n : Nat} {v : Value}
    (h : Calls P f args (w.drewN n) fun e w' => e = .returned v ∧ w.drewN n = w') : Calls P f args (w.drewN n) fun e w'' => e = .returned v ∧ ∃ m, w'' = w.drewN m :=
  h.mono fun _ _ ⟨he, hm⟩ => ⟨he, n, hm.symm⟩

/-- What Get returns: the bytes in a row of the call's own, and an error's number. -/
def GetPost (l : List UInt8) (w : World) (e : Ending) (w' : World) : Prop :=
  ∃ v, e = .returned (.tuple #[v, .int .i64 (unE l)]) ∧ w'.ownsRow w.heap.size 5 1 v (unV l).length (bys (unV l)) ∧ Below w.heap.size w w'

theorem get_bad {l : List UInt8} {w w' : World} (h : unV l = [] ∧ unE l = 2) (hb : Below w.heap.size w w') : GetPost l w (.returned (.tuple #[.slice none 0 0, .int .i64 2])) w' :=
  ⟨.slice none 0 0, by rw [h.2], by rw [h.1]; exact World.ownsRow_nil _ _ _ _, hb⟩

/-- What the walk of Get has gathered. -/
def GetRel (w : World) (l : List UInt8) (i : Nat) (acc : List UInt8) (v : Value) (wr : World) : Prop :=
  wr.ownsRow w.heap.size 5 1 v acc.length (bys acc) ∧ Below w.heap.size w wr ∧ HexAt l i acc ∧ 2 * acc.length = i

theorem GetRel.step {w : World} {l : List UInt8} {i : Nat} {acc : List UInt8} {v v' : Value} {wr w1 w2 : World} (h : GetRel w l i acc v wr) (hi : i + 1 < l.length) (ha : 0 ≤ hexV l[i]) (hb : 0 ≤ hexV l[i + 1]) {x : Int} (hx : x = 16 * hexV l[i] + hexV l[i + 1]) (hw : Below w.heap.size w w1)
    (h1 : w2.ownsRow w.heap.size 5 1 v' (acc.length + 1) (bys acc ++ [.int .u8 x])) (h2 : Below w.heap.size w1 w2) : GetRel w l (i + 2) (acc ++ [hexB (hexV l[i]) (hexV l[i + 1])]) v' w2 := by
  refine ⟨?_, hw.trans h2, h.2.2.1.good hi ha hb, by have := h.2.2.2; simp; omega⟩
  rw [bys_add]
  rw [hx, ← hexB_toNat ha (hexV_range _).2 hb (hexV_range _).2] at h1
  simpa [bys] using h1

theorem GetRel.done {w : World} {l : List UInt8} {i : Nat} {acc : List UInt8} {v : Value} {wr : World} (h : GetRel w l i acc v wr) (hi : l.length = i) : GetPost l w (.returned (.tuple #[v, .int .i64 0])) wr := by
  obtain ⟨e1, e2⟩ := h.2.2.1.done hi
  exact ⟨v, by rw [e2], by rw [e1]; exact h.1, h.2.1⟩

theorem own_base {w : World} {base base' n : Nat} {e : TypeId} {v : Value} {xs : List Value} (h : w.ownsRow base' e 1 v n xs) (hb : base ≤ base') : w.ownsRow base e 1 v n xs := by
  refine ⟨h.1, ?_⟩
  rcases h.2 with h | ⟨g, cap, cur, h1, h2, h3⟩
  · exact .inl h
  · exact .inr ⟨g, cap, cur, h1, Nat.le_trans hb h2, h3⟩

theorem low_at (s : ByteArray) (i : Nat) (h : i < s.data.toList.length) (h' : i < (lowS s).size) : (lowS s)[i] = low s.data.toList[i] := by
  show (lowL s.data.toList).toArray[i]'(by simpa [lowL] using h) = _
  simp [lowL]

theorem or16_all : ∀ a, a < 16 → ∀ b, b < 16 → bits .or .i64 (((a : Nat) : Int) * 16) ((b : Nat) : Int) % 256 = 16 * (a : Int) + (b : Int) := by decide +kernel
theorem or16 {x y : Int} (hx : 0 ≤ x) (hx' : x ≤ 15) (hy : 0 ≤ y) (hy' : y ≤ 15) : bits .or .i64 (x * 16) y % 256 = 16 * x + y := by
  obtain ⟨a, rfl⟩ := Int.eq_ofNat_of_zero_le hx
  obtain ⟨b, rfl⟩ := Int.eq_ofNat_of_zero_le hy
  exact or16_all a (by omega) b (by omega)

set_option maxHeartbeats 1000000 in
theorem get_any (s : ByteArray) (w : World) (hs : s.size ≤ 1000000) : Calls Try.prog 6 #[.string s] w (GetPost s.data.toList w) := by
  obtain ⟨l, hl⟩ : ∃ l, l = s.data.toList := ⟨_, rfl⟩
  rw [← hl]
  have HLIST := Lib.hid hl
  clear hl
  by_cases hodd : s.size % 2 = 1
  · have HB := Lib.hid (get_bad (w := w) (w' := w) (un_odd (l := l) (by rw [HLIST.out, length_bytes]; exact hodd)) (Below.refl _ _))
    have ho : (s.size : Int) % 2 = 1 := by omega
    clear hodd
    go_enter Try.func6, Try.ntmps6
    go_wp2_with fail
    go_ret2
    exact HB.out
  · obtain ⟨m, hm⟩ : ∃ m, s.size = 2 * m := ⟨s.size / 2, by omega⟩
    have he : (s.size : Int) % 2 = 0 := by omega
    obtain ⟨L, hL⟩ : ∃ L, L = lowS s := ⟨_, rfl⟩
    have hLs : L.size = s.size := by rw [hL, lowS_size]
    have HL := Lib.hid hL
    have hlow : ∀ w, Calls Try.prog 12 #[.string s] w fun e w' => e = .returned (.string L) ∧ Below w.heap.size w w' := by
      intro w; rw [hL]; exact lower_any s w (by unfold maxLen; omega)
    have HLOW := Lib.hid hlow
    clear hL hlow hodd
    have hdiv : (L.size : Int) / 2 = (m : Int) := by omega
    have hLm : L.size ≤ 1000000 := by omega
    have hmm : m ≤ 1000000 := by omega
    have HM := Lib.hid (show L.size = 2 * m by omega)
    have HLS := Lib.hid hLs
    clear hm hLs
    go_enter Try.func6, Try.ntmps6
    go_wp2_with fail
    refine (HLOW.out _).mono ?_
    rintro e w1 ⟨rfl, hb1⟩
    have B1 := Lib.hid hb1
    clear hb1
    obtain ⟨W, hmk, hown, hbel⟩ := made_own oneByte w1 m (by omega) (by unfold maxLen; omega)
    have hll : l.length = L.size := by rw [HLIST.out, length_bytes, HLS.out]
    have hlat : ∀ i (h : i < l.length) (h' : i < L.size), Lib.indexByte hexDigits L[i] = hexV l[i] := by
      intro i h h'
      have e := HL.out
      have hl := HLIST.out
      subst e hl
      rw [low_at s i h h', hexV_lower]
    have HAT := Lib.hid hlat
    have HLL := Lib.hid hll
    have H0 := Lib.hid (show GetRel w l 0 [] (.slice (some ⟨w1.heap.size, 0, none⟩) 0 m) W from ⟨own_base hown B1.out.size, B1.out.trans (hbel.mono B1.out.size), HexAt.start _, rfl⟩)
    clear hown hbel hll hlat
    go_wp2_with fail
    go_loopw [5, 6] (fun v x wr => ∃ (i : Nat) (acc : List UInt8), i ≤ L.size ∧ x = .int .i64 (i : Int) ∧ GetRel w l i acc v wr) (fun _ x _ => L.size - (intOf x).toNat)
    case atStart => exact ⟨0, [], Nat.zero_le _, rfl, H0.out⟩
    case round =>
      obtain ⟨i, acc, hi, rfl, hR⟩ := hrel
      have hac := hR.2.2.2
      have hsz := hR.2.1.size
      have HR := Lib.hid hR
      clear hR hmk hdiv he
      by_cases hlt : i < L.size
      · have hlt1 : i + 1 < L.size := by have := HM.out; omega
        have hil : i + 1 < l.length := by rw [HLL.out]; exact hlt1
        have hv1 : ∀ w, Calls Try.prog 13 #[.int .u8 (L[i].toNat : Int)] w fun e w' => e = .returned (.int .i64 (hexV l[i])) ∧ w = w' := by
          intro w
          rw [← HAT.out i (by omega) hlt]
          exact value_any L[i] w
        have hv2 : ∀ w, Calls Try.prog 13 #[.int .u8 (L[i + 1].toNat : Int)] w fun e w' => e = .returned (.int .i64 (hexV l[i + 1])) ∧ w = w' := by
          intro w
          rw [← HAT.out (i + 1) hil hlt1]
          exact value_any L[i + 1] w
        have x1 := hexV_range l[i]
        have x2 := hexV_range l[i + 1]
        obtain ⟨x, hx⟩ : ∃ x, x = hexV l[i] := ⟨_, rfl⟩
        obtain ⟨y, hy⟩ : ∃ y, y = hexV l[i + 1] := ⟨_, rfl⟩
        rw [← hx] at hv1 x1
        rw [← hy] at hv2 x2
        have V1 := Lib.hid hv1
        have V2 := Lib.hid hv2
        have HX := Lib.hid hx
        have HY := Lib.hid hy
        clear hv1 hv2 hx hy
        have h4 : (i : Int) + 1 < (L.size : Int) := by omega
        by_cases hxb : x < 0
        · have hbad := fun n => get_bad (w := w) (HR.out.2.2.1.bad hil (.inl (by rw [← HX.out]; exact hxb))) (HR.out.2.1.trans ((below_drewN wr n).mono hsz))
          have HB := Lib.hid hbad
          clear hbad
          have h1 : IntKind.i64.wrap ((i : Int) + 1) = (i : Int) + 1 := IntWalk.i64_in _ (by omega)
          have h2 : 0 ≤ (i : Int) + 1 := by omega
          have h3 : ((i : Int) + 1).toNat = i + 1 := by omega
          go_wp2_with fail
          go_quiet (first | (go_at_call 13; exact quiet_same (V1.out _)) | (go_at_call 13; exact quiet_same (V2.out _)))
          go_wp2_with fail
          go_ret2
          exact HB.out _
        · have hx0 : 0 ≤ x := by omega
          have hxd : decide (x < 0) = false := by simp; omega
          have hx15 := x1.2
          have hy15 := x2.2
          by_cases hyb : y < 0
          · have HB := Lib.hid (fun n => get_bad (w := w) (HR.out.2.2.1.bad hil (.inr (by rw [← HY.out]; exact hyb))) (HR.out.2.1.trans ((below_drewN wr n).mono hsz)))
            clear hxb
            have h1 : IntKind.i64.wrap ((i : Int) + 1) = (i : Int) + 1 := IntWalk.i64_in _ (by omega)
            have h2 : 0 ≤ (i : Int) + 1 := by omega
            have h3 : ((i : Int) + 1).toNat = i + 1 := by omega
            go_wp2_with fail
            go_quiet (first | (go_at_call 13; exact quiet_same (V1.out _)) | (go_at_call 13; exact quiet_same (V2.out _)))
            go_wp2_with fail
            go_ret2
            exact HB.out _
          · have hy0 : 0 ≤ y := by omega
            have hyd : decide (y < 0) = false := by simp; omega
            have HO := Lib.hid (fun n => own_below HR.out.1 (below_drewN wr n))
            clear hxb hyb
            have h1 : IntKind.i64.wrap ((i : Int) + 1) = (i : Int) + 1 := IntWalk.i64_in _ (by omega)
            have h2 : 0 ≤ (i : Int) + 1 := by omega
            have h3 : ((i : Int) + 1).toNat = i + 1 := by omega
            go_wp2_with fail
            go_quiet (first | (go_at_call 13; exact quiet_same (V1.out _)) | (go_at_call 13; exact quiet_same (V2.out _)))
            clear h1
            go_wp2_with (at_builtin; refine append_one oneByte rfl _ _ rfl w.heap.size _ _ _ rfl (HO.out _) (.int .u8 (bits .or .i64 (x * 16) y % 256)) rfl rfl ?a1 ?a2 ?a3 ?_)
            case a1 => omega
            case a2 => unfold maxLen; omega
            case a3 => exact hsz
            intro v' w2 ho hbw
            have HR' := Lib.hid (HR.out.step hil (by rw [← HX.out]; exact hx0) (by rw [← HY.out]; exact hy0) (x := bits .or .i64 (x * 16) y % 256) (by rw [← HX.out, ← HY.out]; exact or16 hx0 hx15 hy0 hy15) (HR.out.2.1.trans ((below_drewN wr _).mono hsz)) ho hbw)
            clear ho hbw
            go_wp2_with fail
            go_roundw
            case rel => exact ⟨i + 2, _, by omega, by go_num, HR'.out⟩
            case measure => simp [intOf]; omega
      · have HD := Lib.hid (HR.out.done (by rw [HLL.out]; omega))
        go_wp2_with fail
        go_ret2
        exact HD.out
end Go.Proofs.Ytibobncagncnaaa
