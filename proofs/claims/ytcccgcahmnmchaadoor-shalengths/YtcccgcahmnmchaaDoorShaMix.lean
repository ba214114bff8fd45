/-
  The walk of sha.mix.
-/
import Derived.Test.YtcccgcahmnmchaaDoorShaExp
namespace Go.Proofs.YtcccgcahmnmchaaDoor
open Go.RowKit StrM ShaM

/-- What the two package variables hold. -/
def Tabs (w : World) : Prop :=
  (∀ j, j < 8 → w.cell? ⟨0, j, none⟩ = some (.int .u32 (((words8 init).getD j 0 : Nat) : Int))) ∧ ∀ j, j < 64 → w.cell? ⟨1, j, none⟩ = some (.int .u32 ((K.getD j 0 : Nat) : Int))
theorem cell_lt {w : World} {g i : Nat} {v : Value} (h : w.cell? ⟨g, i, none⟩ = some v) : g < w.heap.size := by
  simp only [World.cell?] at h
  by_cases hg : g < w.heap.size
  · exact hg
  · simp [hg] at h
theorem Tabs.below {w w' : World} {B : Nat} (h : Tabs w) (hb : Below B w w') (hB : 2 ≤ B) : Tabs w' :=
  ⟨fun j hj => (hb.cell (p := ⟨0, j, none⟩) (by show 0 < B; omega)).trans (h.1 j hj), fun j hj => (hb.cell (p := ⟨1, j, none⟩) (by show 1 < B; omega)).trans (h.2 j hj)⟩
theorem Tabs.two {w : World} (h : Tabs w) : 2 ≤ w.heap.size := cell_lt (h.2 0 (by decide))

theorem info8 : (Tryd.prog.info? 31).map (·.size) = some 8 := by kernel_rfl

theorem e1_bits {x : Nat} (h : x < 4294967296) : bits .xor .u32 (bits .xor .u32 ((rotr x 6 : Nat) : Int) ((rotr x 11 : Nat) : Int)) ((rotr x 25 : Nat) : Int) = ((e1 x : Nat) : Int) := by
  rw [xor32 (rotr_lt h (by decide)) (rotr_lt h (by decide)), xor32 (xor_lt (rotr_lt h (by decide)) (rotr_lt h (by decide))) (rotr_lt h (by decide))]; rfl
theorem e0_bits {x : Nat} (h : x < 4294967296) : bits .xor .u32 (bits .xor .u32 ((rotr x 2 : Nat) : Int) ((rotr x 13 : Nat) : Int)) ((rotr x 22 : Nat) : Int) = ((e0 x : Nat) : Int) := by
  rw [xor32 (rotr_lt h (by decide)) (rotr_lt h (by decide)), xor32 (xor_lt (rotr_lt h (by decide)) (rotr_lt h (by decide))) (rotr_lt h (by decide))]; rfl
theorem ch_bits {e f g : Nat} (h1 : e < 4294967296) (h2 : f < 4294967296) (h3 : g < 4294967296) : bits .xor .u32 (bits .and .u32 (e : Int) (f : Int)) (bits .and .u32 (bits .xor .u32 (if IntKind.u32.signed = true then -1 else IntKind.u32.max) (e : Int)) (g : Int)) = ((ch e f g : Nat) : Int) := by
  rw [show (if IntKind.u32.signed = true then -1 else IntKind.u32.max) = (4294967295 : Int) from rfl, not32 h1, and32 h1 h2, and32 (by omega) h3, xor32 (and_lt h2) (and_lt h3)]; rfl
theorem maj_bits {a b c : Nat} (h1 : a < 4294967296) (h2 : b < 4294967296) (h3 : c < 4294967296) : bits .xor .u32 (bits .xor .u32 (bits .and .u32 (a : Int) (b : Int)) (bits .and .u32 (a : Int) (c : Int))) (bits .and .u32 (b : Int) (c : Int)) = ((maj a b c : Nat) : Int) := by
  rw [and32 h1 h2, and32 h1 h3, and32 h2 h3, xor32 (and_lt h2) (and_lt h3), xor32 (xor_lt (and_lt h2) (and_lt h3)) (and_lt h3)]; rfl

theorem mix_a {a b c e f g k n : Nat} (la : a < 4294967296) (lb : b < 4294967296) (lc : c < 4294967296) (le : e < 4294967296) (lf : f < 4294967296) (lg : g < 4294967296) (h d : Nat) :
    (((h : Int) + bits .xor .u32 (bits .xor .u32 ((rotr e 6 : Nat) : Int) ((rotr e 11 : Nat) : Int)) ((rotr e 25 : Nat) : Int) + bits .xor .u32 (bits .and .u32 (e : Int) (f : Int)) (bits .and .u32 (bits .xor .u32 (if IntKind.u32.signed = true then -1 else IntKind.u32.max) (e : Int)) (g : Int)) + (k : Int) + (n : Int)) % 4294967296 +
      (bits .xor .u32 (bits .xor .u32 ((rotr a 2 : Nat) : Int) ((rotr a 13 : Nat) : Int)) ((rotr a 22 : Nat) : Int) + bits .xor .u32 (bits .xor .u32 (bits .and .u32 (a : Int) (b : Int)) (bits .and .u32 (a : Int) (c : Int))) (bits .and .u32 (b : Int) (c : Int))) % 4294967296) % 4294967296 = (((ShaM.step k n ⟨a, b, c, d, e, f, g, h⟩).a : Nat) : Int) := by
  rw [e1_bits le, ch_bits le lf lg, e0_bits la, maj_bits la lb lc]
  show _ = (((h + e1 e + ch e f g + k + n + (e0 a + maj a b c)) % 4294967296 : Nat) : Int)
  omega
theorem mix_e {d e f g h k n : Nat} (le : e < 4294967296) (lf : f < 4294967296) (lg : g < 4294967296) (a b c : Nat) :
    ((d : Int) + ((h : Int) + bits .xor .u32 (bits .xor .u32 ((rotr e 6 : Nat) : Int) ((rotr e 11 : Nat) : Int)) ((rotr e 25 : Nat) : Int) + bits .xor .u32 (bits .and .u32 (e : Int) (f : Int)) (bits .and .u32 (bits .xor .u32 (if IntKind.u32.signed = true then -1 else IntKind.u32.max) (e : Int)) (g : Int)) + (k : Int) + (n : Int)) % 4294967296) % 4294967296 = (((ShaM.step k n ⟨a, b, c, d, e, f, g, h⟩).e : Nat) : Int) := by
  rw [e1_bits le, ch_bits le lf lg]
  show _ = (((d + (h + e1 e + ch e f g + k + n)) % 4294967296 : Nat) : Int)
  omega

theorem rotI {x : Nat} {m : Int} {w : World} (hx : x < 4294967296) (h0 : 0 < m) (hn : m < 32) :
    Calls Tryd.prog 24 #[.int .u32 (x : Int), .int .i64 m] w fun e w' => e = .returned (.int .u32 ((rotr x m.toNat : Nat) : Int)) ∧ w = w' :=
  (rot_at hx h0 hn).mono fun _ _ h => ⟨h.1, h.2.symm⟩

/-- What mix has laid: the values, the numbers w, the result's place. -/
def MRel (w : World) (vs ws : List Value) (wr : World) : Prop :=
  Below w.heap.size w wr ∧ Row wr w.heap.size 31 vs ∧ Row wr (w.heap.size + 1) 41 ws ∧ Row wr (w.heap.size + 2) 31 (u32s (List.replicate 8 0))
theorem MRel.start (w : World) (vs ws : List Value) : MRel w vs ws (((w.alloc (.cells vs.toArray 31)).alloc (.cells ws.toArray 41)).alloc (.cells #[.int .u32 0, .int .u32 0, .int .u32 0, .int .u32 0, .int .u32 0, .int .u32 0, .int .u32 0, .int .u32 0] 31)) := by
  have e : (#[.int .u32 0, .int .u32 0, .int .u32 0, .int .u32 0, .int .u32 0, .int .u32 0, .int .u32 0, .int .u32 0] : Array Value) = (u32s (List.replicate 8 0)).toArray := by rfl
  rw [e]
  refine ⟨(((Below.refl _ _).alloc (Nat.le_refl _) _).alloc (by simp) _).alloc (by simp; omega) _, ((Row.new _ _ _).alloc _).alloc _, ?_, ?_⟩
  · have := (Row.new (w.alloc (.cells vs.toArray 31)) 41 ws).alloc (.cells (u32s (List.replicate 8 0)).toArray 31)
    simpa using this
  · have := Row.new ((w.alloc (.cells vs.toArray 31)).alloc (.cells ws.toArray 41)) 31 (u32s (List.replicate 8 0))
    simpa using this
theorem MRel.drewN {w wr : World} {vs ws : List Value} (h : MRel w vs ws wr) (n : Nat) : MRel w vs ws (wr.drewN n) :=
  ⟨⟨h.1.os, h.1.tape, h.1.output, h.1.size, h.1.block⟩, h.2.1, h.2.2.1, h.2.2.2⟩

theorem index64 {ws : List Nat} (hl : ws.length = 64) {i : Nat} (hi : i < 64) (w : World) :
    (Instr.index 41 (.agg (u32s ws).toArray) (.int .i64 (i : Int))).run Tryd.prog w = .ok (.int .u32 ((ws.getD i 0 : Nat) : Int)) w := by
  have hz : ∀ W, (sizeOf 30).run Tryd.prog W = .ok 1 W := fun _ => by kernel_rfl
  have ha : ∀ W, (isAgg 30).run Tryd.prog W = .ok false W := fun _ => by kernel_rfl
  have hc := u32s_at (l := ws) (i := i) (by omega)
  unfold Instr.index
  simp [asIntOf, run_underlying Tryd.underlying41, hz, ha, part, hi, hc]

set_option maxHeartbeats 2000000 in
set_option maxRecDepth 100000 in
theorem mix_any (s : S8) (wl : List Nat) (w : World) (hs : s.Ok) (hl : wl.length = 64) (hw : ∀ x ∈ wl, x < 4294967296) (hT : Tabs w) :
    Calls Tryd.prog 18 #[.agg (u32s (words8 s)).toArray, .agg (u32s wl).toArray] w fun e w' => e = .returned (.agg (u32s (words8 (rounds wl 64 s))).toArray) ∧ Below w.heap.size w w' := by
  obtain ⟨vs, hvs⟩ : ∃ vs, vs = u32s (words8 s) := ⟨_, rfl⟩
  obtain ⟨ws, hws⟩ : ∃ ws, ws = u32s wl := ⟨_, rfl⟩
  obtain ⟨rs, hrs⟩ : ∃ rs, rs = u32s (words8 (rounds wl 64 s)) := ⟨_, rfl⟩
  rw [← hvs, ← hws, ← hrs]
  have HV := Lib.hid hvs
  have HW := Lib.hid hws
  have HRS := Lib.hid hrs
  have HL := Lib.hid hl
  have HIX := Lib.hid (show ∀ i, i < 64 → ∀ w, (Instr.index 41 (.agg ws.toArray) (.int .i64 ((i : Nat) : Int))).run Tryd.prog w = .ok (.int .u32 ((wl.getD i 0 : Nat) : Int)) w from fun i hi w => by rw [hws]; exact index64 hl hi w)
  have HWL := Lib.hid (fun i => getD_lt hw i)
  have HOK := Lib.hid hs
  have HT := Lib.hid hT
  have HWN := Lib.hid (show ws.length = 64 by rw [hws, u32s_len, hl])
  clear hvs hws hrs hl hw hs hT
  go_enter Tryd.func18, Tryd.ntmps18
  go_wp2_with fail
  have HM := Lib.hid (MRel.start w vs ws)
  generalize ((w.alloc (.cells vs.toArray 31)).alloc (.cells ws.toArray 41)).alloc (.cells #[.int .u32 0, .int .u32 0, .int .u32 0, .int .u32 0, .int .u32 0, .int .u32 0, .int .u32 0, .int .u32 0] 31) = wa at HM ⊢
  have hv : ∀ j, j < 8 → wa.cell? ⟨w.heap.size, j, none⟩ = some (.int .u32 (((words8 s).getD j 0 : Nat) : Int)) := fun j hj => by
    rw [HM.out.2.1.cell, HV.out, u32s_at hj]
  have v0 := hv 0 (by decide)
  have v1 := hv 1 (by decide)
  have v2 := hv 2 (by decide)
  have v3 := hv 3 (by decide)
  have v4 := hv 4 (by decide)
  have v5 := hv 5 (by decide)
  have v6 := hv 6 (by decide)
  have v7 := hv 7 (by decide)
  clear hv
  simp only [words8, List.getD_cons_zero, List.getD_cons_succ] at v0 v1 v2 v3 v4 v5 v6 v7
  go_quiet (fail)
  go_wp2_with fail
  have HM2 := Lib.hid (HM.out.drewN nq)
  clear HM v0 v1 v2 v3 v4 v5 v6 v7
  generalize wa.drewN nq = wb at HM2 ⊢
  have hv : ∀ j, j < 8 → wb.cell? ⟨w.heap.size, j, none⟩ = some (.int .u32 (((words8 s).getD j 0 : Nat) : Int)) := fun j hj => by
    rw [HM2.out.2.1.cell, HV.out, u32s_at hj]
  have v4 := hv 4 (by decide)
  have v5 := hv 5 (by decide)
  have v6 := hv 6 (by decide)
  have v7 := hv 7 (by decide)
  clear hv
  simp only [words8, List.getD_cons_zero, List.getD_cons_succ] at v4 v5 v6 v7
  go_quiet (fail)
  have HM3 := Lib.hid (HM2.out.drewN nq)
  clear HM2 v4 v5 v6 v7
  generalize wb.drewN nq = wc at HM3 ⊢
  have k1 := Lib.hid (HM3.out.2.2.1.loadAt (P := Tryd.prog) Tryd.underlying41 info64 HWN.out)
  go_wp2_with (refine wpList_load (t := 41) (x := .tmp 3) rfl rfl (.pointer (some ⟨w.heap.size + 1, 0, none⟩)) rfl k1.out ?_)
  clear k1
  go_loopw [34, 5, 6, 7, 8, 9, 10, 11, 12] (fun x a b c d e f g h wr => ∃ (i : Nat) (S : S8), i ≤ 64 ∧ x = .int .i64 (i : Int) ∧ a = .int .u32 (S.a : Int) ∧ b = .int .u32 (S.b : Int) ∧ c = .int .u32 (S.c : Int) ∧ d = .int .u32 (S.d : Int) ∧ e = .int .u32 (S.e : Int) ∧ f = .int .u32 (S.f : Int) ∧ g = .int .u32 (S.g : Int) ∧ h = .int .u32 (S.h : Int) ∧ Hid (S = rounds wl i s) ∧ MRel w vs ws wr) (fun x _ _ _ _ _ _ _ _ _ => 64 - (intOf x).toNat)
  case atStart => exact ⟨0, s, by omega, rfl, rfl, rfl, rfl, rfl, rfl, rfl, rfl, rfl, Lib.hid rfl, HM3.out⟩
  case round =>
    obtain ⟨i, S, hi, rfl, rfl, rfl, rfl, rfl, rfl, rfl, rfl, rfl, HS, hM⟩ := hrel
    clear HM3
    obtain ⟨a, b, c, d, e, f, g, h⟩ := S
    have hok : S8.Ok ⟨a, b, c, d, e, f, g, h⟩ := by rw [HS.out]; exact rounds_ok wl HOK.out i
    obtain ⟨la, lb, lc, ld, le, lf, lg, lh⟩ := hok
    dsimp only at la lb lc ld le lf lg lh ⊢
    have HM := Lib.hid hM
    clear hM
    by_cases hlt : i < 64
    · have ix := HIX.out i hlt
      have ln := HWL.out i
      have hk := ((HT.out.below HM.out.1 HT.out.two).2 i hlt)
      have lk := K_lt i
      obtain ⟨n, en⟩ : ∃ n, n = wl.getD i 0 := ⟨_, rfl⟩
      obtain ⟨k, ek⟩ : ∃ k, k = K.getD i 0 := ⟨_, rfl⟩
      rw [← en] at ix ln
      rw [← ek] at hk lk
      have EN := Lib.hid en
      have EK := Lib.hid ek
      clear en ek
      go_wp2_with fail
      go_quiet ((go_at_call 24; with_reducible exact quiet_same (rotI (by assumption) (by decide) (by decide))))
      have HM5 := Lib.hid (HM.out.drewN nq)
      clear HM hk
      generalize wr.drewN nq = wr5 at HM5 ⊢
      go_wp2_with ((go_at_call 24; with_reducible refine (rotI (by assumption) (by decide) (by decide)).mono ?_; rintro e w' ⟨rfl, rfl⟩))
      have eA := mix_a (k := k) (n := n) la lb lc le lf lg
      have eE := mix_e (d := d) (k := k) (n := n) (h := h) le lf lg
      go_roundw
      case rel => exact ⟨i + 1, ShaM.step k n ⟨a, b, c, d, e, f, g, h⟩, by omega, by go_num, congrArg (Value.int .u32) (eA h d), rfl, rfl, rfl, congrArg (Value.int .u32) (eE a b c), rfl, rfl, rfl, Lib.hid (by rw [HS.out, EN.out, EK.out]; rfl), HM5.out⟩
      case measure => simp [intOf]; omega
    · have H64 := Lib.hid (show i = 64 by omega)
      have hrs : rs = u32s (words8 ⟨a, b, c, d, e, f, g, h⟩) := by rw [HRS.out, HS.out, H64.out]
      have k2 := Lib.hid (HM.out.2.2.2.storeAt (P := Tryd.prog) (ds := u32s (words8 ⟨a, b, c, d, e, f, g, h⟩)) info8 rfl rfl (u32s_one _))
      have hr3 := HM.out.2.2.2.put (u32s (words8 ⟨a, b, c, d, e, f, g, h⟩))
      have HB' := Lib.hid (below_setRow HM.out.1 (show w.heap.size ≤ w.heap.size + 2 by omega) (u32s (words8 ⟨a, b, c, d, e, f, g, h⟩)).toArray)
      have HRS2 := Lib.hid hrs
      clear hrs
      go_wp2_with (refine wpList_store (t := 31) (x := .tmp 4) (y := .tmp 104) rfl rfl (.pointer (some ⟨w.heap.size + 2, 0, none⟩)) (.agg (u32s (words8 ⟨a, b, c, d, e, f, g, h⟩)).toArray) rfl rfl k2.out ?_)
      exact bodyPost_ret (hr3.results Tryd.underlying31 info8 rfl Tryd.results18 _ rfl) rfl ⟨by rw [HRS2.out], HB'.out⟩
end Go.Proofs.YtcccgcahmnmchaaDoor
