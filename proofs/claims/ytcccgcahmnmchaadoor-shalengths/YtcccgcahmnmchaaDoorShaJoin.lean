/-
  The walk of sha.join.
-/
import Derived.Test.YtcccgcahmnmchaaDoorShaProc
namespace Go.Proofs.YtcccgcahmnmchaaDoor
open Go.RowKit StrM ShaM

/-- The bytes of the first i values, then zeros: 32 in all. -/
def jfill (s : S8) : Nat → List UInt8
  | 0 => List.replicate 32 0
  | i + 1 => ((((jfill s i).set (4 * i) (byteAt ((words8 s).getD i 0) 3)).set (4 * i + 1) (byteAt ((words8 s).getD i 0) 2)).set (4 * i + 2) (byteAt ((words8 s).getD i 0) 1)).set (4 * i + 3) (byteAt ((words8 s).getD i 0) 0)
theorem jfill_len (s : S8) (i : Nat) : (jfill s i).length = 32 := by
  induction i with
  | zero => rfl
  | succ i ih => simp [jfill, ih]
theorem jfill_done (s : S8) : jfill s 8 = outL s := by kernel_rfl

def JRel (w : World) (s : S8) (i : Nat) (wr : World) : Prop :=
  Below w.heap.size w wr ∧ Row wr (w.heap.size + 1) 24 (bys (List.replicate 32 0)) ∧ Row wr (w.heap.size + 1 + 1) 24 (bys (jfill s i))
theorem JRel.start (w : World) (s : S8) (o : Obj) : JRel w s 0 (((w.alloc o).alloc (.cells (Array.replicate 32 (.int .u8 0)) 24)).alloc (.cells (Array.replicate 32 (.int .u8 0)) 24)) := by
  have e : (Array.replicate 32 (.int .u8 0) : Array Value) = (bys (List.replicate 32 0)).toArray := by rfl
  rw [e]
  refine ⟨(((Below.refl _ _).alloc (Nat.le_refl _) _).alloc (by simp) _).alloc (by simp; omega) _, ?_, ?_⟩
  · have := (Row.new (w.alloc o) 24 (bys (List.replicate 32 0))).alloc (.cells (bys (List.replicate 32 0)).toArray 24)
    simpa only [World.size_alloc] using this
  · have := Row.new ((w.alloc o).alloc (.cells (bys (List.replicate 32 0)).toArray 24)) 24 (bys (List.replicate 32 0))
    simp only [World.size_alloc] at this
    exact this
theorem JRel.step {w wr : World} {s : S8} {i : Nat} (h : JRel w s i wr) {x0 x1 x2 x3 : Int} (h0 : x0 = ((byteAt ((words8 s).getD i 0) 3).toNat : Int)) (h1 : x1 = ((byteAt ((words8 s).getD i 0) 2).toNat : Int)) (h2 : x2 = ((byteAt ((words8 s).getD i 0) 1).toNat : Int)) (h3 : x3 = ((byteAt ((words8 s).getD i 0) 0).toNat : Int)) :
    JRel w s (i + 1) ((((wr.setCell ⟨w.heap.size + 1 + 1, 4 * i, none⟩ (.int .u8 x0)).setCell ⟨w.heap.size + 1 + 1, 4 * i + 1, none⟩ (.int .u8 x1)).setCell ⟨w.heap.size + 1 + 1, 4 * i + 2, none⟩ (.int .u8 x2)).setCell ⟨w.heap.size + 1 + 1, 4 * i + 3, none⟩ (.int .u8 x3)) := by
  subst h0 h1 h2 h3
  refine ⟨((((h.1.setCell (by simp; omega) _).setCell (by simp; omega) _).setCell (by simp; omega) _).setCell (by simp; omega) _), (((h.2.1.far (p := ⟨w.heap.size + 1 + 1, _, none⟩) (by simp) _).far (p := ⟨w.heap.size + 1 + 1, _, none⟩) (by simp) _).far (p := ⟨w.heap.size + 1 + 1, _, none⟩) (by simp) _).far (p := ⟨w.heap.size + 1 + 1, _, none⟩) (by simp) _, ?_⟩
  have := (((h.2.2.set (4 * i) (.int .u8 ((byteAt ((words8 s).getD i 0) 3).toNat : Int))).set (4 * i + 1) (.int .u8 ((byteAt ((words8 s).getD i 0) 2).toNat : Int))).set (4 * i + 2) (.int .u8 ((byteAt ((words8 s).getD i 0) 1).toNat : Int))).set (4 * i + 3) (.int .u8 ((byteAt ((words8 s).getD i 0) 0).toNat : Int))
  rw [bys_set, bys_set, bys_set, bys_set] at this
  exact this
theorem JRel.at_ {w wr : World} {s : S8} {i j : Nat} (h : JRel w s i wr) (hj : j < 32) : ∃ v, wr.cell? ⟨w.heap.size + 1 + 1, j, none⟩ = some (.int .u8 v) := by
  rw [h.2.2.cell, bys_at (by rw [jfill_len]; exact hj)]; exact ⟨_, rfl⟩
theorem info32 : (Tryd.prog.info? 24).map (·.size) = some 32 := by kernel_rfl

theorem index8 {ws : List Nat} (hl : ws.length = 8) {i : Nat} (hi : i < 8) (w : World) :
    (Instr.index 31 (.agg (u32s ws).toArray) (.int .i64 (i : Int))).run Tryd.prog w = .ok (.int .u32 ((ws.getD i 0 : Nat) : Int)) w := by
  have hz : ∀ W, (sizeOf 30).run Tryd.prog W = .ok 1 W := fun _ => by kernel_rfl
  have ha : ∀ W, (isAgg 30).run Tryd.prog W = .ok false W := fun _ => by kernel_rfl
  have hc := u32s_at (l := ws) (i := i) (by omega)
  unfold Instr.index
  simp [asIntOf, run_underlying Tryd.underlying31, hz, ha, part, hi, hc]

set_option maxHeartbeats 800000 in
set_option maxRecDepth 100000 in
theorem join_any (s : S8) (w : World) (hs : s.Ok) :
    Calls Tryd.prog 11 #[.agg (u32s (words8 s)).toArray] w fun e w' => e = .returned (.agg (bys (outL s)).toArray) ∧ Below w.heap.size w w' := by
  obtain ⟨vs, hvs⟩ : ∃ vs, vs = u32s (words8 s) := ⟨_, rfl⟩
  obtain ⟨rs, hrs⟩ : ∃ rs, rs = bys (outL s) := ⟨_, rfl⟩
  rw [← hvs, ← hrs]
  have HIX := Lib.hid (show ∀ i, i < 8 → ∀ w, (Instr.index 31 (.agg vs.toArray) (.int .i64 ((i : Nat) : Int))).run Tryd.prog w = .ok (.int .u32 (((words8 s).getD i 0 : Nat) : Int)) w from fun i hi w => by rw [hvs]; exact index8 rfl hi w)
  have HRS := Lib.hid hrs
  have HLN := Lib.hid (show rs.length = 32 by rw [hrs, bys_len, outL_len])
  have HONE := Lib.hid (show (rs.all fun x => x.oneCell') = true by rw [hrs]; exact bys_one _)
  have HVN := Lib.hid (show vs.length = 8 by rw [hvs]; rfl)
  have HOK := Lib.hid hs
  clear hvs hrs hs
  go_enter Tryd.func11, Tryd.ntmps11
  have k1 : ∀ o1 o2, Hid ((Instr.loadAt 31 (.pointer (some ⟨w.heap.size, 0, none⟩))).run Tryd.prog (((w.alloc (.cells vs.toArray 31)).alloc o1).alloc o2) = .ok (.agg vs.toArray) (((w.alloc (.cells vs.toArray 31)).alloc o1).alloc o2)) := fun o1 o2 => Lib.hid
    ((((Row.new w 31 vs).alloc o1).alloc o2).loadAt Tryd.underlying31 info8 HVN.out)
  go_wp2_with (refine wpList_load (t := 31) (x := .tmp 1) rfl rfl (.pointer (some ⟨w.heap.size, 0, none⟩)) rfl (k1 _ _).out ?_)
  clear k1
  go_loopw [7] (fun x wr => ∃ i : Nat, i ≤ 8 ∧ x = .int .i64 (i : Int) ∧ JRel w s i wr) (fun x _ => 8 - (intOf x).toNat)
  case atStart => exact ⟨0, by omega, rfl, JRel.start w s _⟩
  case round =>
    obtain ⟨i, hi, rfl, hR⟩ := hrel
    have HR := Lib.hid hR
    clear hR
    by_cases hlt : i < 8
    · have ix := HIX.out i hlt
      have lx := words_lt HOK.out i
      obtain ⟨x, ex⟩ : ∃ x, x = (words8 s).getD i 0 := ⟨_, rfl⟩
      rw [← ex] at ix lx
      have EX := Lib.hid ex
      clear ex
      have hfz := HR.out.2.2.frozen
      obtain ⟨u0, c0⟩ := HR.out.at_ (show 4 * i < 32 by omega)
      obtain ⟨u1, c1⟩ := HR.out.at_ (show 4 * i + 1 < 32 by omega)
      obtain ⟨u2, c2⟩ := HR.out.at_ (show 4 * i + 2 < 32 by omega)
      obtain ⟨u3, c3⟩ := HR.out.at_ (show 4 * i + 3 < 32 by omega)
      have n0 : (4 * (i : Int)).toNat = 4 * i := by omega
      have n1 : (4 * (i : Int) + 1).toNat = 4 * i + 1 := by omega
      have n2 : (4 * (i : Int) + 2).toNat = 4 * i + 2 := by omega
      have n3 : (4 * (i : Int) + 3).toNat = 4 * i + 3 := by omega
      go_wp2_with fail
      have HR' := Lib.hid (HR.out.step (x0 := (x : Int) / 16777216) (x1 := (x : Int) / 65536 % 256) (x2 := (x : Int) / 256 % 256) (x3 := (x : Int) % 256) (by rw [← EX.out, byteAt_toNat]; omega) (by rw [← EX.out, byteAt_toNat]; omega) (by rw [← EX.out, byteAt_toNat]; omega) (by rw [← EX.out, byteAt_toNat]; omega))
      go_roundw
      case rel => exact ⟨i + 1, by omega, by go_num, HR'.out⟩
      case measure => simp [intOf]; omega
    · have H8 := Lib.hid (show i = 8 by omega)
      have hR := HR.out
      rw [H8.out] at hR
      obtain ⟨hb0, hr1, hr2⟩ := hR
      have hrs := HRS.out
      rw [jfill_done, ← hrs] at hr2
      have k1 := Lib.hid (hr2.loadAt (P := Tryd.prog) Tryd.underlying24 info32 HLN.out)
      have k2 := Lib.hid (hr1.storeAt (P := Tryd.prog) (ds := rs) info32 (by rw [bys_len, List.length_replicate]) HLN.out HONE.out)
      have hr3 := hr1.put rs
      have HB' := Lib.hid (below_setRow hb0 (show w.heap.size ≤ w.heap.size + 1 by omega) rs.toArray)
      clear hb0 hr1 hr2 hrs H8 HR
      go_wp2_with (first
        | (refine wpList_load (t := 24) (x := .tmp 3) rfl rfl (.pointer (some ⟨w.heap.size + 1 + 1, 0, none⟩)) rfl k1.out ?_)
        | (refine wpList_store (t := 24) (x := .tmp 2) (y := .tmp 38) rfl rfl (.pointer (some ⟨w.heap.size + 1, 0, none⟩)) (.agg rs.toArray) rfl rfl k2.out ?_))
      exact bodyPost_ret (hr3.results Tryd.underlying24 info32 HLN.out Tryd.results11 _ rfl) rfl ⟨rfl, HB'.out⟩
end Go.Proofs.YtcccgcahmnmchaaDoor
