/-
  The walk of sha.Hex.
-/
import Derived.Test.YtcccgcahmnmchaaDoorShaSum
namespace Go.Proofs.YtcccgcahmnmchaaDoor
open Go.RowKit StrM ShaM

theorem slice32 (g : Nat) (W : World) : (Instr.sliceAt 24 (.pointer (some ⟨g, 0, none⟩)) none none none).run Tryd.prog W = .ok (.slice (some ⟨g, 0, none⟩) 32 32) W := by
  have ht : Tryd.prog.underlying 24 = some (.array (Tryd.prog.arrayLen 24) (Tryd.prog.elem 24)) := by kernel_rfl
  have hl : Tryd.prog.arrayLen 24 = 32 := by kernel_rfl
  have hz : ∀ W, (sizeOf (Tryd.prog.elem 24)).run Tryd.prog W = .ok 1 W := fun _ => by kernel_rfl
  rw [run_sliceAt_array_all W 24 _ ht, hz, hl]
  simp [Result.andThen, slicedAt, Addr.add]
/-- A block of bytes, read as a slice of all of it. -/
theorem Row.sees {w : World} {g : Nat} {t : TypeId} {l : List UInt8} {cs : List Value} (h : Row w g t cs) (hc : cs = bys l) (c : Nat) : SeesV w (.slice (some ⟨g, 0, none⟩) l.length c) (bys l) :=
  ⟨_, c, by rw [bys_len], .inr ⟨g, 0, rfl, h.lt, fun k hk => by rw [Nat.zero_add, h.cell k, hc, List.getElem?_eq_getElem hk]⟩⟩

set_option maxHeartbeats 800000 in
theorem hex_any (A : Option Addr) (len cap : Nat) (l : List UInt8) (w : World) (hv : SeesV w (.slice A len cap) (bys l)) (hcap : len ≤ cap) (hm : len ≤ 1000000) (hT : Tabs w) :
    Calls Tryd.prog 8 #[.slice A len cap] w fun e w' => e = .returned (.string (hexS (sumL l))) ∧ Below w.heap.size w w' := by
  have hsum := sum_any A len cap l w hv hcap hm hT
  obtain ⟨T, hT⟩ : ∃ T, T = hexS (sumL l) := ⟨_, rfl⟩
  rw [← hT]
  have HTX := Lib.hid hT
  obtain ⟨rs, hrs⟩ : ∃ rs, rs = bys (sumL l) := ⟨_, rfl⟩
  rw [← hrs] at hsum
  have HS := Lib.hid hsum
  have HRS := Lib.hid hrs
  have HLN := Lib.hid (show rs.length = 32 by rw [hrs, bys_len]; rfl)
  have HONE := Lib.hid (show (rs.all fun x => x.oneCell') = true by rw [hrs]; exact bys_one _)
  clear hv hT hsum hrs
  go_enter Tryd.func8, Tryd.ntmps8
  go_wp2_with fail
  refine HS.out.mono ?_
  rintro e w1 ⟨rfl, hb1⟩
  have B1 := Lib.hid hb1
  have R0 := Row.new w1 24 (bys (List.replicate 32 0))
  have k2 := Lib.hid (R0.storeAt (P := Tryd.prog) (ds := rs) info32 (by rw [bys_len, List.length_replicate]) HLN.out HONE.out)
  have R1 := R0.put rs
  have HB' := Lib.hid (below_setRow (below_made w1 (.cells (bys (List.replicate 32 0)).toArray 24)) (Nat.le_refl _) rs.toArray)
  clear R0 hb1
  go_wp2_with (refine wpList_store (t := 24) (x := .tmp 3) (y := .tmp 5) rfl rfl (.pointer (some ⟨w1.heap.size, 0, none⟩)) (.agg rs.toArray) rfl rfl k2.out ?_)
  have hsee := R1.sees HRS.out 32
  have hput := put_any (.slice (some ⟨w1.heap.size, 0, none⟩) 32 32) (sumL l) _ hsee (by show 32 ≤ 1000000; omega)
  rw [← HTX.out] at hput
  refine hput.mono ?_
  rintro e w3 ⟨rfl, hb3⟩
  have HB3 := Lib.hid (show Below w.heap.size w w3 from B1.out.trans ((HB'.out.mono B1.out.size).trans (hb3.mono (Nat.le_trans B1.out.size HB'.out.size))))
  clear hput hb3 R1 hsee
  go_wp2_with fail
  go_ret
  exact ⟨rfl, HB3.out⟩
end Go.Proofs.YtcccgcahmnmchaaDoor
