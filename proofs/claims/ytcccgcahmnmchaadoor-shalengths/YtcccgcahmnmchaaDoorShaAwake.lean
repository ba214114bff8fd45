/-
  The walks of the reference's Hex and of awake.
-/
import Derived.Test.YtcccgcahmnmchaaDoorShaRefF
import Derived.Test.YtcccgcahmnmchaaDoorHexRef
import Derived.Test.YtcccgcahmnmchaaDoorShaEval
namespace Go.Proofs.YtcccgcahmnmchaaDoor
open Go.RowKit StrM ShaM

set_option maxHeartbeats 800000 in
theorem rhex_any (A : Option Addr) (len cap : Nat) (l : List UInt8) (w : World) (hv : SeesV w (.slice A len cap) (bys l)) (hm : len ≤ 1000000) :
    Calls Tryd.prog 9 #[.slice A len cap] w fun e w' => e = .returned (.string (hexS (sumL l))) ∧ Below w.heap.size w w' := by
  have hsum := rsum_any A len cap l w hv hm
  obtain ⟨T, hT⟩ : ∃ T, T = hexS (sumL l) := ⟨_, rfl⟩
  rw [← hT]
  have HTX := Lib.hid hT
  obtain ⟨rs, hrs⟩ : ∃ rs, rs = bys (sumL l) := ⟨_, rfl⟩
  rw [← hrs] at hsum
  have HS := Lib.hid hsum
  have HRS := Lib.hid hrs
  have HLN := Lib.hid (show rs.length = 32 by rw [hrs, bys_len]; rfl)
  have HONE := Lib.hid (show (rs.all fun x => x.oneCell') = true by rw [hrs]; exact bys_one _)
  clear hv hT hsum hrs
  go_enter Tryd.func9, Tryd.ntmps9
  go_wp2_with fail
  refine HS.out.mono ?_
  rintro e w1 ⟨rfl, hb1⟩
  have B1 := Lib.hid hb1
  have R0 := Row.new w1 24 (bys (List.replicate 32 0))
  have k2 := Lib.hid (R0.storeAt (P := Tryd.prog) (ds := rs) info32 (by rw [bys_len, List.length_replicate]) HLN.out HONE.out)
  have R1 := R0.put rs
  have HB' := Lib.hid (below_setRow (below_made w1 (.cells (bys (List.replicate 32 0)).toArray 24)) (Nat.le_refl _) rs.toArray)
  clear R0 hb1
  go_wp2_with (refine wpList_store (t := 24) (x := .tmp 3) (y := .tmp 5) rfl rfl (.pointer (some ⟨w1.heap.size, 0, none⟩)) (.agg rs.toArray) rfl rfl k2.out ?_)
  have hsee := R1.sees HRS.out 32
  have hput := rput_any (.slice (some ⟨w1.heap.size, 0, none⟩) 32 32) (sumL l) _ hsee (by show 32 ≤ 1000000; omega)
  rw [← HTX.out] at hput
  refine hput.mono ?_
  rintro e w3 ⟨rfl, hb3⟩
  have HB3 := Lib.hid (show Below w.heap.size w w3 from B1.out.trans ((HB'.out.mono B1.out.size).trans (hb3.mono (Nat.le_trans B1.out.size HB'.out.size))))
  clear hput hb3 R1 hsee
  go_wp2_with fail
  go_ret
  exact ⟨rfl, HB3.out⟩

def hexNone : ByteArray := ⟨#[101, 51, 98, 48, 99, 52, 52, 50, 57, 56, 102, 99, 49, 99, 49, 52, 57, 97, 102, 98, 102, 52, 99, 56, 57, 57, 54, 102, 98, 57, 50, 52, 50, 55, 97, 101, 52, 49, 101, 52, 54, 52, 57, 98, 57, 51, 52, 99, 97, 52, 57, 53, 57, 57, 49, 98, 55, 56, 53, 50, 98, 56, 53, 53]⟩
def hexAbc : ByteArray := ⟨#[98, 97, 55, 56, 49, 54, 98, 102, 56, 102, 48, 49, 99, 102, 101, 97, 52, 49, 52, 49, 52, 48, 100, 101, 53, 100, 97, 101, 50, 50, 50, 51, 98, 48, 48, 51, 54, 49, 97, 51, 57, 54, 49, 55, 55, 97, 57, 99, 98, 52, 49, 48, 102, 102, 54, 49, 102, 50, 48, 48, 49, 53, 97, 100]⟩
theorem hex_none : hexS (sumL []) = hexNone := by rw [sum_none]; kernel_rfl
theorem hex_abc : hexS (sumL [97, 98, 99]) = hexAbc := by rw [sum_abc]; kernel_rfl
theorem sees_nil (w : World) : SeesV w (.slice none 0 0) (bys []) := ⟨none, 0, rfl, .inl rfl⟩
theorem push_modify (a : Array Obj) (x : Obj) (f : Obj → Obj) : (a.push x).modify a.size f = a.push (f x) := by
  apply Array.ext
  · simp
  · intro i h1 h2
    simp only [Array.getElem_modify, Array.getElem_push]
    by_cases h : i < a.size
    · have : a.size ≠ i := by omega
      simp [h, this]
    · have : a.size = i := by simp at h1; omega
      subst this; simp
theorem freeze_new (w : World) (C : Array Value) (e : TypeId) (n : Nat) : (w.alloc (.cells C e)).freeze ⟨w.heap.size, n, none⟩ 1 = w.alloc (.cells C e (n, n + 1)) := by
  unfold World.freeze
  rw [if_neg (by decide)]
  show ({ w.alloc (.cells C e) with heap := (w.heap.push (.cells C e)).modify w.heap.size _ } : World) = _
  rw [push_modify]
  rfl
/-- []byte("abc"). -/
theorem conv_abc (w : World) : (convert 22 22 (.slice (some ⟨w.heap.size, 0, none⟩) 3 3)).run Tryd.prog (w.alloc (.cells #[.int .u8 97, .int .u8 98, .int .u8 99] 5)) =
    .ok (.slice (some ⟨w.heap.size, 0, none⟩) 3 3) (w.alloc (.cells #[.int .u8 97, .int .u8 98, .int .u8 99] 5 (3, 4))) := by
  have hsh : (w.alloc (.cells #[.int .u8 97, .int .u8 98, .int .u8 99] 5)).shape? w.heap.size = some (5, 3) := by
    unfold World.shape? World.alloc; simp
  have hfr := freeze_new w #[.int .u8 97, .int .u8 98, .int .u8 99] 5 3
  simp [convert, run_underlying Tryd.underlying22, run_underlying Tryd.underlying5, markStringish, hsh, hfr]
theorem abc_marked (w : World) : SeesV (w.alloc (.cells #[.int .u8 97, .int .u8 98, .int .u8 99] 5 (3, 4))) (.slice (some ⟨w.heap.size, 0, none⟩) 3 3) (bys [97, 98, 99]) := by
  refine ⟨_, 3, rfl, .inr ⟨w.heap.size, 0, rfl, by simp, fun k hk => ?_⟩⟩
  rw [Nat.zero_add, World.cell?_alloc_mark]
  have hk3 : k < 3 := hk
  rcases k with _ | _ | _ | k
  · rfl
  · rfl
  · rfl
  · omega
set_option maxHeartbeats 800000 in
theorem awake_any (w : World) (hT : Tabs w) : Calls Tryd.prog 5 #[] w fun e w' => e = .returned (.bool true) ∧ Below w.heap.size w w' := by
  have h1 := hex_any none 0 0 [] w (sees_nil w) (Nat.le_refl _) (by omega) hT
  rw [hex_none] at h1
  unfold hexNone at h1
  have H1 := Lib.hid h1
  have h2 : ∀ W, Below w.heap.size w W → Calls Tryd.prog 8 #[.slice (some ⟨W.heap.size, 0, none⟩) 3 3] (W.alloc (.cells #[.int .u8 97, .int .u8 98, .int .u8 99] 5 (3, 4))) fun e w' => e = .returned (.string hexAbc) ∧ Below w.heap.size w w' := fun W hb => by
    have hb2 := hb.alloc hb.size (.cells #[.int .u8 97, .int .u8 98, .int .u8 99] 5 (3, 4))
    have := hex_any (some ⟨W.heap.size, 0, none⟩) 3 3 [97, 98, 99] _ (abc_marked W) (Nat.le_refl _) (by omega) (hT.below hb2 hT.two)
    rw [hex_abc] at this
    exact this.mono fun _ _ h => ⟨h.1, hb2.trans (h.2.mono hb2.size)⟩
  unfold hexAbc at h2
  have H2 := Lib.hid h2
  have hcv := conv_abc
  clear h1 h2 hT
  go_enter Tryd.func5, Tryd.ntmps5
  go_wp2_with fail
  refine H1.out.mono ?_
  rintro e w1 ⟨rfl, hb1⟩
  have B1 := Lib.hid hb1
  clear hb1
  go_wp2_with fail
  refine (H2.out _ B1.out).mono ?_
  rintro e w2 ⟨rfl, hb2⟩
  have B2 := Lib.hid hb2
  clear hb2
  go_wp2_with fail
  go_ret
  exact ⟨rfl, B2.out⟩
end Go.Proofs.YtcccgcahmnmchaaDoor
