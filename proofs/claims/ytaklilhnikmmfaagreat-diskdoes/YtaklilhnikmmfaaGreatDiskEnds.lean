/-
  The methods of a disk, each with one contract for every state; the walk of the example that the statements of layer 11 share.
-/
import Derived.Test.YtaklilhnikmmfaaGreatDiskAwake
import Derived.Test.YtaklilhnikmmfaaGreatJRow
namespace Go.Proofs.YtaklilhnikmmfaaGreat
open Go.RowKit StrM BlockM FileM DirM DiskM

theorem trip_any (N p i : Nat) (s : S) (n : Int) (w : World) (h : CD N p i s w) (hI : Inv i s) :
    Calls Tryz.prog 31 #[.pointer (some ⟨p, 0, none⟩), .int .i64 n] w fun e w' => e = .returned (.tuple #[]) ∧ CD N p i { s with trip := n } w' ∧ Veer true N p w w' := by
  obtain ⟨r, k, g, H⟩ := h
  refine (trip_live p r n w H.box).mono ?_
  rintro e w' ⟨rfl, rfl⟩
  have hv := (Veer.refl false N p w).set H.baseP 7 (.int .i64 n)
  exact ⟨rfl, ⟨{ r with trip := n }, k, g, H.turned hI.fine hv (H.box.setTrip n) rfl rfl rfl rfl rfl rfl rfl H.room H.ops rfl H.stop H.down (Nat.le_refl _)⟩, hv.weak⟩
theorem stop_any (N p i : Nat) (s : S) (n : Int) (w : World) (h : CD N p i s w) (hI : Inv i s) :
    Calls Tryz.prog 27 #[.pointer (some ⟨p, 0, none⟩), .int .i64 n] w fun e w' => e = .returned (.tuple #[]) ∧ CD N p i { s with stop := n } w' ∧ Veer true N p w w' := by
  obtain ⟨r, k, g, H⟩ := h
  refine (stop_live p r n w H.box).mono ?_
  rintro e w' ⟨rfl, rfl⟩
  have hv := (Veer.refl false N p w).set H.baseP 8 (.int .i64 n)
  exact ⟨rfl, ⟨{ r with stop := n }, k, g, H.turned hI.fine hv (H.box.setStop n) rfl rfl rfl rfl rfl rfl rfl H.room H.ops H.trip rfl H.down (Nat.le_refl _)⟩, hv.weak⟩
theorem down_any (N p i : Nat) (s : S) (w : World) (h : CD N p i s w) :
    Calls Tryz.prog 12 #[.pointer (some ⟨p, 0, none⟩)] w fun e w' => e = .returned (.bool s.down) ∧ Below w.heap.size w w' := by
  obtain ⟨r, k, g, H⟩ := h
  refine (down_live p r w H.box).mono ?_
  rintro e w' ⟨rfl, rfl⟩
  rw [H.down]
  exact ⟨rfl, Below.refl _ _⟩
theorem ops_any (N p i : Nat) (s : S) (w : World) (h : CD N p i s w) :
    Calls Tryz.prog 13 #[.pointer (some ⟨p, 0, none⟩)] w fun e w' => e = .returned (.int .i64 s.ops) ∧ Below w.heap.size w w' := by
  obtain ⟨r, k, g, H⟩ := h
  refine (ops_live p r w H.box).mono ?_
  rintro e w' ⟨rfl, rfl⟩
  rw [H.ops]
  exact ⟨rfl, Below.refl _ _⟩
theorem used_any (N p i : Nat) (s : S) (w : World) (h : CD N p i s w) (hI : Inv i s) (hi : i ≤ 100) :
    Calls Tryz.prog 21 #[.pointer (some ⟨p, 0, none⟩)] w fun e w' => e = .returned (.int .i64 (if s.down then 0 else (used s : Int))) ∧ Below w.heap.size w w' := by
  cases hd : s.down
  · exact (used_live N p i s w h hI hi hd).mono fun e w' h => by simpa using h
  · obtain ⟨r, k, g, H⟩ := h
    refine (used_down p r w H.box (by rw [H.down]; exact hd)).mono ?_
    rintro e w' ⟨rfl, rfl⟩
    exact ⟨by simp, Below.refl _ _⟩
theorem list_any (N p i : Nat) (s : S) (w : World) (h : CD N p i s w) (hI : Inv i s) :
    Calls Tryz.prog 15 #[.pointer (some ⟨p, 0, none⟩)] w (LPost (if s.down then [] else s.dir.now) w) := by
  cases hd : s.down
  · exact (list_live N p i s w h hI hd).mono fun e w' h => by simpa using h
  · obtain ⟨r, k, g, H⟩ := h
    refine (list_down p r w H.box (by rw [H.down]; exact hd)).mono ?_
    rintro e w' ⟨rfl, rfl⟩
    exact ⟨_, rfl, ⟨none, 0, rfl, .inl rfl⟩, Below.refl _ _⟩
theorem read_any (N p i : Nat) (s : S) (nm : ByteArray) (w : World) (h : CD N p i s w) (hI : Inv i s) (hi : i ≤ 100) :
    Calls Tryz.prog 18 #[.pointer (some ⟨p, 0, none⟩), .string nm] w (RPost (if s.down then [] else if has s.dir.now nm then (file s nm).now else []) (if s.down then 9 else if has s.dir.now nm then 0 else 5) w) := by
  cases hd : s.down
  · exact (read_live N p i s nm w h hI hi hd).mono fun e w' h => by simpa using h
  · obtain ⟨r, k, g, H⟩ := h
    refine (read_down p r nm w H.box (by rw [H.down]; exact hd)).mono ?_
    rintro e w' ⟨rfl, rfl⟩
    exact ⟨_, rfl, ⟨none, 0, rfl, .inl rfl⟩, Below.refl _ _⟩

/-! ### The example -/
theorem pl9 : pList 99 [1, 2] = [⟨99, [1, 2]⟩] := by
  unfold pList
  rw [if_neg (by decide), if_neg (by decide)]
  exact pieces_short 99 (by decide) (by decide)
theorem we9 : wE t8 na 99 [1, 2] = 7 := by
  have hf : newF t8 na 99 [1, 2] = wrote (DiskM.file t8 na) (pList 99 [1, 2]) := rfl
  have hl : (newF t8 na 99 [1, 2]).now.length = 101 := by
    unfold newF
    rw [pl9]
    kernel_rfl
  have h1 : full t8 na 99 [1, 2] = true := by
    unfold full
    rw [hl]
    decide
  unfold wE
  rw [h1]
  decide
theorem st9 : fE t8 na (wE t8 na 99 [1, 2]) = 7 ∧ fS t8 na (wE t8 na 99 [1, 2]) (newF t8 na 99 [1, 2]) = t8 := by
  rw [we9]; exact ⟨by kernel_rfl, by kernel_rfl⟩
theorem us9 : used t8 = 2 := by kernel_rfl
theorem ls9 : t8.dir.now.length = 1 := by kernel_rfl
end Go.Proofs.YtaklilhnikmmfaaGreat
