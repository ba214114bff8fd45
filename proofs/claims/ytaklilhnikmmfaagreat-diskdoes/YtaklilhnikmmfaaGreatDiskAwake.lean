/-
  The walk of awake: the example.
-/
import Derived.Test.YtaklilhnikmmfaaGreatDiskNew
namespace Go.Proofs.YtaklilhnikmmfaaGreat
open Go.RowKit StrM BlockM FileM DirM DiskM

def na : ByteArray := ⟨#[97]⟩
def t0 : S := init 100
def t1 : S := ⟨100, ⟨[⟨na, 1⟩], [], [⟨1, na, ⟨#[]⟩, 1⟩]⟩, [zf], 1, 0, 0, false⟩
def t2 : S := ⟨100, ⟨[⟨na, 1⟩], [], [⟨1, na, ⟨#[]⟩, 1⟩]⟩, [⟨[1, 2], [], [⟨0, [1, 2]⟩]⟩], 2, 0, 0, false⟩
def t3 : S := ⟨100, ⟨[⟨na, 1⟩], [], [⟨1, na, ⟨#[]⟩, 1⟩]⟩, [⟨[1, 2], [1, 2], []⟩], 3, 0, 0, false⟩
def t4 : S := ⟨100, ⟨[⟨na, 1⟩], [⟨na, 1⟩], []⟩, [⟨[1, 2], [1, 2], []⟩], 4, 0, 0, false⟩
def t5 : S := ⟨100, ⟨[⟨na, 1⟩], [⟨na, 1⟩], []⟩, [⟨[1, 9], [1, 2], [⟨1, [9]⟩]⟩], 5, 0, 0, false⟩
def t6 : S := ⟨100, ⟨[⟨na, 1⟩], [⟨na, 1⟩], []⟩, [⟨[1, 9], [1, 2], [⟨1, [9]⟩]⟩], 5, 0, 1, false⟩
def t7 : S := ⟨100, ⟨[⟨na, 1⟩], [⟨na, 1⟩], []⟩, [⟨[1, 9], [1, 2], [⟨1, [9]⟩]⟩], 6, 0, 0, true⟩
def t8 : S := ⟨100, ⟨[⟨na, 1⟩], [⟨na, 1⟩], []⟩, [⟨[1, 2], [1, 2], []⟩], 6, 0, 0, false⟩

theorem pl1 : pList 0 [1, 2] = [⟨0, [1, 2]⟩] := by
  unfold pList
  rw [if_neg (by decide), if_neg (by decide)]
  exact pieces_short 0 (by decide) (by decide)
theorem pl2 : pList 1 [9] = [⟨1, [9]⟩] := by
  unfold pList
  rw [if_neg (by decide), if_neg (by decide)]
  exact pieces_short 1 (by decide) (by decide)
theorem pl3 : pList 0 [7] = [⟨0, [7]⟩] := by
  unfold pList
  rw [if_neg (by decide), if_neg (by decide)]
  exact pieces_short 0 (by decide) (by decide)

theorem st1 : dirE t0 ⟨1, na, ⟨#[]⟩, 0⟩ = 0 ∧ dirS t0 ⟨1, na, ⟨#[]⟩, 0⟩ = t1 := ⟨by kernel_rfl, by kernel_rfl⟩
theorem nf2 : newF t1 na 0 [1, 2] = ⟨[1, 2], [], [⟨0, [1, 2]⟩]⟩ := by
  unfold newF; rw [pl1]; kernel_rfl
theorem we2 : wE t1 na 0 [1, 2] = 0 := by
  unfold wE full; rw [nf2]; kernel_rfl
theorem st2 : fE t1 na (wE t1 na 0 [1, 2]) = 0 ∧ fS t1 na (wE t1 na 0 [1, 2]) (newF t1 na 0 [1, 2]) = t2 := by
  rw [we2, nf2]; exact ⟨by kernel_rfl, by kernel_rfl⟩
theorem st3 : fE t2 na 0 = 0 ∧ fS t2 na 0 (syn (DiskM.file t2 na)) = t3 := ⟨by kernel_rfl, by kernel_rfl⟩
theorem st4 : syncDE t3 = 0 ∧ syncDS t3 = t4 := ⟨by kernel_rfl, by kernel_rfl⟩
theorem nf5 : newF t4 na 1 [9] = ⟨[1, 9], [1, 2], [⟨1, [9]⟩]⟩ := by
  unfold newF; rw [pl2]; kernel_rfl
theorem we5 : wE t4 na 1 [9] = 0 := by
  unfold wE full; rw [nf5]; kernel_rfl
theorem st5 : fE t4 na (wE t4 na 1 [9]) = 0 ∧ fS t4 na (wE t4 na 1 [9]) (newF t4 na 1 [9]) = t5 := by
  rw [we5, nf5]; exact ⟨by kernel_rfl, by kernel_rfl⟩
theorem nf7 : newF t6 na 0 [7] = ⟨[7, 9], [1, 2], [⟨1, [9]⟩, ⟨0, [7]⟩]⟩ := by
  unfold newF; rw [pl3]; kernel_rfl
theorem we7 : wE t6 na 0 [7] = 0 := by
  unfold wE full; rw [nf7]; kernel_rfl
theorem st7 : fE t6 na (wE t6 na 0 [7]) = 9 ∧ fS t6 na (wE t6 na 0 [7]) (newF t6 na 0 [7]) = t7 := by
  rw [we7, nf7]; exact ⟨by kernel_rfl, by kernel_rfl⟩
theorem st8 : reboot t7 [] 0 = t8 := by kernel_rfl
theorem rd8 : has t8.dir.now na = true ∧ (DiskM.file t8 na).now = [1, 2] := ⟨by kernel_rfl, by kernel_rfl⟩
end Go.Proofs.YtaklilhnikmmfaaGreat
