/-
  The leaves of file: bytes.Equal, the reference's Bytes, the function literal that tells an invalid piece, slices.IndexFunc and slices.ContainsFunc with it, spoiled.
-/
import Derived.Test.YtaklilhnikmmfaaGreatBlockLay
import Derived.Test.YtaklilhnikmmfaaGreatFileMath
namespace Go.Proofs.YtaklilhnikmmfaaGreat
open Go.RowKit StrM BlockM FileM

theorem bytes_ne {a b : List UInt8} (h : ¬ a = b) : ¬ (⟨a.toArray⟩ : ByteArray).toList = (⟨b.toArray⟩ : ByteArray).toList := by
  rw [Lib.toList_data, Lib.toList_data]
  exact h

/-- bytes.Equal. -/
theorem equal_any (v1 v2 : Value) (a b : List UInt8) (w : World) (h1 : SeesV w v1 (bys a)) (h2 : SeesV w v2 (bys b)) :
    Calls Tryz.prog 98 #[v1, v2] w fun e w' => e = .returned (.bool (decide (a = b))) ∧ w = w' := by
  have r1 := run_text_sees h1
  have r2 := run_text_sees h2
  by_cases h : a = b
  · subst h
    rw [decide_eq_true rfl]
    clear h1 h2
    generalize (⟨a.toArray⟩ : ByteArray) = S at *
    go_enter Tryz.func98, Tryz.ntmps98
    go_wp2_with fail
    go_ret
    exact ⟨rfl, rfl⟩
  · have hne := bytes_ne h
    rw [decide_eq_false h]
    clear h1 h2 h
    generalize (⟨a.toArray⟩ : ByteArray) = S at *
    generalize (⟨b.toArray⟩ : ByteArray) = T at *
    go_enter Tryz.func98, Tryz.ntmps98
    go_wp2_with fail
    go_ret
    exact ⟨ret_bool (by simpa using hne), rfl⟩

theorem bytes_any (v1 v2 : Value) (a b : List UInt8) (w : World) (h1 : SeesV w v1 (bys a)) (h2 : SeesV w v2 (bys b)) :
    Calls Tryz.prog 20 #[v1, v2] w fun e w' => e = .returned (.bool (decide (a = b))) ∧ w = w' := by
  have r1 := run_text_sees h1
  have r2 := run_text_sees h2
  by_cases h : a = b
  · subst h
    rw [decide_eq_true rfl]
    clear h1 h2
    generalize (⟨a.toArray⟩ : ByteArray) = S at *
    go_enter Tryz.func20, Tryz.ntmps20
    go_wp2_with fail
    go_ret
    exact ⟨rfl, rfl⟩
  · have hne := bytes_ne h
    rw [decide_eq_false h]
    clear h1 h2 h
    generalize (⟨a.toArray⟩ : ByteArray) = S at *
    generalize (⟨b.toArray⟩ : ByteArray) = T at *
    go_enter Tryz.func20, Tryz.ntmps20
    go_wp2_with fail
    go_ret
    exact ⟨ret_bool (by simpa using hne), rfl⟩

/-- The function literal: is a piece invalid? -/
theorem lit_any (p : Int) (A : Option Addr) (n c : Nat) (w : World) (hp : p ≤ 9223372036854775807) : Calls Tryz.prog 125 #[.agg #[.int .i64 p, .slice A n c]] w fun e w' => e = .returned (.bool (!okN p n)) ∧ Below w.heap.size w w' := by
  have RI := Lib.hid (fun w => bright_any p A n c w hp)
  generalize okN p n = o at *
  clear hp
  go_enter Tryz.func125, Tryz.ntmps125
  go_wp2_with fail
  refine (RI.out _).mono ?_
  rintro e w' ⟨rfl, hb⟩
  have B1 := Lib.hid ((below_made w (.cells #[.int .i64 p, .slice A n c] 113)).trans (hb.mono (below_made w _).size))
  clear hb
  cases o with
  | false =>
    go_wp2_with fail
    go_ret
    exact ⟨rfl, B1.out⟩
  | true =>
    go_wp2_with fail
    go_ret
    exact ⟨rfl, B1.out⟩

/-- The place of the first invalid piece, -1 if there is none. -/
def firstBad (l : List P) (i : Int) : Prop := (i = -1 ∧ l.all ok = true) ∨ (0 ≤ i ∧ l.all ok = false)

set_option maxHeartbeats 1000000 in
set_option maxRecDepth 100000 in
theorem index_any (v : Value) (l : List P) (w : World) (hs : SeesP w v l) (hp : ∀ x ∈ l, x.p ≤ 9223372036854775807) (hL : l.length ≤ 1000000) :
    Calls Tryz.prog 137 #[v, .func (.func 125) #[] #[]] w fun e w' => (∃ i : Int, e = .returned (.int .i64 i) ∧ firstBad l i) ∧ Below w.heap.size w w' := by
  obtain ⟨len, hn⟩ : ∃ len, len = l.length := ⟨_, rfl⟩
  obtain ⟨a, cap, rfl, -⟩ := id hs
  have HS := Lib.hid hs
  rw [← hn] at HS hL ⊢
  have HN := Lib.hid hn
  have HPP := Lib.hid hp
  clear hs hn hp
  go_enter Tryz.func137, Tryz.ntmps137
  go_wp2_with fail
  go_loopw [8] (fun i wr => ∃ k : Nat, k ≤ len ∧ i = .int .i64 (k : Int) ∧ (l.take k).all ok = true ∧ Below w.heap.size w wr) (fun i _ => len - (intOf i).toNat)
  case atStart => exact ⟨0, Nat.zero_le _, rfl, rfl, Below.refl _ _⟩
  case round =>
    obtain ⟨k, hk, rfl, hall, hB⟩ := hrel
    have HA := Lib.hid hall
    have HB := Lib.hid hB
    clear hall hB
    by_cases hlt : k < len
    · have hkl : k < l.length := by rw [← HN.out]; exact hlt
      obtain ⟨g, off, A1, bc, rfl, hg, hc1, hc2, -⟩ := (HS.out.later HB.out).cells hkl
      have hpk := HPP.out _ (List.getElem_mem hkl)
      have hoe := ok_eq l[k]
      have hnext : ok l[k] = true → (l.take (k + 1)).all ok = true := by
        intro h
        rw [List.take_succ_eq_append_getElem hkl, List.all_append, HA.out]; simp [h]
      have hbad : ok l[k] = false → l.all ok = false := by
        intro h
        rw [List.all_eq_false]
        exact ⟨_, List.getElem_mem hkl, by simp [h]⟩
      generalize l[k] = u at *
      obtain ⟨p, b⟩ := u
      simp only at hc1 hc2 hpk hoe
      obtain ⟨bl, hbl⟩ : ∃ bl, bl = b.length := ⟨_, rfl⟩
      rw [← hbl] at hc2 hoe
      have LI := Lib.hid (fun w => lit_any p A1 bl bc w hpk)
      rw [← hoe] at LI
      cases ho : ok ⟨p, b⟩ with
      | false =>
        rw [ho] at LI
        have HX := Lib.hid (hbad ho)
        clear hnext hbad hoe hbl ho hpk
        go_wp2_with fail
        refine (LI.out _).mono ?_
        rintro e w2 ⟨rfl, hb⟩
        have B2 := Lib.hid (HB.out.trans (hb.mono HB.out.size))
        clear hb
        go_wp2_with fail
        go_ret
        exact ⟨⟨_, rfl, .inr ⟨by omega, HX.out⟩⟩, B2.out⟩
      | true =>
        rw [ho] at LI
        have HX := Lib.hid (hnext ho)
        clear hnext hbad hoe hbl ho hpk
        go_wp2_with fail
        refine (LI.out _).mono ?_
        rintro e w2 ⟨rfl, hb⟩
        have B2 := Lib.hid (HB.out.trans (hb.mono HB.out.size))
        clear hb
        go_wp2_with fail
        go_roundw
        case rel => exact ⟨k + 1, by omega, by go_num, HX.out, B2.out⟩
        case measure => simp [intOf]; omega
    · have HX := Lib.hid (show l.all ok = true by
        have h := HA.out
        rw [List.take_of_length_le (by rw [← HN.out]; omega)] at h
        exact h)
      go_wp2_with fail
      go_ret
      exact ⟨⟨_, rfl, .inl ⟨rfl, HX.out⟩⟩, HB.out⟩

theorem contains_any (v : Value) (l : List P) (w : World) (hs : SeesP w v l) (hp : ∀ x ∈ l, x.p ≤ 9223372036854775807) (hL : l.length ≤ 1000000) :
    Calls Tryz.prog 124 #[v, .func (.func 125) #[] #[]] w fun e w' => e = .returned (.bool (!l.all ok)) ∧ Below w.heap.size w w' := by
  have IX := Lib.hid (index_any v l w hs hp hL)
  clear hs hp hL
  go_enter Tryz.func124, Tryz.ntmps124
  go_wp2_with fail
  refine (IX.out).mono ?_
  rintro e w' ⟨⟨i, rfl, hi⟩, hb⟩
  have HB := Lib.hid hb
  clear hb
  rcases hi with ⟨rfl, ha⟩ | ⟨hi, ha⟩
  · have HA := Lib.hid ha
    clear ha
    go_wp2_with fail
    go_ret
    exact ⟨ret_bool (by rw [HA.out]; rfl), HB.out⟩
  · have HA := Lib.hid ha
    clear ha
    go_wp2_with fail
    go_ret
    exact ⟨ret_bool (by rw [HA.out]; rfl), HB.out⟩

theorem spoiled_any (v : Value) (l : List P) (w : World) (hs : SeesP w v l) (hp : ∀ x ∈ l, x.p ≤ 9223372036854775807) (hL : l.length ≤ 1000000) :
    Calls Tryz.prog 97 #[v] w fun e w' => e = .returned (.bool (!l.all ok)) ∧ Below w.heap.size w w' := by
  have IX := Lib.hid (contains_any v l w hs hp hL)
  clear hs hp hL
  generalize l.all ok = t at *
  go_enter Tryz.func97, Tryz.ntmps97
  go_wp2_with fail
  refine (IX.out).mono ?_
  rintro e w' ⟨rfl, hb⟩
  have HB := Lib.hid hb
  clear hb
  go_wp2_with fail
  go_ret
  exact ⟨rfl, HB.out⟩
end Go.Proofs.YtaklilhnikmmfaaGreat
