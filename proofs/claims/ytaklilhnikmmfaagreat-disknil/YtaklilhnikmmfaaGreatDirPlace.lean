/-
  The walks of slices.BinarySearchFunc over entries, and of place.
-/
import Derived.Test.YtaklilhnikmmfaaGreatDirLeaf
namespace Go.Proofs.YtaklilhnikmmfaaGreat
open Go.RowKit StrM DirM

theorem srt_take {l : List E} {n : ByteArray} {k : Nat} (hs : Srt l) (hk : k < l.length) (h : lt l[k].name n = true) : ∀ x ∈ l.take (k + 1), lt x.name n = true := by
  intro x hx
  obtain ⟨j, hj, rfl⟩ := List.mem_take_iff_getElem.1 hx
  by_cases e : j = k
  · subst e; exact h
  · exact lt_trans (List.pairwise_iff_getElem.1 hs j k (by omega) hk (by omega)) h
theorem srt_drop {l : List E} {n : ByteArray} {k : Nat} (hs : Srt l) (hk : k < l.length) (h : lt l[k].name n = false) : ∀ x ∈ l.drop k, lt x.name n = false := by
  intro x hx
  obtain ⟨j, hj, rfl⟩ := List.mem_drop_iff_getElem.1 hx
  by_cases e : j = 0
  · subst e; simpa using h
  · cases hl : lt (l[k + j]'(by omega)).name n with
    | false => rfl
    | true => rw [lt_trans (List.pairwise_iff_getElem.1 hs k (k + j) hk (by omega) (by omega)) hl] at h; cases h

/-- What the two ends of the search have behind them. -/
def Mid (l : List E) (n : ByteArray) (lo hi : Nat) : Prop := (∀ x ∈ l.take lo, lt x.name n = true) ∧ (∀ x ∈ l.drop hi, lt x.name n = false)

set_option maxHeartbeats 2000000 in
set_option maxRecDepth 100000 in
theorem search_any (A : Option Addr) (n c : Nat) (l : List E) (nm : ByteArray) (w : World) (hs : SeesE w (.slice A n c) l) (hn : l.length = n) (hsrt : Srt l) (hL : n ≤ 1000) :
    Calls Tryz.prog 128 #[.slice A n c, .string nm, .func (.func 129) #[] #[]] w fun e w' =>
      (∃ (k : Nat) (b : Bool), e = .returned (.tuple #[.int .i64 (k : Int), .bool b]) ∧ Pl l nm k b) ∧ Below w.heap.size w w' := by
  have HS := Lib.hid (fun W (hb : Below w.heap.size w W) => hs.later hb)
  have HN := Lib.hid hn
  have HT := Lib.hid hsrt
  clear hs hn hsrt
  go_enter Tryz.func128, Tryz.ntmps128
  go_wp2_with fail
  go_loopw [9, 10] (fun s9 s10 wr => ∃ lo hi : Nat, lo ≤ hi ∧ hi ≤ n ∧ s9 = .int .i64 (lo : Int) ∧ s10 = .int .i64 (hi : Int) ∧ Mid l nm lo hi ∧ Below w.heap.size w wr) (fun s9 s10 _ => (intOf s10).toNat - (intOf s9).toNat)
  case atStart => exact ⟨0, n, Nat.zero_le _, Nat.le_refl _, rfl, rfl, ⟨fun x hx => by simp at hx, fun x hx => by rw [List.drop_eq_nil_of_le (by rw [HN.out]; exact Nat.le_refl _)] at hx; cases hx⟩, Below.refl _ _⟩
  case round =>
    obtain ⟨lo, hi, hlh, hin, rfl, rfl, hM, hB⟩ := hrel
    have HM := Lib.hid hM
    have HB := Lib.hid hB
    clear hM hB
    by_cases hlt : lo < hi
    · obtain ⟨h, hh⟩ : ∃ h, h = (lo + hi) / 2 := ⟨_, rfl⟩
      have hhi : ((lo : Int) + (hi : Int)) / 2 = (h : Int) := by omega
      have b1 : h < n := by omega
      have b2 : lo ≤ h := by omega
      have b3 : h < hi := by omega
      have hkl : h < l.length := by rw [HN.out]; exact b1
      clear hh
      obtain ⟨g, off, rfl, hg, hc1, hc2⟩ := (HS.out _ HB.out).cells hkl
      have LI := Lib.hid (fun w => dlit_any l[h] nm w)
      have HZ := Lib.hid (cmp_neg l[h].name nm)
      have UP := Lib.hid (show lt l[h].name nm = true → Mid l nm (h + 1) hi from fun e => ⟨srt_take HT.out hkl e, HM.out.2⟩)
      have DN := Lib.hid (show lt l[h].name nm = false → Mid l nm lo h from fun e => ⟨HM.out.1, srt_drop HT.out hkl e⟩)
      generalize l[h].name = x at *
      generalize l[h].node = y at *
      generalize cmp x nm = z at *
      by_cases hz : z < 0
      · have HX := Lib.hid (UP.out (HZ.out.1 hz))
        clear UP DN HZ
        go_wp2_with fail
        refine (LI.out _).mono ?_
        rintro e w2 ⟨rfl, hb⟩
        have B2 := Lib.hid (HB.out.trans (hb.mono HB.out.size))
        clear hb
        go_wp2_with fail
        go_roundw
        case rel => exact ⟨h + 1, hi, by omega, hin, by go_num, rfl, HX.out, B2.out⟩
        case measure => simp [intOf]; omega
      · have hz' : decide (z < 0) = false := decide_eq_false hz
        have HX := Lib.hid (DN.out (by
          have := mt HZ.out.2 hz
          simpa using this))
        clear UP DN HZ
        go_wp2_with fail
        refine (LI.out _).mono ?_
        rintro e w2 ⟨rfl, hb⟩
        have B2 := Lib.hid (HB.out.trans (hb.mono HB.out.size))
        clear hb
        go_wp2_with fail
        go_roundw
        case rel => exact ⟨lo, h, by omega, by omega, rfl, by go_num, HX.out, B2.out⟩
        case measure => simp [intOf]; omega
    · have hlo : hi = lo := by omega
      subst hlo
      by_cases hk : hi < n
      · have hkl : hi < l.length := by rw [HN.out]; exact hk
        obtain ⟨g, off, rfl, hg, hc1, hc2⟩ := (HS.out _ HB.out).cells hkl
        have LI := Lib.hid (fun w => dlit_any l[hi] nm w)
        have HZ := Lib.hid (cmp_zero l[hi].name nm)
        have HP := Lib.hid (show ∀ b, (b = true ↔ l[hi].name = nm) → Pl l nm hi b from fun b hb => ⟨by omega, HM.out.1, HM.out.2, hb.trans ⟨fun e => ⟨hkl, e⟩, fun ⟨_, e⟩ => e⟩⟩)
        generalize l[hi].name = x at *
        generalize l[hi].node = y at *
        generalize cmp x nm = z at *
        by_cases hz : z = 0
        · have HX := Lib.hid (HP.out true ⟨fun _ => HZ.out.1 hz, fun _ => rfl⟩)
          have hz' : (z == 0) = true := by simpa using hz
          clear HP HZ hz
          go_wp2_with fail
          refine (LI.out _).mono ?_
          rintro e w2 ⟨rfl, hb⟩
          have B2 := Lib.hid (HB.out.trans (hb.mono HB.out.size))
          clear hb
          go_wp2_with fail
          go_ret2
          exact ⟨⟨_, _, rfl, HX.out⟩, B2.out⟩
        · have HX := Lib.hid (HP.out false ⟨(fun h => nomatch h), fun e => absurd (HZ.out.2 e) hz⟩)
          have hz' : (z == 0) = false := by simpa using hz
          clear HP HZ hz
          go_wp2_with fail
          refine (LI.out _).mono ?_
          rintro e w2 ⟨rfl, hb⟩
          have B2 := Lib.hid (HB.out.trans (hb.mono HB.out.size))
          clear hb
          go_wp2_with fail
          go_ret2
          exact ⟨⟨_, _, rfl, HX.out⟩, B2.out⟩
      · have hk' : hi = n := by omega
        have HX := Lib.hid (show Pl l nm hi false from ⟨by rw [HN.out]; exact hin, HM.out.1, HM.out.2, ⟨(fun h => nomatch h), fun ⟨h, _⟩ => by rw [HN.out] at h; exact absurd h hk⟩⟩)
        have d1 : decide (hi < n) = false := decide_eq_false hk
        clear hk'
        go_wp2_with fail
        go_ret2
        exact ⟨⟨_, _, rfl, HX.out⟩, HB.out⟩

theorem place_any (A : Option Addr) (n c : Nat) (l : List E) (nm : ByteArray) (w : World) (hs : SeesE w (.slice A n c) l) (hn : l.length = n) (hsrt : Srt l) (hL : n ≤ 1000) :
    Calls Tryz.prog 111 #[.slice A n c, .string nm] w fun e w' =>
      (∃ (k : Nat) (b : Bool), e = .returned (.tuple #[.int .i64 (k : Int), .bool b]) ∧ Pl l nm k b) ∧ Below w.heap.size w w' := by
  have HC := Lib.hid (search_any A n c l nm w hs hn hsrt hL)
  clear hs hn hsrt
  go_enter Tryz.func111, Tryz.ntmps111
  go_wp2_with fail
  refine HC.out.mono ?_
  rintro e w' ⟨⟨k, b, rfl, hP⟩, hb⟩
  have HP := Lib.hid hP
  have HB := Lib.hid hb
  clear hP hb
  go_wp2_with fail
  go_ret2
  exact ⟨⟨_, _, rfl, HP.out⟩, HB.out⟩
end Go.Proofs.YtaklilhnikmmfaaGreat
