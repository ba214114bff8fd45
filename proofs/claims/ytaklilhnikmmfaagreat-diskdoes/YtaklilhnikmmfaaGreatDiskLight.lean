/-
  The walk of the reference's Light.
-/
import Derived.Test.YtaklilhnikmmfaaGreatDiskOpen
namespace Go.Proofs.YtaklilhnikmmfaaGreat
open Go.RowKit StrM BlockM FileM DirM DiskM

theorem axs_at : ∀ (l : List AX) {k : Nat} (h : k < l.length), (l.flatMap axc)[k * 6]? = some (.int .i64 l[k].a.kind) ∧ (l.flatMap axc)[k * 6 + 1]? = some (.string l[k].a.name) ∧ (l.flatMap axc)[k * 6 + 2]? = some (.string l[k].a.dst) ∧ (l.flatMap axc)[k * 6 + 3]? = some (.int .i64 l[k].a.p) ∧ (l.flatMap axc)[k * 6 + 4]? = some l[k].B ∧ (l.flatMap axc)[k * 6 + 5]? = some l[k].T
  | x :: r, 0, _ => ⟨rfl, rfl, rfl, rfl, rfl, rfl⟩
  | x :: r, k + 1, h => by
    have ih := axs_at r (k := k) (by simpa using h)
    have e : (x :: r).flatMap axc = .int .i64 x.a.kind :: .string x.a.name :: .string x.a.dst :: .int .i64 x.a.p :: x.B :: x.T :: r.flatMap axc := rfl
    rw [e, show (k + 1) * 6 = k * 6 + 6 by omega]
    exact ih
/-- A slice of acts, as it came in. -/
structure SeesX (w : World) (v : Value) (l : List AX) : Prop where
  row : SeesN w v l.length (l.flatMap axc)
  ok : ∀ u ∈ l, AXok w u
theorem BytesIn.later {w w' : World} {c : Value} {l : List UInt8} (h : BytesIn w c l) (hb : Below w.heap.size w w') : BytesIn w' c l := by
  obtain ⟨a, cap, e, h1, h2⟩ := h
  exact ⟨a, cap, e, h1, h2.later hb⟩
theorem BoolsIn.later {w w' : World} {c : Value} {l : List Bool} (h : BoolsIn w c l) (hb : Below w.heap.size w w') : BoolsIn w' c l := by
  obtain ⟨a, cap, e, h1, h2⟩ := h
  exact ⟨a, cap, e, h1, h2.later hb⟩
theorem AXok.later {w w' : World} {u : AX} (h : AXok w u) (hb : Below w.heap.size w w') : AXok w' u := { h with b := h.b.later hb, t := h.t.later hb }
theorem SeesX.later {w w' : World} {v : Value} {l : List AX} (h : SeesX w v l) (hb : Below w.heap.size w w') : SeesX w' v l := ⟨h.row.later hb, fun u hu => (h.ok u hu).later hb⟩
theorem SeesX.cells {w : World} {a : Option Addr} {n cap : Nat} {l : List AX} (h : SeesX w (.slice a n cap) l) {k : Nat} (hk : k < l.length) :
    ∃ g off A cb Ab cbb, a = some ⟨g, off, none⟩ ∧ g < w.heap.size ∧ w.cell? ⟨g, off + k * 6, none⟩ = some (.int .i64 l[k].a.kind) ∧ w.cell? ⟨g, off + k * 6 + 1, none⟩ = some (.string l[k].a.name) ∧ w.cell? ⟨g, off + k * 6 + 2, none⟩ = some (.string l[k].a.dst) ∧
      w.cell? ⟨g, off + k * 6 + 3, none⟩ = some (.int .i64 l[k].a.p) ∧ w.cell? ⟨g, off + k * 6 + 4, none⟩ = some (.slice A l[k].a.b.length cb) ∧ w.cell? ⟨g, off + k * 6 + 5, none⟩ = some (.slice Ab l[k].a.bits.length cbb) ∧
      l[k].a.b.length ≤ cb ∧ SeesV w (.slice A l[k].a.b.length cb) (bys l[k].a.b) ∧ l[k].a.bits.length ≤ cbb ∧ SeesV w (.slice Ab l[k].a.bits.length cbb) (bools l[k].a.bits) := by
  obtain ⟨⟨a', cap', e, _, hr⟩, hok⟩ := h
  injection e with e1 e2 e3
  subst e1
  obtain ⟨h0, h1, h2, h3, h4, h5⟩ := axs_at l hk
  have hu := hok _ (List.getElem_mem hk)
  obtain ⟨A, cb, eB, b1, b2⟩ := hu.b
  obtain ⟨Ab, cbb, eT, t1, t2⟩ := hu.t
  rw [eB] at h4 b2
  rw [eT] at h5 t2
  rcases hr with hr | ⟨g, off, rfl, hg, hc⟩
  · rw [hr] at h0; simp at h0
  · exact ⟨g, off, A, cb, Ab, cbb, rfl, hg, hc _ _ h0, hc _ _ h1, hc _ _ h2, hc _ _ h3, hc _ _ h4, hc _ _ h5, b1, b2, t1, t2⟩

/-- An act is small. -/
def lite (x : A) : Bool := decide (x.name.size ≤ 60) && (decide (x.dst.size ≤ 60) && (decide (x.b.length ≤ 200) && (decide (¬ (x.kind = 1 ∧ 2000 < x.p ∧ x.p ≤ 65536)) && decide (x.bits.length ≤ 200))))
def light (l : List A) : Bool := decide (l.length ≤ 40) && l.all lite
theorem light_no {l : List AX} {k : Nat} (hk : k < l.length) (h : lite l[k].a = false) : false = light (l.map (·.a)) := by
  unfold light
  have : (l.map (·.a)).all lite = false := by
    rw [List.all_eq_false]
    exact ⟨l[k].a, List.mem_map.2 ⟨l[k], List.getElem_mem hk, rfl⟩, by simp [h]⟩
  rw [this, Bool.and_false]
theorem light_many {l : List AX} (h : 40 < l.length) : false = light (l.map (·.a)) := by
  unfold light
  rw [List.length_map, decide_eq_false (by omega)]; rfl
theorem light_all {l : List AX} (h : l.length ≤ 40) (ha : ∀ u ∈ l, lite u.a = true) : true = light (l.map (·.a)) := by
  unfold light
  rw [List.length_map, decide_eq_true h, Bool.true_and]
  symm
  rw [List.all_eq_true]
  intro x hx
  obtain ⟨u, hu, rfl⟩ := List.mem_map.1 hx
  exact ha u hu

set_option maxHeartbeats 8000000 in
set_option maxRecDepth 100000 in
theorem light_any (v : Value) (l : List AX) (w : World) (h : SeesX w v l) :
    Calls Tryz.prog 6 #[v] w fun e w' => e = .returned (.bool (light (l.map (·.a)))) ∧ Below w.heap.size w w' := by
  obtain ⟨a, cap, rfl, -⟩ := h.row.form
  obtain ⟨n, e0⟩ : ∃ n, n = l.length := ⟨_, rfl⟩
  rw [← e0] at h ⊢
  have HN := Lib.hid e0
  have HS := Lib.hid (fun W (hb : Below w.heap.size w W) => h.later hb)
  clear h e0
  by_cases h40 : 40 < n
  · have HX := Lib.hid (light_many (l := l) (by rw [← HN.out]; exact h40))
    have h40' : (40 : Int) < (n : Int) := by omega
    go_enter Tryz.func6, Tryz.ntmps6
    go_wp2_with fail
    go_ret
    exact ⟨ret_bool HX.out, Below.refl _ _⟩
  · have h40' : ¬ (40 : Int) < (n : Int) := by omega
    go_enter Tryz.func6, Tryz.ntmps6
    go_wp2_with fail
    go_loopw [3] (fun i wr => ∃ k : Nat, k ≤ n ∧ i = .int .i64 (k : Int) ∧ (∀ j (hj : j < l.length), j < k → lite l[j].a = true) ∧ Below w.heap.size w wr) (fun i _ => n - (intOf i).toNat)
    case atStart => exact ⟨0, Nat.zero_le _, rfl, fun j _ hj => by omega, Below.refl _ _⟩
    case round =>
      obtain ⟨k, hk, rfl, hall, hb⟩ := hrel
      have HA := Lib.hid hall
      have HB := Lib.hid hb
      clear hall hb
      by_cases hlt : k < n
      · have hkl : k < l.length := by rw [← HN.out]; exact hlt
        have hlt' : (k : Int) < (n : Int) := by omega
        obtain ⟨g, off, A, cb, Ab, cbb, rfl, hg, x0, x1, x2, x3, x4, x5, -⟩ := (HS.out _ HB.out).cells hkl
        have NO := Lib.hid (light_no hkl)
        have LT := Lib.hid (show lite l[k].a = (decide (l[k].a.name.size ≤ 60) && (decide (l[k].a.dst.size ≤ 60) && (decide (l[k].a.b.length ≤ 200) && (decide (¬ (l[k].a.kind = 1 ∧ 2000 < l[k].a.p ∧ l[k].a.p ≤ 65536)) && decide (l[k].a.bits.length ≤ 200))))) from rfl)
        have NX := Lib.hid (show lite l[k].a = true → ∀ j (hj : j < l.length), j < k + 1 → lite l[j].a = true from fun h j hj hjk => by
          rcases Nat.lt_or_ge j k with h2 | h2
          · exact HA.out j hj h2
          · have : j = k := by omega
            subst this; exact h)
        generalize lite l[k].a = lt at *
        generalize l[k].a = x at *
        obtain ⟨kd, nm, ds, p, b, bits⟩ := x
        dsimp only at x0 x1 x2 x3 x4 x5 LT
        obtain ⟨nb, enb⟩ : ∃ m, m = b.length := ⟨_, rfl⟩
        obtain ⟨nt, ent⟩ : ∃ m, m = bits.length := ⟨_, rfl⟩
        rw [← enb] at x4 LT
        rw [← ent] at x5 LT
        have BA := Lib.hid (HB.out.trans ((below_made wr (.cells #[.int .i64 kd, .string nm, .string ds, .int .i64 p, .slice A nb cb, .slice Ab nt cbb] 41)).mono HB.out.size))
        have EA := Lib.hid (Blk.made wr (xv kd nm ds p A nb cb Ab nt cbb) 41)
        clear enb ent HA
        clear EA
        by_cases g1 : 60 < nm.size
        · have g1' : (60 : Int) < (nm.size : Int) := by omega
          have HX := Lib.hid (NO.out (by rw [LT.out]; simp; omega))
          clear NX LT NO HN HS
          go_wp2_with fail
          go_ret
          exact ⟨ret_bool HX.out, BA.out⟩
        · have g1' : ¬ (60 : Int) < (nm.size : Int) := by omega
          by_cases g2 : 60 < ds.size
          · have g2' : (60 : Int) < (ds.size : Int) := by omega
            have HX := Lib.hid (NO.out (by rw [LT.out]; simp; omega))
            clear NX LT NO HN HS
            go_wp2_with fail
            go_ret
            exact ⟨ret_bool HX.out, BA.out⟩
          · have g2' : ¬ (60 : Int) < (ds.size : Int) := by omega
            by_cases g3 : 200 < nb
            · have g3' : (200 : Int) < (nb : Int) := by omega
              have HX := Lib.hid (NO.out (by rw [LT.out]; simp; omega))
              clear NX LT NO HN HS
              go_wp2_with fail
              go_ret
              exact ⟨ret_bool HX.out, BA.out⟩
            · have g3' : ¬ (200 : Int) < (nb : Int) := by omega
              by_cases k1 : kd = 1
              · subst k1
                by_cases k2 : 2000 < p
                · by_cases k3 : p ≤ 65536
                  · skip
                    have HX := Lib.hid (NO.out (by rw [LT.out]; simp; omega))
                    clear NX LT NO HN HS
                    go_wp2_with fail
                    go_ret
                    exact ⟨ret_bool HX.out, BA.out⟩
                  · skip
                    by_cases g5 : 200 < nt
                    · have g5' : (200 : Int) < (nt : Int) := by omega
                      have HX := Lib.hid (NO.out (by rw [LT.out]; simp; omega))
                      clear NX LT NO HN HS
                      go_wp2_with fail
                      go_ret
                      exact ⟨ret_bool HX.out, BA.out⟩
                    · have g5' : ¬ (200 : Int) < (nt : Int) := by omega
                      have HX := Lib.hid (NX.out (by rw [LT.out]; simp; omega))
                      clear NX LT NO HS
                      go_wp2_with fail
                      go_roundw
                      case rel => exact ⟨k + 1, by omega, by go_num, HX.out, BA.out⟩
                      case measure => simp [intOf]; omega
                · skip
                  by_cases g5 : 200 < nt
                  · have g5' : (200 : Int) < (nt : Int) := by omega
                    have HX := Lib.hid (NO.out (by rw [LT.out]; simp; omega))
                    clear NX LT NO HN HS
                    go_wp2_with fail
                    go_ret
                    exact ⟨ret_bool HX.out, BA.out⟩
                  · have g5' : ¬ (200 : Int) < (nt : Int) := by omega
                    have HX := Lib.hid (NX.out (by rw [LT.out]; simp; omega))
                    clear NX LT NO HS
                    go_wp2_with fail
                    go_roundw
                    case rel => exact ⟨k + 1, by omega, by go_num, HX.out, BA.out⟩
                    case measure => simp [intOf]; omega
              · have k1' : (kd == 1) = false := by simpa using k1
                have k1'' : decide (kd = 1) = false := by simpa using k1
                by_cases g5 : 200 < nt
                · have g5' : (200 : Int) < (nt : Int) := by omega
                  have HX := Lib.hid (NO.out (by rw [LT.out]; simp; omega))
                  clear NX LT NO HN HS
                  go_wp2_with fail
                  go_ret
                  exact ⟨ret_bool HX.out, BA.out⟩
                · have g5' : ¬ (200 : Int) < (nt : Int) := by omega
                  have HX := Lib.hid (NX.out (by rw [LT.out]; simp; omega))
                  clear NX LT NO HS
                  go_wp2_with fail
                  go_roundw
                  case rel => exact ⟨k + 1, by omega, by go_num, HX.out, BA.out⟩
                  case measure => simp [intOf]; omega
      · have hlt' : ¬ (k : Int) < (n : Int) := by omega
        have HX := Lib.hid (light_all (l := l) (by rw [← HN.out]; omega) (fun u hu => by
          obtain ⟨j, hj, rfl⟩ := List.getElem_of_mem hu
          exact HA.out j hj (by rw [← HN.out] at hj; omega)))
        go_wp2_with fail
        go_ret
        exact ⟨ret_bool HX.out, HB.out⟩
end Go.Proofs.YtaklilhnikmmfaaGreat
