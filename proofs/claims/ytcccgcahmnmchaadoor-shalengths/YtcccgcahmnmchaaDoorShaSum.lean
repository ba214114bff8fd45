/-
  The walks of sha.Sum and sha.Hex.
-/
import Derived.Test.YtcccgcahmnmchaaDoorShaEnd
import Derived.Test.YtcccgcahmnmchaaDoorHexPut
import Derived.Deep.MidRow
namespace Go.Proofs.YtcccgcahmnmchaaDoor
open Go.RowKit StrM ShaM

theorem Row.sets_far {g : Nat} {t : TypeId} {cs : List Value} {b : Nat} (hb : g ≠ b) : ∀ (vs : List Value) (o : Nat) (w : World), Row w g t cs → Row (w.setCells b o vs) g t cs
  | [], _, _, h => h
  | v :: r, o, w, h => Row.sets_far hb r (o + 1) (w.setCell ⟨b, o, none⟩ v) (h.far (p := ⟨b, o, none⟩) hb v)
theorem below_sets {B : Nat} {a : World} {b : Nat} (hb : B ≤ b) : ∀ (vs : List Value) (o : Nat) (w : World), Below B a w → Below B a (w.setCells b o vs)
  | [], _, _, h => h
  | v :: r, o, w, h => below_sets hb r (o + 1) (w.setCell ⟨b, o, none⟩ v) (h.setCell (p := ⟨b, o, none⟩) hb v)
theorem Row.sets {g : Nat} {t : TypeId} : ∀ (vs : List Value) (o : Nat) (w : World) (cs : List Value), Row w g t cs → cs.length = o + vs.length → Row (w.setCells g o vs) g t (cs.take o ++ vs)
  | [], o, w, cs, h, hl => by
    have e : cs.take o ++ [] = cs := by rw [List.append_nil]; exact List.take_of_length_le (by simp at hl; omega)
    rw [e]; exact h
  | v :: r, o, w, cs, h, hl => by
    have := Row.sets r (o + 1) (w.setCell ⟨g, o, none⟩ v) (cs.set o v) (h.set o v) (by simp at hl ⊢; omega)
    have e : (cs.set o v).take (o + 1) ++ r = cs.take o ++ v :: r := by
      have hlt : o < cs.length := by simp at hl; omega
      rw [List.take_succ_eq_append_getElem (by simpa using hlt), List.getElem_set_self, List.take_set_of_le (Nat.le_refl _)]
      simp
    rw [e] at this
    exact this
theorem Row.sets_all {w : World} {g : Nat} {t : TypeId} {cs vs : List Value} (h : Row w g t cs) (hl : cs.length = vs.length) : Row (w.setCells g 0 vs) g t vs := by
  simpa using Row.sets vs 0 w cs h (by omega)
theorem Row.there {w : World} {g : Nat} {t : TypeId} {cs : List Value} (h : Row w g t cs) {n : Nat} (hn : cs.length = n) : w.there g 0 n := by
  intro j hj
  rw [Nat.zero_add]
  refine ⟨?_, h.frozen j⟩
  rw [h.cell j, List.getElem?_eq_getElem (by omega)]; rfl

/-- The result's place lies at w's end, eight values in block G behind it. -/
def TS (w : World) (G : Nat) (a b c d e f g h : Nat) (W : World) : Prop := Below w.heap.size w W ∧ Row W w.heap.size 24 (bys (List.replicate 32 0)) ∧ w.heap.size < G ∧ Row W G 31 [.int .u32 (a : Int), .int .u32 (b : Int), .int .u32 (c : Int), .int .u32 (d : Int), .int .u32 (e : Int), .int .u32 (f : Int), .int .u32 (g : Int), .int .u32 (h : Int)]
/-- The same before the values are laid. -/
def TQ (w : World) (W : World) : Prop := Below w.heap.size w W ∧ Row W w.heap.size 24 (bys (List.replicate 32 0))
section
variable {w W W' : World} {a b c d e f g h G : Nat}
theorem TS.cells (p : TS w G a b c d e f g h W) : W.cell? ⟨G, 0, none⟩ = some (.int .u32 (a : Int)) ∧ W.cell? ⟨G, 1, none⟩ = some (.int .u32 (b : Int)) ∧ W.cell? ⟨G, 2, none⟩ = some (.int .u32 (c : Int)) ∧ W.cell? ⟨G, 3, none⟩ = some (.int .u32 (d : Int)) ∧ W.cell? ⟨G, 4, none⟩ = some (.int .u32 (e : Int)) ∧ W.cell? ⟨G, 5, none⟩ = some (.int .u32 (f : Int)) ∧ W.cell? ⟨G, 6, none⟩ = some (.int .u32 (g : Int)) ∧ W.cell? ⟨G, 7, none⟩ = some (.int .u32 (h : Int)) :=
  ⟨p.2.2.2.cell 0, p.2.2.2.cell 1, p.2.2.2.cell 2, p.2.2.2.cell 3, p.2.2.2.cell 4, p.2.2.2.cell 5, p.2.2.2.cell 6, p.2.2.2.cell 7⟩
theorem TS.below (p : TS w G a b c d e f g h W) (hb : Below W.heap.size W W') : TS w G a b c d e f g h W' :=
  ⟨p.1.trans (hb.mono p.1.size), p.2.1.below hb p.2.1.lt, p.2.2.1, p.2.2.2.below hb p.2.2.2.lt⟩
theorem TS.drew (p : TS w G a b c d e f g h W) : TS w G a b c d e f g h W.drew := ⟨p.1.drew, p.2.1, p.2.2.1, p.2.2.2⟩
theorem TQ.below (p : TQ w W) (hb : Below W.heap.size W W') : TQ w W' := ⟨p.1.trans (hb.mono p.1.size), p.2.below hb p.2.lt⟩
theorem TQ.drew (p : TQ w W) : TQ w W.drew := ⟨p.1.drew, p.2⟩
theorem TQ.alloc (p : TQ w W) (o : Obj) : TQ w (W.alloc o) := ⟨p.1.alloc p.1.size o, p.2.alloc o⟩
theorem TQ.far (p : TQ w W) {k i : Nat} {u : Value} (hk : w.heap.size < k) : TQ w (W.setCell ⟨k, i, none⟩ u) :=
  ⟨p.1.setCell (p := ⟨k, i, none⟩) (by show w.heap.size ≤ k; omega) u, p.2.far (p := ⟨k, i, none⟩) (by show w.heap.size ≠ k; omega) u⟩
theorem TQ.lt (p : TQ w W) : w.heap.size < W.heap.size := p.2.lt
theorem TQ.cells (p : TQ w W) (hT : Tabs w) : W.cell? ⟨0, 0, none⟩ = some (.int .u32 1779033703) ∧ W.cell? ⟨0, 1, none⟩ = some (.int .u32 3144134277) ∧ W.cell? ⟨0, 2, none⟩ = some (.int .u32 1013904242) ∧ W.cell? ⟨0, 3, none⟩ = some (.int .u32 2773480762) ∧ W.cell? ⟨0, 4, none⟩ = some (.int .u32 1359893119) ∧ W.cell? ⟨0, 5, none⟩ = some (.int .u32 2600822924) ∧ W.cell? ⟨0, 6, none⟩ = some (.int .u32 528734635) ∧ W.cell? ⟨0, 7, none⟩ = some (.int .u32 1541459225) :=
  have h := hT.below p.1 hT.two
  ⟨h.1 0 (by decide), h.1 1 (by decide), h.1 2 (by decide), h.1 3 (by decide), h.1 4 (by decide), h.1 5 (by decide), h.1 6 (by decide), h.1 7 (by decide)⟩
theorem TS.cells_sets (p : TS w G a b c d e f g h W) (vs : List Value) : (W.setCells w.heap.size 0 vs).cell? ⟨G, 0, none⟩ = some (.int .u32 (a : Int)) ∧ (W.setCells w.heap.size 0 vs).cell? ⟨G, 1, none⟩ = some (.int .u32 (b : Int)) ∧ (W.setCells w.heap.size 0 vs).cell? ⟨G, 2, none⟩ = some (.int .u32 (c : Int)) ∧ (W.setCells w.heap.size 0 vs).cell? ⟨G, 3, none⟩ = some (.int .u32 (d : Int)) ∧ (W.setCells w.heap.size 0 vs).cell? ⟨G, 4, none⟩ = some (.int .u32 (e : Int)) ∧ (W.setCells w.heap.size 0 vs).cell? ⟨G, 5, none⟩ = some (.int .u32 (f : Int)) ∧ (W.setCells w.heap.size 0 vs).cell? ⟨G, 6, none⟩ = some (.int .u32 (g : Int)) ∧ (W.setCells w.heap.size 0 vs).cell? ⟨G, 7, none⟩ = some (.int .u32 (h : Int)) :=
  have q := Row.sets_far (b := w.heap.size) (by have := p.2.2.1; omega) vs 0 W p.2.2.2
  ⟨q.cell 0, q.cell 1, q.cell 2, q.cell 3, q.cell 4, q.cell 5, q.cell 6, q.cell 7⟩
end
theorem TQ.start (w : World) : TQ w (w.alloc (.cells (Array.replicate 32 (.int .u8 0)) 24)) := by
  have e : (Array.replicate 32 (.int .u8 0) : Array Value) = (bys (List.replicate 32 0)).toArray := by rfl
  rw [e]
  exact ⟨below_made w _, Row.new _ _ _⟩
theorem init_agg : (.agg (u32s (words8 init)).toArray : Value) = .agg #[.int .u32 1779033703, .int .u32 3144134277, .int .u32 1013904242, .int .u32 2773480762, .int .u32 1359893119, .int .u32 2600822924, .int .u32 528734635, .int .u32 1541459225] := rfl

set_option maxHeartbeats 800000 in
set_option maxRecDepth 100000 in
theorem sum_any (A : Option Addr) (len cap : Nat) (l : List UInt8) (w : World) (hv : SeesV w (.slice A len cap) (bys l)) (hcap : len ≤ cap) (hm : len ≤ 1000000) (hT : Tabs w) :
    Calls Tryd.prog 6 #[.slice A len cap] w fun e w' => e = .returned (.agg (bys (sumL l)).toArray) ∧ Below w.heap.size w w' := by
  have hlen : l.length = len := by obtain ⟨_, _, e, _⟩ := hv; injection e with _ e _; rw [e, bys_len]
  obtain ⟨rs, hrs⟩ : ∃ rs, rs = bys (sumL l) := ⟨_, rfl⟩
  rw [← hrs]
  obtain ⟨wh, hwh⟩ : ∃ wh, wh = len - len % 64 := ⟨_, rfl⟩
  obtain ⟨A1, hcut1, hsee1⟩ := cut_h hv hcap (show wh ≤ len by omega)
  obtain ⟨A2, hcut2, hsee2⟩ := cut_l hv hcap (show wh ≤ len by omega)
  obtain ⟨⟨a, b, c, d, e, f, g, h⟩, hS⟩ : ∃ S, S = blocks (l.take wh) (len / 64) init := ⟨_, rfl⟩
  obtain ⟨E, hE⟩ : ∃ E, E = endL (l.drop wh) len := ⟨_, rfl⟩
  have hElen : E.length % 64 = 0 ∧ E.length ≤ 200 := by
    rw [hE]; exact ⟨endL_mul _ _, by rw [endL_len, List.length_drop]; have := zeros_lt (l.length - wh); omega⟩
  obtain ⟨⟨a2, b2, c2, d2, e2, f2, g2, h2⟩, hS2⟩ : ∃ S, S = blocks E (E.length / 64) ⟨a, b, c, d, e, f, g, h⟩ := ⟨_, rfl⟩
  have hok1 : S8.Ok ⟨a, b, c, d, e, f, g, h⟩ := by rw [hS]; exact blocks_ok _ init_ok _
  have hok2 : S8.Ok ⟨a2, b2, c2, d2, e2, f2, g2, h2⟩ := by rw [hS2]; exact blocks_ok _ hok1 _
  have hsum : sumL l = outL ⟨a2, b2, c2, d2, e2, f2, g2, h2⟩ := by
    rw [sumL_split l, hS2, hE, hS, hlen, ← hwh]
  have hp1 : ∀ W, TQ w W → Calls Tryd.prog 10 #[.agg #[.int .u32 1779033703, .int .u32 3144134277, .int .u32 1013904242, .int .u32 2773480762, .int .u32 1359893119, .int .u32 2600822924, .int .u32 528734635, .int .u32 1541459225], .slice A1 wh cap] W fun en w' => en = .returned (.agg #[.int .u32 (a : Int), .int .u32 (b : Int), .int .u32 (c : Int), .int .u32 (d : Int), .int .u32 (e : Int), .int .u32 (f : Int), .int .u32 (g : Int), .int .u32 (h : Int)]) ∧ TQ w w' ∧ Below W.heap.size W w' := fun W hq => by
    have := process_any init A1 wh cap (l.take wh) (len / 64) W init_ok (hsee1.later hq.1) (by omega) (by rw [List.length_take]; omega) (by rw [List.length_take]; omega) (hT.below hq.1 hT.two)
    rw [← hS, init_agg] at this
    exact this.mono fun _ _ h => ⟨h.1, hq.below h.2, h.2⟩
  have he : ∀ W G, TS w G a b c d e f g h W → Calls Tryd.prog 12 #[.slice A2 (len - wh) (cap - wh), .int .i64 (len : Int)] W fun en w' => ∃ A c', en = .returned (.slice A E.length c') ∧ TS w G a b c d e f g h w' ∧ SeesV w' (.slice A E.length c') (bys E) ∧ E.length ≤ c' := fun W G hq => by
    refine (ending_any (.slice A2 (len - wh) (cap - wh)) (l.drop wh) len W (hsee2.later hq.1) (by rw [List.length_drop]; omega) hm).mono ?_
    rintro en w' ⟨v, rfl, ho, hb⟩
    rw [← hE] at ho
    obtain ⟨A, c', rfl, hc⟩ := own_slice ho
    exact ⟨A, c', rfl, hq.below hb, SeesV.of_own ho, hc⟩
  have hp2 : ∀ W G A c', TS w G a b c d e f g h W → SeesV W (.slice A E.length c') (bys E) → E.length ≤ c' → Calls Tryd.prog 10 #[.agg #[.int .u32 (a : Int), .int .u32 (b : Int), .int .u32 (c : Int), .int .u32 (d : Int), .int .u32 (e : Int), .int .u32 (f : Int), .int .u32 (g : Int), .int .u32 (h : Int)], .slice A E.length c'] W fun en w' => en = .returned (.agg #[.int .u32 (a2 : Int), .int .u32 (b2 : Int), .int .u32 (c2 : Int), .int .u32 (d2 : Int), .int .u32 (e2 : Int), .int .u32 (f2 : Int), .int .u32 (g2 : Int), .int .u32 (h2 : Int)]) ∧ TS w G a b c d e f g h w' := fun W G A c' hq hs hc => by
    have := process_any ⟨a, b, c, d, e, f, g, h⟩ A E.length c' E (E.length / 64) W hok1 hs hc (by omega) (by omega) (hT.below hq.1 hT.two)
    rw [← hS2] at this
    exact this.mono fun _ _ h => ⟨h.1, hq.below h.2⟩
  have hj : ∀ W G, TS w G a b c d e f g h W → Calls Tryd.prog 11 #[.agg #[.int .u32 (a2 : Int), .int .u32 (b2 : Int), .int .u32 (c2 : Int), .int .u32 (d2 : Int), .int .u32 (e2 : Int), .int .u32 (f2 : Int), .int .u32 (g2 : Int), .int .u32 (h2 : Int)]] W fun en w' => en = .returned (.agg rs.toArray) ∧ TS w G a b c d e f g h w' := fun W G hq => by
    have := join_any ⟨a2, b2, c2, d2, e2, f2, g2, h2⟩ W hok2
    rw [← hsum, ← hrs] at this
    exact this.mono fun _ _ h => ⟨h.1, hq.below h.2⟩
  have hwInt : (len : Int) - (len : Int) % 64 = (wh : Int) := by omega
  have HP1 := Lib.hid hp1
  have HE := Lib.hid he
  have HP2 := Lib.hid hp2
  have HJ := Lib.hid hj
  have HRL := Lib.hid (show rs.length = 32 by rw [hrs, bys_len, hsum, outL_len])
  have HR1 := Lib.hid (show ∀ v ∈ rs, v.oneCell' = true by rw [hrs]; exact bys_ones _)
  have HT := Lib.hid hT
  have HQ0 := Lib.hid (TQ.start w)
  clear hp1 he hp2 hj hrs hT hS hS2 hE hok1 hok2 hsum hsee1 hsee2 hv hElen hlen hwh
  go_enter Tryd.func6, Tryd.ntmps6
  go_wp2_with fail
  have hq0 : TQ w (w.alloc (.cells #[.int .u8 0, .int .u8 0, .int .u8 0, .int .u8 0, .int .u8 0, .int .u8 0, .int .u8 0, .int .u8 0, .int .u8 0, .int .u8 0, .int .u8 0, .int .u8 0, .int .u8 0, .int .u8 0, .int .u8 0, .int .u8 0, .int .u8 0, .int .u8 0, .int .u8 0, .int .u8 0, .int .u8 0, .int .u8 0, .int .u8 0, .int .u8 0, .int .u8 0, .int .u8 0, .int .u8 0, .int .u8 0, .int .u8 0, .int .u8 0, .int .u8 0, .int .u8 0] 24)) := HQ0.out
  generalize w.alloc (.cells #[.int .u8 0, .int .u8 0, .int .u8 0, .int .u8 0, .int .u8 0, .int .u8 0, .int .u8 0, .int .u8 0, .int .u8 0, .int .u8 0, .int .u8 0, .int .u8 0, .int .u8 0, .int .u8 0, .int .u8 0, .int .u8 0, .int .u8 0, .int .u8 0, .int .u8 0, .int .u8 0, .int .u8 0, .int .u8 0, .int .u8 0, .int .u8 0, .int .u8 0, .int .u8 0, .int .u8 0, .int .u8 0, .int .u8 0, .int .u8 0, .int .u8 0, .int .u8 0] 24) = W0 at hq0 ⊢
  clear HQ0
  have hz0 := hq0.lt
  go_region_held3 (fun w' => w'.cell? ⟨0, 0, none⟩ = some (.int .u32 1779033703) ∧ w'.cell? ⟨0, 1, none⟩ = some (.int .u32 3144134277) ∧ w'.cell? ⟨0, 2, none⟩ = some (.int .u32 1013904242) ∧ w'.cell? ⟨0, 3, none⟩ = some (.int .u32 2773480762) ∧ w'.cell? ⟨0, 4, none⟩ = some (.int .u32 1359893119) ∧ w'.cell? ⟨0, 5, none⟩ = some (.int .u32 2600822924) ∧ w'.cell? ⟨0, 6, none⟩ = some (.int .u32 528734635) ∧ w'.cell? ⟨0, 7, none⟩ = some (.int .u32 1541459225))
    (first | (((with_reducible refine TQ.cells ?_ HT.out)); repeat (with_reducible first | exact hq0 | exact hq1 | refine TQ.drew ?_ | refine TQ.alloc ?_ _ | refine TQ.far ?_ hz0 | refine TQ.far ?_ hz1)))
    (first
      | (go_at_call 10; ((with_reducible refine (HP1.out _ ?_).mono ?_)); (with_reducible first | exact hq0.drew | exact (hq0.alloc _).drew); rintro en w1 ⟨rfl, hq1, hb1⟩; have hz1 := hq1.lt; (try ((with_reducible have z1 := zero_laterD hb1); obtain ⟨yf, y0, y1, y2, y3, y4, y5, y6, y7⟩ := zero_cells z1))))
  · have HTS := Lib.hid (show TS w w1.heap.size a b c d e f g h (w1.alloc (.cells #[.int .u32 (a : Int), .int .u32 (b : Int), .int .u32 (c : Int), .int .u32 (d : Int), .int .u32 (e : Int), .int .u32 (f : Int), .int .u32 (g : Int), .int .u32 (h : Int)] 31)) from ⟨(hq1.alloc _).1, (hq1.alloc _).2, hz1, Row.new w1 _ _⟩)
    generalize w1.alloc (.cells #[.int .u32 (a : Int), .int .u32 (b : Int), .int .u32 (c : Int), .int .u32 (d : Int), .int .u32 (e : Int), .int .u32 (f : Int), .int .u32 (g : Int), .int .u32 (h : Int)] 31) = W1 at HTS ⊢
    generalize w1.heap.size = G at HTS ⊢
    clear hq0 hq1 hz0 hz1 hb1
    go_wp2_with fail
    go_region_held3 (fun w' => w'.cell? ⟨G, 0, none⟩ = some (.int .u32 (a : Int)) ∧ w'.cell? ⟨G, 1, none⟩ = some (.int .u32 (b : Int)) ∧ w'.cell? ⟨G, 2, none⟩ = some (.int .u32 (c : Int)) ∧ w'.cell? ⟨G, 3, none⟩ = some (.int .u32 (d : Int)) ∧ w'.cell? ⟨G, 4, none⟩ = some (.int .u32 (e : Int)) ∧ w'.cell? ⟨G, 5, none⟩ = some (.int .u32 (f : Int)) ∧ w'.cell? ⟨G, 6, none⟩ = some (.int .u32 (g : Int)) ∧ w'.cell? ⟨G, 7, none⟩ = some (.int .u32 (h : Int)))
      (first | exact TS.cells HTS.out.drew | exact TS.cells ht1 | exact TS.cells ht2 | exact TS.cells ht3 | exact ht3.cells_sets _ | fail)
      (first
        | (go_at_call 12; ((with_reducible refine (HE.out _ _ HTS.out.drew).mono ?_)); rintro en w2 ⟨A3, c3, rfl, ht1, hsE, hcE⟩)
        | (go_at_call 10; ((with_reducible refine (HP2.out _ _ _ _ ht1 hsE hcE).mono ?_)); rintro en w3 ⟨rfl, ht2⟩)
        | (go_at_call 11; ((with_reducible refine (HJ.out _ _ ht2).mono ?_)); rintro en w4 ⟨rfl, ht3⟩; have hth := ht3.2.1.there (n := rs.length) (by rw [bys_len, List.length_replicate, HRL.out]); have hone := HR1.out; have hinf : (Tryd.prog.info? 24).map (·.size) = some rs.length := by rw [HRL.out]; exact info32))
    go_wp2_with fail
    have hrow := ht3.2.1.sets_all (vs := rs) (by rw [bys_len, List.length_replicate, HRL.out])
    exact bodyPost_ret (hrow.results Tryd.underlying24 info32 HRL.out Tryd.results6 _ rfl) rfl ⟨rfl, below_sets (Nat.le_refl _) rs 0 _ ht3.1⟩
  · have HTS := Lib.hid (show TS w W0.heap.size a b c d e f g h ((((((((w1.setCell ⟨W0.heap.size, 0, none⟩ (.int .u32 (a : Int))).setCell ⟨W0.heap.size, 1, none⟩ (.int .u32 (b : Int))).setCell ⟨W0.heap.size, 2, none⟩ (.int .u32 (c : Int))).setCell ⟨W0.heap.size, 3, none⟩ (.int .u32 (d : Int))).setCell ⟨W0.heap.size, 4, none⟩ (.int .u32 (e : Int))).setCell ⟨W0.heap.size, 5, none⟩ (.int .u32 (f : Int))).setCell ⟨W0.heap.size, 6, none⟩ (.int .u32 (g : Int))).setCell ⟨W0.heap.size, 7, none⟩ (.int .u32 (h : Int))) from ⟨((((((((hq1.far hz0).far hz0).far hz0).far hz0).far hz0).far hz0).far hz0).far hz0).1, ((((((((hq1.far hz0).far hz0).far hz0).far hz0).far hz0).far hz0).far hz0).far hz0).2, hz0, ((((((((z1.set 0 _).set 1 _).set 2 _).set 3 _).set 4 _).set 5 _).set 6 _).set 7 _)⟩)
    generalize ((((((((w1.setCell ⟨W0.heap.size, 0, none⟩ (.int .u32 (a : Int))).setCell ⟨W0.heap.size, 1, none⟩ (.int .u32 (b : Int))).setCell ⟨W0.heap.size, 2, none⟩ (.int .u32 (c : Int))).setCell ⟨W0.heap.size, 3, none⟩ (.int .u32 (d : Int))).setCell ⟨W0.heap.size, 4, none⟩ (.int .u32 (e : Int))).setCell ⟨W0.heap.size, 5, none⟩ (.int .u32 (f : Int))).setCell ⟨W0.heap.size, 6, none⟩ (.int .u32 (g : Int))).setCell ⟨W0.heap.size, 7, none⟩ (.int .u32 (h : Int))) = W1 at HTS ⊢
    generalize W0.heap.size = G at HTS ⊢
    clear hq0 hq1 hz0 hz1 hb1 yf y0 y1 y2 y3 y4 y5 y6 y7 z1
    go_wp2_with fail
    go_region_held3 (fun w' => w'.cell? ⟨G, 0, none⟩ = some (.int .u32 (a : Int)) ∧ w'.cell? ⟨G, 1, none⟩ = some (.int .u32 (b : Int)) ∧ w'.cell? ⟨G, 2, none⟩ = some (.int .u32 (c : Int)) ∧ w'.cell? ⟨G, 3, none⟩ = some (.int .u32 (d : Int)) ∧ w'.cell? ⟨G, 4, none⟩ = some (.int .u32 (e : Int)) ∧ w'.cell? ⟨G, 5, none⟩ = some (.int .u32 (f : Int)) ∧ w'.cell? ⟨G, 6, none⟩ = some (.int .u32 (g : Int)) ∧ w'.cell? ⟨G, 7, none⟩ = some (.int .u32 (h : Int)))
      (first | exact TS.cells HTS.out.drew | exact TS.cells ht1 | exact TS.cells ht2 | exact TS.cells ht3 | exact ht3.cells_sets _ | fail)
      (first
        | (go_at_call 12; ((with_reducible refine (HE.out _ _ HTS.out.drew).mono ?_)); rintro en w2 ⟨A3, c3, rfl, ht1, hsE, hcE⟩)
        | (go_at_call 10; ((with_reducible refine (HP2.out _ _ _ _ ht1 hsE hcE).mono ?_)); rintro en w3 ⟨rfl, ht2⟩)
        | (go_at_call 11; ((with_reducible refine (HJ.out _ _ ht2).mono ?_)); rintro en w4 ⟨rfl, ht3⟩; have hth := ht3.2.1.there (n := rs.length) (by rw [bys_len, List.length_replicate, HRL.out]); have hone := HR1.out; have hinf : (Tryd.prog.info? 24).map (·.size) = some rs.length := by rw [HRL.out]; exact info32))
    go_wp2_with fail
    have hrow := ht3.2.1.sets_all (vs := rs) (by rw [bys_len, List.length_replicate, HRL.out])
    exact bodyPost_ret (hrow.results Tryd.underlying24 info32 HRL.out Tryd.results6 _ rfl) rfl ⟨rfl, below_sets (Nat.le_refl _) rs 0 _ ht3.1⟩
end Go.Proofs.YtcccgcahmnmchaaDoor
