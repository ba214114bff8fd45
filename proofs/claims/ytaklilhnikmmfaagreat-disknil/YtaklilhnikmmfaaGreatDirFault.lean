/-
  The walks of the faults of operations, and of performed.
-/
import Derived.Test.YtaklilhnikmmfaaGreatDirPerf
namespace Go.Proofs.YtaklilhnikmmfaaGreat
open Go.RowKit StrM DirM

theorem ret_int10 {a b : Int} (h : a = b) : Ending.returned (.int .i64 a) = .returned (.int .i64 b) := by rw [h]
theorem name_ne {a b : ByteArray} (h : ¬ a = b) : (a.toList == b.toList) = false := by
  rw [beq_eq_false_iff_ne]; exact fun e => h (list_eq.1 e)

theorem unlinkFault_any (A : Option Addr) (n c : Nat) (l : List E) (nm : ByteArray) (w : World) (hs : SeesE w (.slice A n c) l) (hn : l.length = n) (hsrt : Srt l) (hL : n ≤ 1000) :
    Calls Tryz.prog 109 #[.slice A n c, .string nm] w fun e w' => e = .returned (.int .i64 (if has l nm = true then 0 else 5)) ∧ Below w.heap.size w w' := by
  have HP := Lib.hid (place_any A n c l nm w hs hn hsrt hL)
  have HT := Lib.hid hsrt
  clear hs hn hsrt hL
  generalize hr : (if has l nm = true then (0 : Int) else 5) = r
  have HR := Lib.hid hr
  clear hr
  go_enter Tryz.func109, Tryz.ntmps109
  go_wp2_with fail
  refine HP.out.mono ?_
  rintro e w1 ⟨⟨k, b, rfl, hP⟩, hb⟩
  have HH := Lib.hid (hP.has_eq HT.out)
  have HB := Lib.hid hb
  clear hP hb HP
  cases b with
  | true =>
    go_wp2_with fail
    go_ret
    exact ⟨ret_int10 (by rw [← HR.out, ← HH.out]; rfl), HB.out⟩
  | false =>
    go_wp2_with fail
    go_ret
    exact ⟨ret_int10 (by rw [← HR.out, ← HH.out]; rfl), HB.out⟩

theorem linkFault_any (A : Option Addr) (n c : Nat) (l : List E) (nm : ByteArray) (w : World) (hs : SeesE w (.slice A n c) l) (hn : l.length = n) (hsrt : Srt l) (hL : n ≤ 1000) :
    Calls Tryz.prog 107 #[.slice A n c, .string nm] w fun e w' => e = .returned (.int .i64 (if nameOk nm = true then (if has l nm = true then 6 else if 100 ≤ l.length then 7 else 0) else 1)) ∧ Below w.heap.size w w' := by
  have HP := Lib.hid (place_any A n c l nm w hs hn hsrt hL)
  have HT := Lib.hid hsrt
  have NA := Lib.hid (fun w => dname_any nm w)
  rw [hn]
  clear hs hn hsrt
  generalize hr : (if nameOk nm = true then (if has l nm = true then (6 : Int) else if 100 ≤ n then 7 else 0) else 1) = r
  have HR := Lib.hid hr
  clear hr
  cases hb : nameOk nm with
  | false =>
    rw [hb] at NA
    have HX := Lib.hid (show 1 = r by rw [← HR.out, if_neg (by rw [hb]; decide)])
    clear hb HR HP
    go_enter Tryz.func107, Tryz.ntmps107
    go_wp2_with fail
    refine (NA.out _).mono ?_
    rintro e w1 ⟨rfl, rfl⟩
    go_wp2_with fail
    go_ret
    exact ⟨ret_int10 HX.out, Below.refl _ _⟩
  | true =>
    rw [hb] at NA
    have HX := Lib.hid (show (if has l nm = true then (6 : Int) else if 100 ≤ n then 7 else 0) = r by rw [← HR.out, if_pos hb])
    clear hb HR
    go_enter Tryz.func107, Tryz.ntmps107
    go_wp2_with fail
    refine (NA.out _).mono ?_
    rintro e w1 ⟨rfl, rfl⟩
    go_wp2_with fail
    refine HP.out.mono ?_
    rintro e w1 ⟨⟨k, b, rfl, hP⟩, hb⟩
    have HH := Lib.hid (hP.has_eq HT.out)
    have HB := Lib.hid hb
    clear hP hb HP
    cases b with
    | true =>
      go_wp2_with fail
      go_ret
      exact ⟨ret_int10 (by rw [← HX.out, ← HH.out]; rfl), HB.out⟩
    | false =>
      by_cases h : 100 ≤ n
      · have h' : (100 : Int) ≤ (n : Int) := by omega
        go_wp2_with fail
        go_ret
        exact ⟨ret_int10 (by rw [← HX.out, ← HH.out, if_neg (by decide), if_pos h]), HB.out⟩
      · have h' : decide ((100 : Int) ≤ (n : Int)) = false := decide_eq_false (by omega)
        have h'' : decide (100 ≤ n) = false := decide_eq_false h
        go_wp2_with fail
        go_ret
        exact ⟨ret_int10 (by rw [← HX.out, ← HH.out, if_neg (by decide), if_neg h]), HB.out⟩

theorem moveFault_any (A : Option Addr) (n c : Nat) (l : List E) (nm ds : ByteArray) (w : World) (hs : SeesE w (.slice A n c) l) (hn : l.length = n) (hsrt : Srt l) (hL : n ≤ 1000) :
    Calls Tryz.prog 108 #[.slice A n c, .string nm, .string ds] w fun e w' => e = .returned (.int .i64 (if has l nm = true then (if nameOk ds = true ∧ ds ≠ nm then 0 else 1) else 5)) ∧ Below w.heap.size w w' := by
  have HU := Lib.hid (unlinkFault_any A n c l nm w hs hn hsrt hL)
  have NA := Lib.hid (fun w => dname_any ds w)
  clear hs hn hsrt hL
  generalize hr : (if has l nm = true then (if nameOk ds = true ∧ ds ≠ nm then (0 : Int) else 1) else 5) = r
  have HR := Lib.hid hr
  clear hr
  cases hh : has l nm with
  | false =>
    rw [hh] at HU
    have HX := Lib.hid (show 5 = r by rw [← HR.out, hh]; rfl)
    rw [if_neg (by decide)] at HU
    clear hh HR NA
    go_enter Tryz.func108, Tryz.ntmps108
    go_wp2_with fail
    refine HU.out.mono ?_
    rintro e w1 ⟨rfl, hb⟩
    have HB := Lib.hid hb
    clear hb
    go_wp2_with fail
    go_ret
    exact ⟨ret_int10 HX.out, HB.out⟩
  | true =>
    rw [hh] at HU
    rw [if_pos rfl] at HU
    have HX := Lib.hid (show (if nameOk ds = true ∧ ds ≠ nm then (0 : Int) else 1) = r by rw [← HR.out, hh]; rfl)
    clear hh HR
    cases hb : nameOk ds with
    | false =>
      rw [hb] at NA
      have HY := Lib.hid (show 1 = r by rw [← HX.out, if_neg (by rw [hb]; simp)])
      clear hb HX
      go_enter Tryz.func108, Tryz.ntmps108
      go_wp2_with fail
      refine HU.out.mono ?_
      rintro e w1 ⟨rfl, hb⟩
      have HB := Lib.hid hb
      clear hb
      go_wp2_with fail
      refine (NA.out _).mono ?_
      rintro e w2 ⟨rfl, rfl⟩
      go_wp2_with fail
      go_ret
      exact ⟨ret_int10 HY.out, HB.out⟩
    | true =>
      rw [hb] at NA
      by_cases hd : ds = nm
      · subst hd
        have HY := Lib.hid (show 1 = r by rw [← HX.out, if_neg (by simp)])
        clear hb HX
        go_enter Tryz.func108, Tryz.ntmps108
        go_wp2_with fail
        refine HU.out.mono ?_
        rintro e w1 ⟨rfl, hb⟩
        have HB := Lib.hid hb
        clear hb
        go_wp2_with fail
        refine (NA.out _).mono ?_
        rintro e w2 ⟨rfl, rfl⟩
        go_wp2_with fail
        go_ret
        exact ⟨ret_int10 HY.out, HB.out⟩
      · have HY := Lib.hid (show 0 = r by rw [← HX.out, if_pos ⟨hb, hd⟩])
        have hne := name_ne hd
        clear hb HX hd
        go_enter Tryz.func108, Tryz.ntmps108
        go_wp2_with fail
        refine HU.out.mono ?_
        rintro e w1 ⟨rfl, hb⟩
        have HB := Lib.hid hb
        clear hb
        go_wp2_with fail
        refine (NA.out _).mono ?_
        rintro e w2 ⟨rfl, rfl⟩
        go_wp2_with fail
        go_ret
        exact ⟨ret_int10 HY.out, HB.out⟩

set_option maxHeartbeats 1000000 in
theorem fault_any (A : Option Addr) (n c : Nat) (l : List E) (o : O) (w : World) (hs : SeesE w (.slice A n c) l) (hn : l.length = n) (hsrt : Srt l) (hL : n ≤ 1000) :
    Calls Tryz.prog 92 #[.slice A n c, .agg #[.int .i64 o.kind, .string o.name, .string o.dst, .int .i64 o.node]] w fun e w' => e = .returned (.int .i64 (err l o)) ∧ Below w.heap.size w w' := by
  have B0 := Lib.hid (below_made w (.cells #[.int .i64 o.kind, .string o.name, .string o.dst, .int .i64 o.node] 65))
  have L1 := Lib.hid (linkFault_any A n c l o.name _ (hs.later B0.out) hn hsrt hL)
  have L2 := Lib.hid (moveFault_any A n c l o.name o.dst _ (hs.later B0.out) hn hsrt hL)
  have L3 := Lib.hid (unlinkFault_any A n c l o.name _ (hs.later B0.out) hn hsrt hL)
  clear hs hn hsrt hL
  obtain ⟨kd, nm, ds, nd⟩ := o
  simp only at B0 L1 L2 L3 ⊢
  generalize hr : err l ⟨kd, nm, ds, nd⟩ = r
  have HR := Lib.hid hr
  clear hr
  unfold err at HR
  simp only at HR
  by_cases h1 : kd = 1
  · subst h1
    generalize (if nameOk nm = true then (if has l nm = true then (6 : Int) else if 100 ≤ l.length then 7 else 0) else 1) = r1 at *
    clear L2 L3
    have HE := Lib.hid (show r1 = r by have := HR.out; simpa using this)
    clear HR
    go_enter Tryz.func92, Tryz.ntmps92
    go_wp2_with fail
    refine L1.out.mono ?_
    rintro e w1 ⟨rfl, hb⟩
    have HB := Lib.hid (B0.out.trans (hb.mono B0.out.size))
    clear hb
    go_wp2_with fail
    go_ret
    exact ⟨ret_int10 HE.out, HB.out⟩
  · by_cases h2 : kd = 2
    · subst h2
      generalize (if has l nm = true then (if nameOk ds = true ∧ ds ≠ nm then (0 : Int) else 1) else 5) = r2 at *
      clear L1 L3 h1
      have HE := Lib.hid (show r2 = r by have := HR.out; simpa using this)
      clear HR
      go_enter Tryz.func92, Tryz.ntmps92
      go_wp2_with fail
      refine L2.out.mono ?_
      rintro e w1 ⟨rfl, hb⟩
      have HB := Lib.hid (B0.out.trans (hb.mono B0.out.size))
      clear hb
      go_wp2_with fail
      go_ret
      exact ⟨ret_int10 HE.out, HB.out⟩
    · by_cases h3 : kd = 3
      · subst h3
        have HE := Lib.hid (show (if has l nm = true then (0 : Int) else 5) = r by have := HR.out; simpa using this)
        clear HR
        generalize (if has l nm = true then (0 : Int) else 5) = r3 at *
        clear L1 L2 h1 h2
        go_enter Tryz.func92, Tryz.ntmps92
        go_wp2_with fail
        refine L3.out.mono ?_
        rintro e w1 ⟨rfl, hb⟩
        have HB := Lib.hid (B0.out.trans (hb.mono B0.out.size))
        clear hb
        go_wp2_with fail
        go_ret
        exact ⟨ret_int10 HE.out, HB.out⟩
      · have HE := Lib.hid (show 16 = r by have := HR.out; rw [if_neg h1, if_neg h2, if_neg h3] at this; exact this)
        have d1 : (kd == 1) = false := by simpa using h1
        have d2 : (kd == 2) = false := by simpa using h2
        have d3 : (kd == 3) = false := by simpa using h3
        clear L1 L2 L3 HR h1 h2 h3
        go_enter Tryz.func92, Tryz.ntmps92
        go_wp2_with fail
        go_ret
        exact ⟨ret_int10 HE.out, B0.out⟩

/-- What performed returns. -/
def PerfPost (r : List E × Int) (w : World) (e : Ending) (w' : World) : Prop := ∃ v, e = .returned (.tuple #[v, .int .i64 r.2]) ∧ OwnE w' w.heap.size v r.1 ∧ Below w.heap.size w w'

set_option maxHeartbeats 2000000 in
set_option maxRecDepth 100000 in
theorem performed_any (v u : Value) (l : List E) (os : List O) (w : World) (hs : SeesE w v l) (hu : SeesO w u os) (hord : Ord l) (hL : os.length ≤ 1000000) :
    Calls Tryz.prog 69 #[v, u] w (PerfPost (all l os) w) := by
  obtain ⟨A, c, rfl, hc⟩ := SeesN.form hs
  obtain ⟨A1, c1, rfl, hc1⟩ := SeesN.form hu
  obtain ⟨len, hn⟩ : ∃ len, len = os.length := ⟨_, rfl⟩
  have CL := Lib.hid (cloneE_any _ l w hs (by have := hord.few; omega))
  have HU := Lib.hid (fun W (hb : Below w.heap.size w W) => hu.later hb)
  have HR := Lib.hid hord
  have HN := Lib.hid hn
  rw [← hn] at HU hL ⊢
  clear hs hu hord hn hc hc1
  generalize l.length = n at *
  unfold CloneE at CL
  unfold PerfPost
  go_enter Tryz.func69, Tryz.ntmps69
  go_wp2_with fail
  refine CL.out.mono ?_
  rintro e w0 ⟨v0, rfl, ho0, hb0⟩
  have O0 := Lib.hid ho0
  have B0 := Lib.hid hb0
  clear ho0 hb0 CL
  go_wp2_with fail
  go_loopw [6, 14] (fun x i wr => ∃ (k : Nat) (cur : List E), k ≤ len ∧ i = .int .i64 (k : Int) ∧ all l (os.take k) = (cur, 0) ∧ OwnE wr w.heap.size x cur ∧ Below w.heap.size w wr) (fun _ i _ => len - (intOf i).toNat)
  case atStart => exact ⟨0, l, Nat.zero_le _, rfl, rfl, O0.out, B0.out⟩
  case round =>
    clear O0 B0
    obtain ⟨k, cur, hk, rfl, hall, ho, hb⟩ := hrel
    have HA := Lib.hid hall
    have HO := Lib.hid ho
    have HB := Lib.hid hb
    have OC := Lib.hid (show Ord cur by
      have := all_ord (os.take k) HR.out
      rw [hall] at this
      exact this rfl)
    clear hall ho hb
    by_cases hlt : k < len
    · have hkl : k < os.length := by rw [← HN.out]; exact hlt
      obtain ⟨g, off, rfl, hg, c0, c1', c2, c3⟩ := (HU.out _ HB.out).cells hkl
      obtain ⟨B, d, hx, hcB⟩ := (SeesN.of_own HO.out).form
      subst hx
      have NX := Lib.hid (all_next hkl HA.out)
      have ST := Lib.hid (all_stop hkl HA.out)
      generalize os[k] = o at *
      have BM := Lib.hid (below_made wr (.cells #[.int .i64 o.kind, .string o.name, .string o.dst, .int .i64 o.node] 65))
      have X1 := Lib.hid (OBox.made wr o)
      have O1 := Lib.hid (own_belowN HO.out BM.out)
      have B1 := Lib.hid (HB.out.trans (BM.out.mono HB.out.size))
      have FA := Lib.hid (fault_any B cur.length d cur o _ (SeesE.of_own O1.out) rfl OC.out.srt (by have := OC.out.few; omega))
      have CH := Lib.hid (fun W (h1 : OwnE W w.heap.size (.slice B cur.length d) cur) (h2 : w.heap.size ≤ W.heap.size) (h3 : err cur o = 0) => changed_any w.heap.size _ cur o W h1 OC.out.srt (by have := OC.out.few; omega) h2 h3)
      obtain ⟨m, hm⟩ : ∃ m, m = cur.length := ⟨_, rfl⟩
      rw [← hm] at FA CH HO O1 ⊢
      obtain ⟨kd, nm, ds, nd⟩ := o
      simp only at c0 c1' c2 c3 BM X1 O1 B1 FA CH NX ST
      have HM := Lib.hid hm
      clear hcB hm
      go_wp2_with fail
      refine FA.out.mono ?_
      rintro e w1 ⟨rfl, hb1⟩
      have X2 := Lib.hid (X1.out.later hb1)
      have O2 := Lib.hid (own_belowN O1.out hb1)
      have B2 := Lib.hid (B1.out.trans (hb1.mono B1.out.size))
      clear hb1 FA X1 O1 B1 BM
      obtain ⟨x0, x1, x2, x3⟩ := X2.out.cells
      simp only at x0 x1 x2 x3
      obtain ⟨r, hr⟩ : ∃ r, r = err cur ⟨kd, nm, ds, nd⟩ := ⟨_, rfl⟩
      rw [← hr] at NX ST CH ⊢
      by_cases h0 : r = 0
      · subst h0
        have CC := Lib.hid (CH.out w1 (by show World.ownsRow _ _ _ _ _ _ _; rw [← HM.out]; exact O2.out) B2.out.size rfl)
        have HX := Lib.hid (NX.out rfl)
        clear NX ST CH hr
        unfold InsPost at CC
        go_wp2_with fail
        refine CC.out.mono ?_
        rintro e w2 ⟨v2, rfl, ho2, hb2⟩
        have O3 := Lib.hid ho2
        have B3 := Lib.hid (B2.out.trans hb2)
        clear ho2 hb2
        go_wp2_with fail
        go_roundw
        case rel => exact ⟨k + 1, _, by omega, by go_num, HX.out, O3.out, B3.out⟩
        case measure => simp [intOf]; omega
      · have HX := Lib.hid (ST.out h0)
        have h0' : (r == 0) = false := by simpa using h0
        clear NX ST CH hr h0
        go_wp2_with fail
        go_ret2
        exact ⟨_, by rw [HX.out]; rfl, by rw [HX.out]; exact World.ownsRow_nil _ _ _ _, B2.out⟩
    · have HX := Lib.hid (show all l os = (cur, 0) by
        have h := HA.out
        rw [List.take_of_length_le (by rw [← HN.out]; omega)] at h
        exact h)
      go_wp2_with fail
      go_ret2
      exact ⟨_, by rw [HX.out]; rfl, by rw [HX.out]; exact HO.out, HB.out⟩
end Go.Proofs.YtaklilhnikmmfaaGreat
