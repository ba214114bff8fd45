/-
  The walk of sha.process.
-/
import Derived.Test.YtcccgcahmnmchaaDoorShaMix
namespace Go.Proofs.YtcccgcahmnmchaaDoor
open Go.RowKit StrM ShaM

/-- The slices s[i:j], s[:j] and s[i:] of a slice that is read as a list. -/
theorem sliced_sees {w : World} {A : Option Addr} {len cap : Nat} {l : List UInt8} (h : SeesV w (.slice A len cap) (bys l)) (hcap : len ≤ cap) {i j : Nat} (hij : i ≤ j) (hj : j ≤ len) :
    ∃ A', sliced A i j cap 1 = .slice A' (j - i) (cap - i) ∧ SeesV w (.slice A' (j - i) (cap - i)) (bys ((l.drop i).take (j - i))) := by
  refine ⟨_, rfl, ?_⟩
  obtain ⟨A1, cap1, e, h⟩ := h
  injection e with e1 e2 e3
  subst e1 e3
  rw [bys_len] at e2
  have hl : (bys ((l.drop i).take (j - i))).length = j - i := by rw [bys_len]; simp; omega
  refine ⟨_, cap - i, by rw [hl], ?_⟩
  by_cases h0 : j - i = 0
  · left; exact List.length_eq_zero_iff.1 (by rw [hl]; exact h0)
  · rcases h with h | ⟨g, off, rfl, hg, hc⟩
    · have := congrArg List.length h
      rw [bys_len, List.length_nil] at this; omega
    · right
      rw [if_neg (by omega)]
      refine ⟨g, off + i, ?_, hg, fun k hk => ?_⟩
      · by_cases i0 : i = 0
        · subst i0; simp [Addr.add]
        · simp [Addr.add, i0]
      · rw [hl] at hk
        have := hc (i + k) (by rw [bys_len]; omega)
        rw [Nat.add_assoc, this]
        simp [bys]
theorem elem_bytes : Tryd.prog.underlying 22 = some (.slice (Tryd.prog.elem 22)) := by kernel_rfl
theorem size_byte (W : World) : (sizeOf (Tryd.prog.elem 22)).run Tryd.prog W = .ok 1 W := by kernel_rfl
theorem cut_lh {w : World} {A : Option Addr} {len cap : Nat} {l : List UInt8} (h : SeesV w (.slice A len cap) (bys l)) (hcap : len ≤ cap) {i j : Nat} (hij : i ≤ j) (hj : j ≤ len) :
    ∃ A', (∀ W, (Instr.sliceAt 22 (.slice A len cap) (some (.int .i64 (i : Int))) (some (.int .i64 (j : Int))) none).run Tryd.prog W = .ok (.slice A' (j - i) (cap - i)) W) ∧ SeesV w (.slice A' (j - i) (cap - i)) (bys ((l.drop i).take (j - i))) := by
  obtain ⟨A', e, hs⟩ := sliced_sees h hcap hij hj
  refine ⟨A', fun W => ?_, hs⟩
  rw [run_sliceAt_slice W _ _ _ _ _ elem_bytes, run_slice_lh W _ A len cap elem_bytes .i64 .i64 _ _ (by omega) (by omega) (by omega), size_byte]
  simp only [Result.andThen, Int.toNat_natCast, e]
theorem cut_h {w : World} {A : Option Addr} {len cap : Nat} {l : List UInt8} (h : SeesV w (.slice A len cap) (bys l)) (hcap : len ≤ cap) {j : Nat} (hj : j ≤ len) :
    ∃ A', (∀ W, (Instr.sliceAt 22 (.slice A len cap) none (some (.int .i64 (j : Int))) none).run Tryd.prog W = .ok (.slice A' j cap) W) ∧ SeesV w (.slice A' j cap) (bys (l.take j)) := by
  obtain ⟨A', e, hs⟩ := sliced_sees h hcap (Nat.zero_le j) hj
  simp only [Nat.sub_zero, List.drop_zero] at e hs
  refine ⟨A', fun W => ?_, hs⟩
  rw [run_sliceAt_slice W _ _ _ _ _ elem_bytes, run_slice_h W _ A len cap elem_bytes .i64 _ (by omega) (by omega), size_byte]
  simp only [Result.andThen, Int.toNat_natCast, e]
theorem cut_l {w : World} {A : Option Addr} {len cap : Nat} {l : List UInt8} (h : SeesV w (.slice A len cap) (bys l)) (hcap : len ≤ cap) {i : Nat} (hi : i ≤ len) :
    ∃ A', (∀ W, (Instr.sliceAt 22 (.slice A len cap) (some (.int .i64 (i : Int))) none none).run Tryd.prog W = .ok (.slice A' (len - i) (cap - i)) W) ∧ SeesV w (.slice A' (len - i) (cap - i)) (bys (l.drop i)) := by
  have hl : l.length = len := by obtain ⟨_, _, e, _⟩ := h; injection e with _ e _; rw [e, bys_len]
  obtain ⟨A', e, hs⟩ := sliced_sees h hcap hi (Nat.le_refl len)
  rw [List.take_of_length_le (by rw [List.length_drop, hl]; exact Nat.le_refl _)] at hs
  refine ⟨A', fun W => ?_, hs⟩
  rw [run_sliceAt_slice W _ _ _ _ _ elem_bytes, run_slice_l W _ A len cap elem_bytes .i64 _ (by omega) (by omega), size_byte]
  simp only [Result.andThen, Int.toNat_natCast, e]

/-- How far process has come. -/
def PRel (w : World) (l : List UInt8) (s : S8) (k : Nat) (wr : World) : Prop :=
  Below w.heap.size w wr ∧ Row wr w.heap.size 31 (u32s (words8 (blocks l k s))) ∧ Row wr (w.heap.size + 1) 31 (u32s (List.replicate 8 0))
theorem PRel.start (w : World) (l : List UInt8) (s : S8) {vs : List Value} (h : vs = u32s (words8 s)) : PRel w l s 0 ((w.alloc (.cells vs.toArray 31)).alloc (.cells #[.int .u32 0, .int .u32 0, .int .u32 0, .int .u32 0, .int .u32 0, .int .u32 0, .int .u32 0, .int .u32 0] 31)) := by
  subst h
  have e : (#[.int .u32 0, .int .u32 0, .int .u32 0, .int .u32 0, .int .u32 0, .int .u32 0, .int .u32 0, .int .u32 0] : Array Value) = (u32s (List.replicate 8 0)).toArray := by rfl
  rw [e]
  refine ⟨((Below.refl _ _).alloc (Nat.le_refl _) _).alloc (by simp) _, (Row.new _ _ _).alloc _, ?_⟩
  have := Row.new (w.alloc (.cells (u32s (words8 s)).toArray 31)) 31 (u32s (List.replicate 8 0))
  simpa using this

def zero8 : List Value := [.int .u32 0, .int .u32 0, .int .u32 0, .int .u32 0, .int .u32 0, .int .u32 0, .int .u32 0, .int .u32 0]
/-- The eight values lie in the block at w's end, the result's place behind it; below nothing has turned. -/
def PS (w : World) (a b c d e f g h : Nat) (W : World) : Prop := Below w.heap.size w W ∧ Row W w.heap.size 31 [.int .u32 (a : Int), .int .u32 (b : Int), .int .u32 (c : Int), .int .u32 (d : Int), .int .u32 (e : Int), .int .u32 (f : Int), .int .u32 (g : Int), .int .u32 (h : Int)] ∧ Row W (w.heap.size + 1) 31 zero8
section
variable {w W W' : World} {a b c d e f g h : Nat}
theorem PS.cells (p : PS w a b c d e f g h W) : W.cell? ⟨w.heap.size, 0, none⟩ = some (.int .u32 (a : Int)) ∧ W.cell? ⟨w.heap.size, 1, none⟩ = some (.int .u32 (b : Int)) ∧ W.cell? ⟨w.heap.size, 2, none⟩ = some (.int .u32 (c : Int)) ∧ W.cell? ⟨w.heap.size, 3, none⟩ = some (.int .u32 (d : Int)) ∧ W.cell? ⟨w.heap.size, 4, none⟩ = some (.int .u32 (e : Int)) ∧ W.cell? ⟨w.heap.size, 5, none⟩ = some (.int .u32 (f : Int)) ∧ W.cell? ⟨w.heap.size, 6, none⟩ = some (.int .u32 (g : Int)) ∧ W.cell? ⟨w.heap.size, 7, none⟩ = some (.int .u32 (h : Int)) :=
  ⟨p.2.1.cell 0, p.2.1.cell 1, p.2.1.cell 2, p.2.1.cell 3, p.2.1.cell 4, p.2.1.cell 5, p.2.1.cell 6, p.2.1.cell 7⟩
theorem PS.lt (p : PS w a b c d e f g h W) : w.heap.size + 1 < W.heap.size := p.2.2.lt
theorem PS.below (p : PS w a b c d e f g h W) (hb : Below W.heap.size W W') : PS w a b c d e f g h W' :=
  ⟨p.1.trans (hb.mono p.1.size), p.2.1.below hb p.2.1.lt, p.2.2.below hb p.2.2.lt⟩
theorem PS.alloc (p : PS w a b c d e f g h W) (o : Obj) : PS w a b c d e f g h (W.alloc o) := ⟨p.1.alloc p.1.size o, p.2.1.alloc o, p.2.2.alloc o⟩
theorem PS.drew (p : PS w a b c d e f g h W) : PS w a b c d e f g h W.drew := ⟨p.1.drew, p.2.1, p.2.2⟩
theorem PS.far (p : PS w a b c d e f g h W) {k i : Nat} {u : Value} (hk : w.heap.size + 1 < k) : PS w a b c d e f g h (W.setCell ⟨k, i, none⟩ u) :=
  ⟨p.1.setCell (p := ⟨k, i, none⟩) (by show w.heap.size ≤ k; omega) u, p.2.1.far (p := ⟨k, i, none⟩) (by show w.heap.size ≠ k; omega) u, p.2.2.far (p := ⟨k, i, none⟩) (by show w.heap.size + 1 ≠ k; omega) u⟩
end
theorem zero_later {X w' : World} (hb : Below (X.alloc (.cells #[.int .u32 0, .int .u32 0, .int .u32 0, .int .u32 0, .int .u32 0, .int .u32 0, .int .u32 0, .int .u32 0] 31)).heap.size (X.alloc (.cells #[.int .u32 0, .int .u32 0, .int .u32 0, .int .u32 0, .int .u32 0, .int .u32 0, .int .u32 0, .int .u32 0] 31)) w') : Row w' X.heap.size 31 zero8 :=
  (Row.new X _ zero8).below hb (by simp)
theorem zero_laterD {X w' : World} (hb : Below (X.alloc (.cells #[.int .u32 0, .int .u32 0, .int .u32 0, .int .u32 0, .int .u32 0, .int .u32 0, .int .u32 0, .int .u32 0] 31)).drew.heap.size (X.alloc (.cells #[.int .u32 0, .int .u32 0, .int .u32 0, .int .u32 0, .int .u32 0, .int .u32 0, .int .u32 0, .int .u32 0] 31)).drew w') : Row w' X.heap.size 31 zero8 :=
  Row.below (w := (X.alloc (.cells #[.int .u32 0, .int .u32 0, .int .u32 0, .int .u32 0, .int .u32 0, .int .u32 0, .int .u32 0, .int .u32 0] 31)).drew) (Row.new X _ zero8) hb (by simp [World.drew])
theorem zero_cells {W : World} {g : Nat} (h : Row W g 31 zero8) : (∀ i, W.frozen? ⟨g, i, none⟩ = false) ∧ W.cell? ⟨g, 0, none⟩ = some (.int .u32 0) ∧ W.cell? ⟨g, 1, none⟩ = some (.int .u32 0) ∧ W.cell? ⟨g, 2, none⟩ = some (.int .u32 0) ∧ W.cell? ⟨g, 3, none⟩ = some (.int .u32 0) ∧ W.cell? ⟨g, 4, none⟩ = some (.int .u32 0) ∧ W.cell? ⟨g, 5, none⟩ = some (.int .u32 0) ∧ W.cell? ⟨g, 6, none⟩ = some (.int .u32 0) ∧ W.cell? ⟨g, 7, none⟩ = some (.int .u32 0) :=
  ⟨h.frozen, h.cell 0, h.cell 1, h.cell 2, h.cell 3, h.cell 4, h.cell 5, h.cell 6, h.cell 7⟩

/-- The first i values have been added to. -/
def zipAdd (xs ys : List Nat) : Nat → List Nat
  | 0 => xs
  | i + 1 => (zipAdd xs ys i).set i ((xs.getD i 0 + ys.getD i 0) % 4294967296)
theorem zipAdd_len (xs ys : List Nat) (i : Nat) : (zipAdd xs ys i).length = xs.length := by
  induction i with
  | zero => rfl
  | succ i ih => simp [zipAdd, ih]
theorem zipAdd_at (xs ys : List Nat) (i : Nat) : ∀ j, i ≤ j → (zipAdd xs ys i).getD j 0 = xs.getD j 0 := by
  induction i with
  | zero => intro j _; rfl
  | succ i ih =>
    intro j hj
    show ((zipAdd xs ys i).set i _).getD j 0 = _
    rw [List.getD_eq_getElem?_getD, List.getElem?_set, if_neg (by omega), ← List.getD_eq_getElem?_getD]
    exact ih j (by omega)
theorem zipAdd_done (s t : S8) : zipAdd (words8 s) (words8 t) 8 = words8 (addS s t) := by
  have e : zipAdd (words8 s) (words8 t) 8 = words8 ⟨(s.a + t.a) % 4294967296, (s.b + t.b) % 4294967296, (s.c + t.c) % 4294967296, (s.d + t.d) % 4294967296, (s.e + t.e) % 4294967296, (s.f + t.f) % 4294967296, (s.g + t.g) % 4294967296, (s.h + t.h) % 4294967296⟩ := rfl
  rw [e]
  simp [words8, addS, Nat.add_comm]

/-- How far the addition of the mixed values has come. -/
def IRel (w : World) (G : Nat) (s t : S8) (i : Nat) (wr : World) : Prop :=
  Below w.heap.size w wr ∧ Row wr w.heap.size 31 (u32s (zipAdd (words8 s) (words8 t) i)) ∧ Row wr (w.heap.size + 1) 31 zero8 ∧ Row wr G 31 (u32s (words8 t)) ∧ w.heap.size + 1 < G
theorem IRel.step {w wr : World} {G i : Nat} {s t : S8} (h : IRel w G s t i wr) {x : Int} (hx : x = (((words8 s).getD i 0 + (words8 t).getD i 0) % 4294967296 : Nat)) :
    IRel w G s t (i + 1) (wr.setCell ⟨w.heap.size, i, none⟩ (.int .u32 x)).drew := by
  subst hx
  have hG := h.2.2.2.2
  refine ⟨(h.1.setCell (Nat.le_refl _) _).drew, ?_, h.2.2.1.far (p := ⟨w.heap.size, i, none⟩) (by simp) _, h.2.2.2.1.far (p := ⟨w.heap.size, i, none⟩) (by show G ≠ w.heap.size; omega) _, hG⟩
  have := h.2.1.set i (.int .u32 ((((words8 s).getD i 0 + (words8 t).getD i 0) % 4294967296 : Nat) : Int))
  rw [u32s_set] at this
  exact this
theorem IRel.own {w wr : World} {G i j : Nat} {s t : S8} (h : IRel w G s t i wr) (hj : j < 8) (hi : i ≤ j) : wr.cell? ⟨w.heap.size, j, none⟩ = some (.int .u32 (((words8 s).getD j 0 : Nat) : Int)) := by
  rw [h.2.1.cell, u32s_at (by rw [zipAdd_len]; exact hj), zipAdd_at _ _ _ _ hi]
theorem IRel.other {w wr : World} {G i j : Nat} {s t : S8} (h : IRel w G s t i wr) (hj : j < 8) : wr.cell? ⟨G, j, none⟩ = some (.int .u32 (((words8 t).getD j 0 : Nat) : Int)) := by
  rw [h.2.2.2.1.cell, u32s_at hj]
theorem words_lt {s : S8} (h : s.Ok) (j : Nat) : (words8 s).getD j 0 < 4294967296 := getD_lt (by
  obtain ⟨h1, h2, h3, h4, h5, h6, h7, h8⟩ := h
  intro x hx
  simp only [words8, List.mem_cons, List.not_mem_nil, or_false] at hx
  rcases hx with rfl | rfl | rfl | rfl | rfl | rfl | rfl | rfl <;> assumption) j

set_option maxHeartbeats 800000 in
set_option maxRecDepth 100000 in
theorem process_any (s : S8) (A : Option Addr) (len cap : Nat) (l : List UInt8) (n : Nat) (w : World) (hs : s.Ok) (hv : SeesV w (.slice A len cap) (bys l)) (hcap : len ≤ cap) (hn : l.length = 64 * n) (hm : l.length ≤ 1000000) (hT : Tabs w) :
    Calls Tryd.prog 10 #[.agg (u32s (words8 s)).toArray, .slice A len cap] w fun e w' => e = .returned (.agg (u32s (words8 (blocks l n s))).toArray) ∧ Below w.heap.size w w' := by
  obtain ⟨vs, hvs⟩ : ∃ vs, vs = u32s (words8 s) := ⟨_, rfl⟩
  obtain ⟨rs, hrs⟩ : ∃ rs, rs = u32s (words8 (blocks l n s)) := ⟨_, rfl⟩
  rw [← hvs, ← hrs]
  have HV := Lib.hid hvs
  have HRS := Lib.hid hrs
  have HOK := Lib.hid hs
  have HT := Lib.hid hT
  have HN := Lib.hid hn
  have hlen : l.length = len := by obtain ⟨_, _, e, _⟩ := hv; injection e with _ e _; rw [e, bys_len]
  rw [hlen] at hm
  have HLEN := Lib.hid hlen
  have HSEE := Lib.hid hv
  have HP0 := Lib.hid (PRel.start w l s hvs)
  clear hvs hrs hs hT hn hv hlen
  go_enter Tryd.func10, Tryd.ntmps10
  go_wp2_with fail
  go_loopw [5] (fun x wr => ∃ k : Nat, k ≤ n ∧ x = .int .i64 ((64 * k : Nat) : Int) ∧ PRel w l s k wr) (fun x _ => len - (intOf x).toNat)
  case atStart => exact ⟨0, Nat.zero_le _, rfl, HP0.out⟩
  case round =>
    obtain ⟨k, hk, rfl, hP⟩ := hrel
    have HP := Lib.hid hP
    clear hP HP0
    by_cases hlt : k < n
    · have hlt2 : 64 * k + 64 ≤ len := by have := HN.out; have := HLEN.out; omega
      obtain ⟨at0, hat⟩ : ∃ m, m = 64 * k := ⟨_, rfl⟩
      rw [← hat] at hlt2 ⊢
      have HAT := Lib.hid hat
      clear hat
      obtain ⟨A', hcut, hsee⟩ := cut_lh HSEE.out hcap (show at0 ≤ at0 + 64 by omega) hlt2
      have e64 : at0 + 64 - at0 = 64 := by omega
      rw [e64] at hcut hsee
      have hcB : (l.drop at0).take 64 = cutB l k := by rw [HAT.out]; rfl
      rw [hcB] at hsee
      have hblen : (cutB l k).length = 64 := by rw [← hcB]; simp; have := HLEN.out; omega
      obtain ⟨ws, hws⟩ : ∃ ws, ws = u32s (sched (cutB l k) 64) := ⟨_, rfl⟩
      have ec : ((at0 + 64 : Nat) : Int) = (at0 : Int) + 64 := by omega
      rw [ec] at hcut
      have c0 := HP.out.2.1
      obtain ⟨⟨a, b, c, d, e, f, g, h⟩, hS⟩ : ∃ S, S = blocks l k s := ⟨_, rfl⟩
      obtain ⟨⟨a2, b2, c2, d2, e2, f2, g2, h2⟩, hS2⟩ : ∃ S, S = rounds (sched (cutB l k) 64) 64 (blocks l k s) := ⟨_, rfl⟩
      have hexp : ∀ W, PS w a b c d e f g h W → Calls Tryd.prog 19 #[.slice A' 64 (cap - at0)] W fun en w' => en = .returned (.agg ws.toArray) ∧ PS w a b c d e f g h w' ∧ Below W.heap.size W w' := fun W hb => by
        rw [hws]; exact (expand_any _ _ W (hsee.later hb.1) hblen).mono fun _ _ h => ⟨h.1, hb.below h.2, h.2⟩
      have HEXP := Lib.hid hexp
      have hmix : ∀ W, PS w a b c d e f g h W → Calls Tryd.prog 18 #[.agg #[.int .u32 (a : Int), .int .u32 (b : Int), .int .u32 (c : Int), .int .u32 (d : Int), .int .u32 (e : Int), .int .u32 (f : Int), .int .u32 (g : Int), .int .u32 (h : Int)], .agg ws.toArray] W fun en w' => en = .returned (.agg #[.int .u32 (a2 : Int), .int .u32 (b2 : Int), .int .u32 (c2 : Int), .int .u32 (d2 : Int), .int .u32 (e2 : Int), .int .u32 (f2 : Int), .int .u32 (g2 : Int), .int .u32 (h2 : Int)]) ∧ PS w a b c d e f g h w' ∧ Below W.heap.size W w' := fun W hb => by
        have := mix_any (blocks l k s) (sched (cutB l k) 64) W (blocks_ok l HOK.out k) (sched_len _ _) (sched_lt _ _) (HT.out.below hb.1 HT.out.two)
        rw [hws]
        rw [← hS2, ← hS] at this
        exact this.mono fun _ _ h => ⟨h.1, hb.below h.2, h.2⟩
      have HMIX := Lib.hid hmix
      have HS := Lib.hid hS
      have HS2 := Lib.hid hS2
      have hrow := HP.out.2.1
      rw [← hS] at hrow
      have OK1 := Lib.hid (show S8.Ok ⟨a, b, c, d, e, f, g, h⟩ by rw [hS]; exact blocks_ok l HOK.out k)
      have OK2 := Lib.hid (show S8.Ok ⟨a2, b2, c2, d2, e2, f2, g2, h2⟩ by rw [hS2]; exact rounds_ok _ (blocks_ok l HOK.out k) 64)
      have HNEXT := Lib.hid (show ∀ W, Below w.heap.size w W → Row W w.heap.size 31 (u32s (zipAdd (words8 ⟨a, b, c, d, e, f, g, h⟩) (words8 ⟨a2, b2, c2, d2, e2, f2, g2, h2⟩) 8)) → Row W (w.heap.size + 1) 31 zero8 → PRel w l s (k + 1) W from fun W h1 h2 h3 => by
        rw [zipAdd_done, hS, hS2] at h2; exact ⟨h1, h2, h3⟩)
      have hp0 : PS w a b c d e f g h wr := ⟨HP.out.1, hrow, HP.out.2.2⟩
      have hz0 : w.heap.size + 1 < wr.heap.size := HP.out.2.2.lt
      clear hexp hmix hS hS2 hrow c0 hcB hblen hsee e64 hws ec
      have t1 : (at0 : Int) < (len : Int) := by omega
      have t2 : (at0 : Int) + 64 ≤ (len : Int) := by omega
      have t3 : IntKind.i64.wrap ((at0 : Int) + 64) = (at0 : Int) + 64 := IntWalk.i64_in _ (by omega)
      go_wp2_with fail
      go_region_held3 (fun w' => w'.cell? ⟨w.heap.size, 0, none⟩ = some (.int .u32 (a : Int)) ∧ w'.cell? ⟨w.heap.size, 1, none⟩ = some (.int .u32 (b : Int)) ∧ w'.cell? ⟨w.heap.size, 2, none⟩ = some (.int .u32 (c : Int)) ∧ w'.cell? ⟨w.heap.size, 3, none⟩ = some (.int .u32 (d : Int)) ∧ w'.cell? ⟨w.heap.size, 4, none⟩ = some (.int .u32 (e : Int)) ∧ w'.cell? ⟨w.heap.size, 5, none⟩ = some (.int .u32 (f : Int)) ∧ w'.cell? ⟨w.heap.size, 6, none⟩ = some (.int .u32 (g : Int)) ∧ w'.cell? ⟨w.heap.size, 7, none⟩ = some (.int .u32 (h : Int)))
        (first | (((with_reducible refine PS.cells ?_)); repeat (with_reducible first | exact hp0 | exact hp1 | exact hp2 | refine PS.drew ?_ | refine PS.alloc ?_ _ | refine PS.far ?_ hz0 | refine PS.far ?_ hz1 | refine PS.far ?_ hz2)))
        (first
          | (go_at_call 19; ((with_reducible refine (HEXP.out _ ?_).mono ?_)); (with_reducible first | exact hp0.drew | exact (hp0.alloc _).drew); rintro en w1 ⟨rfl, hp1, hb1⟩; have hz1 := hp1.lt; (try ((with_reducible have z1 := zero_laterD hb1))))
          | (go_at_call 18; ((with_reducible refine (HMIX.out _ ?_).mono ?_)); (with_reducible first | exact hp1 | exact hp1.alloc _); rintro en w2 ⟨rfl, hp2, hb2⟩; have hz2 := hp2.lt; (try ((with_reducible first | have z2 := zero_later hb2 | have z2 := z1.below hb2 z1.lt); obtain ⟨yf, y0, y1, y2, y3, y4, y5, y6, y7⟩ := zero_cells z2))))
      · have HI := Lib.hid (show IRel w w2.heap.size ⟨a, b, c, d, e, f, g, h⟩ ⟨a2, b2, c2, d2, e2, f2, g2, h2⟩ 0 (w2.alloc (.cells #[.int .u32 (a2 : Int), .int .u32 (b2 : Int), .int .u32 (c2 : Int), .int .u32 (d2 : Int), .int .u32 (e2 : Int), .int .u32 (f2 : Int), .int .u32 (g2 : Int), .int .u32 (h2 : Int)] 31)) from ⟨(hp2.alloc _).1, (hp2.alloc _).2.1, (hp2.alloc _).2.2, Row.new w2 _ _, hz2⟩)
        generalize (w2.alloc (.cells #[.int .u32 (a2 : Int), .int .u32 (b2 : Int), .int .u32 (c2 : Int), .int .u32 (d2 : Int), .int .u32 (e2 : Int), .int .u32 (f2 : Int), .int .u32 (g2 : Int), .int .u32 (h2 : Int)] 31)) = Wf at HI ⊢
        generalize w2.heap.size = G at HI ⊢
        clear hp0 hz0 hp1 hb1 hz1 hp2 hb2 hz2 t3
        go_wp2_with fail
        go_loopw [22] (fun x wi => ∃ i : Nat, i ≤ 8 ∧ x = .int .i64 (i : Int) ∧ IRel w G ⟨a, b, c, d, e, f, g, h⟩ ⟨a2, b2, c2, d2, e2, f2, g2, h2⟩ i wi) (fun x _ => 8 - (intOf x).toNat)
        case atStart => exact ⟨0, by omega, rfl, HI.out⟩
        case round =>
          obtain ⟨i, hi, rfl, hI⟩ := hrel
          have HJ := Lib.hid hI
          clear hI HI
          by_cases hl8 : i < 8
          · have v1 := HJ.out.own hl8 (Nat.le_refl i)
            have v2 := HJ.out.other hl8
            have f1 := HJ.out.2.1.frozen i
            have lx := words_lt OK1.out i
            have ly := words_lt OK2.out i
            obtain ⟨x, ex⟩ : ∃ x, x = (words8 ⟨a, b, c, d, e, f, g, h⟩).getD i 0 := ⟨_, rfl⟩
            obtain ⟨y, ey⟩ : ∃ y, y = (words8 ⟨a2, b2, c2, d2, e2, f2, g2, h2⟩).getD i 0 := ⟨_, rfl⟩
            rw [← ex] at v1 lx
            rw [← ey] at v2 ly
            have EX := Lib.hid ex
            have EY := Lib.hid ey
            clear ex ey
            go_wp2_with fail
            go_still_tail 7, (by kernel_rfl)
            change wpList _ _ _ _ _ wr.drew
            go_wp2_with fail
            have HJ' := Lib.hid (HJ.out.step (x := ((x : Int) + (y : Int)) % 4294967296) (by rw [EX.out, EY.out]; omega))
            go_roundw
            case rel => exact ⟨i + 1, by omega, by go_num, HJ'.out⟩
            case measure => simp [intOf]; omega
          · have H8 := Lib.hid (show i = 8 by omega)
            have hJ := HJ.out
            rw [H8.out] at hJ
            have HP' := Lib.hid (HNEXT.out wr hJ.1 hJ.2.1 hJ.2.2.1)
            clear hJ HJ H8
            go_wp2_with fail
            go_roundw
            case rel => exact ⟨k + 1, by omega, congrArg (Value.int .i64) (by have := HAT.out; omega), HP'.out⟩
            case measure => simp [intOf]; omega
      · have HI := Lib.hid (show IRel w w1.heap.size ⟨a, b, c, d, e, f, g, h⟩ ⟨a2, b2, c2, d2, e2, f2, g2, h2⟩ 0 ((((((((w2.setCell ⟨w1.heap.size, 0, none⟩ (.int .u32 (a2 : Int))).setCell ⟨w1.heap.size, 1, none⟩ (.int .u32 (b2 : Int))).setCell ⟨w1.heap.size, 2, none⟩ (.int .u32 (c2 : Int))).setCell ⟨w1.heap.size, 3, none⟩ (.int .u32 (d2 : Int))).setCell ⟨w1.heap.size, 4, none⟩ (.int .u32 (e2 : Int))).setCell ⟨w1.heap.size, 5, none⟩ (.int .u32 (f2 : Int))).setCell ⟨w1.heap.size, 6, none⟩ (.int .u32 (g2 : Int))).setCell ⟨w1.heap.size, 7, none⟩ (.int .u32 (h2 : Int))) from ⟨((((((((hp2.far hz1).far hz1).far hz1).far hz1).far hz1).far hz1).far hz1).far hz1).1, ((((((((hp2.far hz1).far hz1).far hz1).far hz1).far hz1).far hz1).far hz1).far hz1).2.1, ((((((((hp2.far hz1).far hz1).far hz1).far hz1).far hz1).far hz1).far hz1).far hz1).2.2, ((((((((z2.set 0 _).set 1 _).set 2 _).set 3 _).set 4 _).set 5 _).set 6 _).set 7 _), hz1⟩)
        generalize ((((((((w2.setCell ⟨w1.heap.size, 0, none⟩ (.int .u32 (a2 : Int))).setCell ⟨w1.heap.size, 1, none⟩ (.int .u32 (b2 : Int))).setCell ⟨w1.heap.size, 2, none⟩ (.int .u32 (c2 : Int))).setCell ⟨w1.heap.size, 3, none⟩ (.int .u32 (d2 : Int))).setCell ⟨w1.heap.size, 4, none⟩ (.int .u32 (e2 : Int))).setCell ⟨w1.heap.size, 5, none⟩ (.int .u32 (f2 : Int))).setCell ⟨w1.heap.size, 6, none⟩ (.int .u32 (g2 : Int))).setCell ⟨w1.heap.size, 7, none⟩ (.int .u32 (h2 : Int))) = Wf at HI ⊢
        generalize w1.heap.size = G at HI ⊢
        clear hp0 hz0 hp1 hb1 hz1 hp2 hb2 hz2 t3 yf y0 y1 y2 y3 y4 y5 y6 y7 z2
        go_wp2_with fail
        go_loopw [22] (fun x wi => ∃ i : Nat, i ≤ 8 ∧ x = .int .i64 (i : Int) ∧ IRel w G ⟨a, b, c, d, e, f, g, h⟩ ⟨a2, b2, c2, d2, e2, f2, g2, h2⟩ i wi) (fun x _ => 8 - (intOf x).toNat)
        case atStart => exact ⟨0, by omega, rfl, HI.out⟩
        case round =>
          obtain ⟨i, hi, rfl, hI⟩ := hrel
          have HJ := Lib.hid hI
          clear hI HI
          by_cases hl8 : i < 8
          · have v1 := HJ.out.own hl8 (Nat.le_refl i)
            have v2 := HJ.out.other hl8
            have f1 := HJ.out.2.1.frozen i
            have lx := words_lt OK1.out i
            have ly := words_lt OK2.out i
            obtain ⟨x, ex⟩ : ∃ x, x = (words8 ⟨a, b, c, d, e, f, g, h⟩).getD i 0 := ⟨_, rfl⟩
            obtain ⟨y, ey⟩ : ∃ y, y = (words8 ⟨a2, b2, c2, d2, e2, f2, g2, h2⟩).getD i 0 := ⟨_, rfl⟩
            rw [← ex] at v1 lx
            rw [← ey] at v2 ly
            have EX := Lib.hid ex
            have EY := Lib.hid ey
            clear ex ey
            go_wp2_with fail
            go_still_tail 7, (by kernel_rfl)
            change wpList _ _ _ _ _ wr.drew
            go_wp2_with fail
            have HJ' := Lib.hid (HJ.out.step (x := ((x : Int) + (y : Int)) % 4294967296) (by rw [EX.out, EY.out]; omega))
            go_roundw
            case rel => exact ⟨i + 1, by omega, by go_num, HJ'.out⟩
            case measure => simp [intOf]; omega
          · have H8 := Lib.hid (show i = 8 by omega)
            have hJ := HJ.out
            rw [H8.out] at hJ
            have HP' := Lib.hid (HNEXT.out wr hJ.1 hJ.2.1 hJ.2.2.1)
            clear hJ HJ H8
            go_wp2_with fail
            go_roundw
            case rel => exact ⟨k + 1, by omega, congrArg (Value.int .i64) (by have := HAT.out; omega), HP'.out⟩
            case measure => simp [intOf]; omega
      · have HI := Lib.hid (show IRel w wr.heap.size ⟨a, b, c, d, e, f, g, h⟩ ⟨a2, b2, c2, d2, e2, f2, g2, h2⟩ 0 ((((((((w2.setCell ⟨wr.heap.size, 0, none⟩ (.int .u32 (a2 : Int))).setCell ⟨wr.heap.size, 1, none⟩ (.int .u32 (b2 : Int))).setCell ⟨wr.heap.size, 2, none⟩ (.int .u32 (c2 : Int))).setCell ⟨wr.heap.size, 3, none⟩ (.int .u32 (d2 : Int))).setCell ⟨wr.heap.size, 4, none⟩ (.int .u32 (e2 : Int))).setCell ⟨wr.heap.size, 5, none⟩ (.int .u32 (f2 : Int))).setCell ⟨wr.heap.size, 6, none⟩ (.int .u32 (g2 : Int))).setCell ⟨wr.heap.size, 7, none⟩ (.int .u32 (h2 : Int))) from ⟨((((((((hp2.far hz0).far hz0).far hz0).far hz0).far hz0).far hz0).far hz0).far hz0).1, ((((((((hp2.far hz0).far hz0).far hz0).far hz0).far hz0).far hz0).far hz0).far hz0).2.1, ((((((((hp2.far hz0).far hz0).far hz0).far hz0).far hz0).far hz0).far hz0).far hz0).2.2, ((((((((z2.set 0 _).set 1 _).set 2 _).set 3 _).set 4 _).set 5 _).set 6 _).set 7 _), hz0⟩)
        generalize ((((((((w2.setCell ⟨wr.heap.size, 0, none⟩ (.int .u32 (a2 : Int))).setCell ⟨wr.heap.size, 1, none⟩ (.int .u32 (b2 : Int))).setCell ⟨wr.heap.size, 2, none⟩ (.int .u32 (c2 : Int))).setCell ⟨wr.heap.size, 3, none⟩ (.int .u32 (d2 : Int))).setCell ⟨wr.heap.size, 4, none⟩ (.int .u32 (e2 : Int))).setCell ⟨wr.heap.size, 5, none⟩ (.int .u32 (f2 : Int))).setCell ⟨wr.heap.size, 6, none⟩ (.int .u32 (g2 : Int))).setCell ⟨wr.heap.size, 7, none⟩ (.int .u32 (h2 : Int))) = Wf at HI ⊢
        generalize wr.heap.size = G at HI ⊢
        clear hp0 hz0 hp1 hb1 hz1 hp2 hb2 hz2 t3 yf y0 y1 y2 y3 y4 y5 y6 y7 z2 z1
        go_wp2_with fail
        go_loopw [22] (fun x wi => ∃ i : Nat, i ≤ 8 ∧ x = .int .i64 (i : Int) ∧ IRel w G ⟨a, b, c, d, e, f, g, h⟩ ⟨a2, b2, c2, d2, e2, f2, g2, h2⟩ i wi) (fun x _ => 8 - (intOf x).toNat)
        case atStart => exact ⟨0, by omega, rfl, HI.out⟩
        case round =>
          obtain ⟨i, hi, rfl, hI⟩ := hrel
          have HJ := Lib.hid hI
          clear hI HI
          by_cases hl8 : i < 8
          · have v1 := HJ.out.own hl8 (Nat.le_refl i)
            have v2 := HJ.out.other hl8
            have f1 := HJ.out.2.1.frozen i
            have lx := words_lt OK1.out i
            have ly := words_lt OK2.out i
            obtain ⟨x, ex⟩ : ∃ x, x = (words8 ⟨a, b, c, d, e, f, g, h⟩).getD i 0 := ⟨_, rfl⟩
            obtain ⟨y, ey⟩ : ∃ y, y = (words8 ⟨a2, b2, c2, d2, e2, f2, g2, h2⟩).getD i 0 := ⟨_, rfl⟩
            rw [← ex] at v1 lx
            rw [← ey] at v2 ly
            have EX := Lib.hid ex
            have EY := Lib.hid ey
            clear ex ey
            go_wp2_with fail
            go_still_tail 7, (by kernel_rfl)
            change wpList _ _ _ _ _ wr.drew
            go_wp2_with fail
            have HJ' := Lib.hid (HJ.out.step (x := ((x : Int) + (y : Int)) % 4294967296) (by rw [EX.out, EY.out]; omega))
            go_roundw
            case rel => exact ⟨i + 1, by omega, by go_num, HJ'.out⟩
            case measure => simp [intOf]; omega
          · have H8 := Lib.hid (show i = 8 by omega)
            have hJ := HJ.out
            rw [H8.out] at hJ
            have HP' := Lib.hid (HNEXT.out wr hJ.1 hJ.2.1 hJ.2.2.1)
            clear hJ HJ H8
            go_wp2_with fail
            go_roundw
            case rel => exact ⟨k + 1, by omega, congrArg (Value.int .i64) (by have := HAT.out; omega), HP'.out⟩
            case measure => simp [intOf]; omega
    · have HKN := Lib.hid (show k = n by omega)
      have hR := HP.out
      rw [HKN.out] at hR
      obtain ⟨hb0, hr1, hr2⟩ := hR
      have hrs := HRS.out
      rw [← hrs] at hr1
      have HLN := Lib.hid (show rs.length = 8 by rw [hrs]; rfl)
      have hone : (rs.all fun x => x.oneCell') = true := by rw [hrs]; exact u32s_one _
      have k1 := Lib.hid (hr1.loadAt (P := Tryd.prog) Tryd.underlying31 info8 HLN.out)
      have k2 := Lib.hid (hr2.storeAt (P := Tryd.prog) (ds := rs) info8 rfl HLN.out hone)
      have hr3 := hr2.put rs
      have HB' := Lib.hid (below_setRow hb0 (show w.heap.size ≤ w.heap.size + 1 by omega) rs.toArray)
      have t1 : ¬ ((64 * k : Nat) : Int) < (len : Int) := by have := HKN.out; have := HN.out; have := HLEN.out; omega
      obtain ⟨at0, hat⟩ : ∃ m, m = 64 * k := ⟨_, rfl⟩
      rw [← hat] at t1 ⊢
      clear hb0 hr1 hr2 hrs hone HKN hat
      go_wp2_with (first
        | (refine wpList_load (t := 31) (x := .tmp 2) rfl rfl (.pointer (some ⟨w.heap.size, 0, none⟩)) rfl k1.out ?_)
        | (refine wpList_store (t := 31) (x := .tmp 4) (y := .tmp 34) rfl rfl (.pointer (some ⟨w.heap.size + 1, 0, none⟩)) (.agg rs.toArray) rfl rfl k2.out ?_))
      exact bodyPost_ret (hr3.results Tryd.underlying31 info8 HLN.out Tryd.results10 _ rfl) rfl ⟨rfl, HB'.out⟩
end Go.Proofs.YtcccgcahmnmchaaDoor
