/-
  The plain mathematics of SHA-256, over the natural numbers.
-/
import Derived.Test.YtcccgcahmnmchaaDoorStrMath
namespace ShaM

def rotr (x n : Nat) : Nat := x / 2 ^ n + x % 2 ^ n * 2 ^ (32 - n)
def s0 (x : Nat) : Nat := rotr x 7 ^^^ rotr x 18 ^^^ x / 8
def s1 (x : Nat) : Nat := rotr x 17 ^^^ rotr x 19 ^^^ x / 1024
def e0 (x : Nat) : Nat := rotr x 2 ^^^ rotr x 13 ^^^ rotr x 22
def e1 (x : Nat) : Nat := rotr x 6 ^^^ rotr x 11 ^^^ rotr x 25
def ch (e f g : Nat) : Nat := (e &&& f) ^^^ ((4294967295 - e) &&& g)
def maj (a b c : Nat) : Nat := (a &&& b) ^^^ (a &&& c) ^^^ (b &&& c)

theorem xor_lt {x y : Nat} (hx : x < 4294967296) (hy : y < 4294967296) : x ^^^ y < 4294967296 := Nat.xor_lt_two_pow (n := 32) hx hy
theorem and_lt {x y : Nat} (hy : y < 4294967296) : x &&& y < 4294967296 := Nat.and_lt_two_pow (n := 32) x hy

theorem rotr_lt {x n : Nat} (hx : x < 4294967296) (hn : n ≤ 32) : rotr x n < 4294967296 := by
  have hpq : 2 ^ n * 2 ^ (32 - n) = 4294967296 := by rw [← Nat.pow_add, Nat.add_sub_cancel' hn]
  have hp : 0 < 2 ^ n := Nat.two_pow_pos n
  have hq : 0 < 2 ^ (32 - n) := Nat.two_pow_pos _
  unfold rotr
  generalize 2 ^ n = p at *
  generalize 2 ^ (32 - n) = q at *
  have h1 : x / p < q := Nat.div_lt_of_lt_mul (by rw [hpq]; exact hx)
  have h2 : x % p < p := Nat.mod_lt _ hp
  have h3 : (x % p + 1) * q ≤ p * q := Nat.mul_le_mul_right q h2
  rw [Nat.add_mul, Nat.one_mul] at h3
  omega
theorem s0_lt {x : Nat} (h : x < 4294967296) : s0 x < 4294967296 := xor_lt (xor_lt (rotr_lt h (by decide)) (rotr_lt h (by decide))) (by omega)
theorem s1_lt {x : Nat} (h : x < 4294967296) : s1 x < 4294967296 := xor_lt (xor_lt (rotr_lt h (by decide)) (rotr_lt h (by decide))) (by omega)
theorem e0_lt {x : Nat} (h : x < 4294967296) : e0 x < 4294967296 := xor_lt (xor_lt (rotr_lt h (by decide)) (rotr_lt h (by decide))) (rotr_lt h (by decide))
theorem e1_lt {x : Nat} (h : x < 4294967296) : e1 x < 4294967296 := xor_lt (xor_lt (rotr_lt h (by decide)) (rotr_lt h (by decide))) (rotr_lt h (by decide))
theorem ch_lt {e f g : Nat} (h1 : f < 4294967296) (h2 : g < 4294967296) : ch e f g < 4294967296 := xor_lt (and_lt h1) (and_lt h2)
theorem maj_lt {a b c : Nat} (h1 : b < 4294967296) (h2 : c < 4294967296) : maj a b c < 4294967296 := xor_lt (xor_lt (and_lt h1) (and_lt h2)) (and_lt h2)

/-- The word of four bytes, the most significant first. -/
def be4 (b : List UInt8) (i : Nat) : Nat := (((b.getD (4 * i) 0).toNat * 256 + (b.getD (4 * i + 1) 0).toNat) * 256 + (b.getD (4 * i + 2) 0).toNat) * 256 + (b.getD (4 * i + 3) 0).toNat
theorem be4_lt (b : List UInt8) (i : Nat) : be4 b i < 4294967296 := by
  unfold be4
  have h0 := (b.getD (4 * i) 0).toNat_lt
  have h1 := (b.getD (4 * i + 1) 0).toNat_lt
  have h2 := (b.getD (4 * i + 2) 0).toNat_lt
  have h3 := (b.getD (4 * i + 3) 0).toNat_lt
  omega

def nextW (b : List UInt8) (l : List Nat) (i : Nat) : Nat :=
  if i < 16 then be4 b i else (l.getD (i - 16) 0 + l.getD (i - 7) 0 + s0 (l.getD (i - 15) 0) + s1 (l.getD (i - 2) 0)) % 4294967296
theorem nextW_lt (b : List UInt8) (l : List Nat) (i : Nat) : nextW b l i < 4294967296 := by
  unfold nextW
  split
  · exact be4_lt b i
  · exact Nat.mod_lt _ (by decide)
/-- The first i numbers w of a block. -/
def sched (b : List UInt8) : Nat → List Nat
  | 0 => []
  | i + 1 => sched b i ++ [nextW b (sched b i) i]
theorem sched_len (b : List UInt8) (i : Nat) : (sched b i).length = i := by
  induction i with
  | zero => rfl
  | succ i ih => simp [sched, ih]
theorem sched_lt (b : List UInt8) (i : Nat) : ∀ x ∈ sched b i, x < 4294967296 := by
  induction i with
  | zero => intro x h; cases h
  | succ i ih =>
    intro x h
    rcases List.mem_append.1 h with h | h
    · exact ih x h
    · rw [List.mem_singleton.1 h]; exact nextW_lt _ _ _
theorem getD_lt {l : List Nat} (h : ∀ x ∈ l, x < 4294967296) (j : Nat) : l.getD j 0 < 4294967296 := by
  by_cases hj : j < l.length
  · rw [List.getD_eq_getElem?_getD, List.getElem?_eq_getElem hj]; exact h _ (List.getElem_mem hj)
  · rw [List.getD_eq_getElem?_getD, List.getElem?_eq_none (by omega)]; decide

structure S8 where
  a : Nat
  b : Nat
  c : Nat
  d : Nat
  e : Nat
  f : Nat
  g : Nat
  h : Nat
def words8 (s : S8) : List Nat := [s.a, s.b, s.c, s.d, s.e, s.f, s.g, s.h]
def S8.Ok (s : S8) : Prop := s.a < 4294967296 ∧ s.b < 4294967296 ∧ s.c < 4294967296 ∧ s.d < 4294967296 ∧ s.e < 4294967296 ∧ s.f < 4294967296 ∧ s.g < 4294967296 ∧ s.h < 4294967296
def tt (k w : Nat) (s : S8) : Nat := s.h + e1 s.e + ch s.e s.f s.g + k + w
def uu (s : S8) : Nat := e0 s.a + maj s.a s.b s.c
def step (k w : Nat) (s : S8) : S8 := ⟨(tt k w s + uu s) % 4294967296, s.a, s.b, s.c, (s.d + tt k w s) % 4294967296, s.e, s.f, s.g⟩
theorem step_ok {k w : Nat} {s : S8} (h : s.Ok) : (step k w s).Ok :=
  ⟨Nat.mod_lt _ (by decide), h.1, h.2.1, h.2.2.1, Nat.mod_lt _ (by decide), h.2.2.2.2.1, h.2.2.2.2.2.1, h.2.2.2.2.2.2.1⟩

def K : List Nat := [
  1116352408, 1899447441, 3049323471, 3921009573, 961987163, 1508970993, 2453635748, 2870763221,
  3624381080, 310598401, 607225278, 1426881987, 1925078388, 2162078206, 2614888103, 3248222580,
  3835390401, 4022224774, 264347078, 604807628, 770255983, 1249150122, 1555081692, 1996064986,
  2554220882, 2821834349, 2952996808, 3210313671, 3336571891, 3584528711, 113926993, 338241895,
  666307205, 773529912, 1294757372, 1396182291, 1695183700, 1986661051, 2177026350, 2456956037,
  2730485921, 2820302411, 3259730800, 3345764771, 3516065817, 3600352804, 4094571909, 275423344,
  430227734, 506948616, 659060556, 883997877, 958139571, 1322822218, 1537002063, 1747873779,
  1955562222, 2024104815, 2227730452, 2361852424, 2428436474, 2756734187, 3204031479, 3329325298]
def init : S8 := ⟨1779033703, 3144134277, 1013904242, 2773480762, 1359893119, 2600822924, 528734635, 1541459225⟩
theorem K_lt (i : Nat) : K.getD i 0 < 4294967296 := getD_lt (by decide +kernel) i
theorem init_ok : init.Ok := by unfold S8.Ok init; decide

def rounds (w : List Nat) : Nat → S8 → S8
  | 0, s => s
  | i + 1, s => step (K.getD i 0) (w.getD i 0) (rounds w i s)
theorem rounds_ok (w : List Nat) {s : S8} (h : s.Ok) (i : Nat) : (rounds w i s).Ok := by
  induction i with
  | zero => exact h
  | succ i ih => exact step_ok ih
def addS (s t : S8) : S8 := ⟨(t.a + s.a) % 4294967296, (t.b + s.b) % 4294967296, (t.c + s.c) % 4294967296, (t.d + s.d) % 4294967296, (t.e + s.e) % 4294967296, (t.f + s.f) % 4294967296, (t.g + s.g) % 4294967296, (t.h + s.h) % 4294967296⟩
theorem addS_ok (s t : S8) : (addS s t).Ok :=
  ⟨Nat.mod_lt _ (by decide), Nat.mod_lt _ (by decide), Nat.mod_lt _ (by decide), Nat.mod_lt _ (by decide), Nat.mod_lt _ (by decide), Nat.mod_lt _ (by decide), Nat.mod_lt _ (by decide), Nat.mod_lt _ (by decide)⟩
def block (s : S8) (b : List UInt8) : S8 := addS s (rounds (sched b 64) 64 s)
def cutB (l : List UInt8) (n : Nat) : List UInt8 := (l.drop (64 * n)).take 64
def blocks (l : List UInt8) : Nat → S8 → S8
  | 0, s => s
  | n + 1, s => block (blocks l n s) (cutB l n)
theorem blocks_ok (l : List UInt8) {s : S8} (h : s.Ok) (n : Nat) : (blocks l n s).Ok := by
  cases n with
  | zero => exact h
  | succ n => exact addS_ok _ _

theorem cutB_left {x y : List UInt8} {n k : Nat} (hx : x.length = 64 * n) (hk : k < n) : cutB (x ++ y) k = cutB x k := by
  unfold cutB
  rw [List.drop_append_of_le_length (by omega), List.take_append_of_le_length (by rw [List.length_drop]; omega)]
theorem cutB_right {x y : List UInt8} {n : Nat} (hx : x.length = 64 * n) (k : Nat) : cutB (x ++ y) (n + k) = cutB y k := by
  unfold cutB
  rw [show 64 * (n + k) = x.length + 64 * k by rw [hx, Nat.mul_add], ← List.drop_drop, List.drop_left]
theorem blocks_left {x y : List UInt8} {n : Nat} (hx : x.length = 64 * n) (s : S8) : ∀ k, k ≤ n → blocks (x ++ y) k s = blocks x k s
  | 0, _ => rfl
  | k + 1, hk => by
    show block (blocks (x ++ y) k s) (cutB (x ++ y) k) = block (blocks x k s) (cutB x k)
    rw [blocks_left hx s k (by omega), cutB_left hx (by omega)]
theorem blocks_add {x y : List UInt8} {n : Nat} (hx : x.length = 64 * n) (s : S8) : ∀ m, blocks (x ++ y) (n + m) s = blocks y m (blocks x n s)
  | 0 => blocks_left hx s n (Nat.le_refl _)
  | m + 1 => by
    show block (blocks (x ++ y) (n + m) s) (cutB (x ++ y) (n + m)) = block (blocks y m (blocks x n s)) (cutB y m)
    rw [blocks_add hx s m, cutB_right hx]

/-- The k-th byte from below. -/
def byteAt (n k : Nat) : UInt8 := UInt8.ofNat (n / 256 ^ k % 256)
theorem byteAt_toNat (n k : Nat) : (byteAt n k).toNat = n / 256 ^ k % 256 := by
  unfold byteAt
  rw [UInt8.toNat_ofNat']; omega
def bytes4 (n : Nat) : List UInt8 := [byteAt n 3, byteAt n 2, byteAt n 1, byteAt n 0]
def outL (s : S8) : List UInt8 := bytes4 s.a ++ (bytes4 s.b ++ (bytes4 s.c ++ (bytes4 s.d ++ (bytes4 s.e ++ (bytes4 s.f ++ (bytes4 s.g ++ bytes4 s.h))))))
theorem outL_len (s : S8) : (outL s).length = 32 := rfl
/-- The last k of the eight bytes of a number, the most significant first. -/
def be8 (n : Nat) : List UInt8 := [byteAt n 7, byteAt n 6, byteAt n 5, byteAt n 4, byteAt n 3, byteAt n 2, byteAt n 1, byteAt n 0]
def zeros (n : Nat) : Nat := (119 - n % 64) % 64
theorem zeros_fit (n : Nat) : (n + 1 + zeros n) % 64 = 56 := by unfold zeros; omega
theorem zeros_before {n k : Nat} (h : k < zeros n) : (n + 1 + k) % 64 ≠ 56 := by unfold zeros at h; omega
theorem zeros_lt (n : Nat) : zeros n < 64 := by unfold zeros; omega
def endL (rest : List UInt8) (size : Nat) : List UInt8 := rest ++ (128 :: (List.replicate (zeros rest.length) 0 ++ be8 (8 * size)))
theorem endL_len (rest : List UInt8) (size : Nat) : (endL rest size).length = rest.length + 1 + zeros rest.length + 8 := by
  simp [endL, be8]; omega
def padL (l : List UInt8) : List UInt8 := endL l l.length
def sumL (l : List UInt8) : List UInt8 := outL (blocks (padL l) ((padL l).length / 64) init)

theorem padL_split (l : List UInt8) : padL l = l.take (l.length - l.length % 64) ++ endL (l.drop (l.length - l.length % 64)) l.length := by
  unfold padL endL
  have e : zeros (l.drop (l.length - l.length % 64)).length = zeros l.length := by
    rw [List.length_drop]; unfold zeros
    have : l.length - (l.length - l.length % 64) = l.length % 64 := by omega
    rw [this]; omega
  rw [e, ← List.append_assoc, List.take_append_drop]

/-- The sum, as the whole blocks and then the rest are gone through. -/
theorem sumL_split (l : List UInt8) :
    sumL l = outL (blocks (endL (l.drop (l.length - l.length % 64)) l.length) ((endL (l.drop (l.length - l.length % 64)) l.length).length / 64) (blocks (l.take (l.length - l.length % 64)) (l.length / 64) init)) := by
  unfold sumL
  have hx : (l.take (l.length - l.length % 64)).length = 64 * (l.length / 64) := by rw [List.length_take]; omega
  rw [padL_split]
  have e : (l.take (l.length - l.length % 64) ++ endL (l.drop (l.length - l.length % 64)) l.length).length / 64 = l.length / 64 + (endL (l.drop (l.length - l.length % 64)) l.length).length / 64 := by
    rw [List.length_append, hx, Nat.mul_add_div (by decide)]
  rw [e, blocks_add hx]
theorem padL_mul (l : List UInt8) : (padL l).length % 64 = 0 := by
  unfold padL; rw [endL_len]; have := zeros_fit l.length; omega
theorem endL_mul (rest : List UInt8) (size : Nat) : (endL rest size).length % 64 = 0 := by
  rw [endL_len]; have := zeros_fit rest.length; omega
end ShaM
