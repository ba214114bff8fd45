/-
  The walk of file.Write.
-/
import Derived.Test.YtaklilhnikmmfaaGreatFileRight
import Derived.Test.YtaklilhnikmmfaaGreatFileCopies
namespace Go.Proofs.YtaklilhnikmmfaaGreat
open Go.RowKit StrM BlockM FileM

/-- What Write returns. -/
def wrF (f : Fl) (p : Int) (b : List UInt8) : Fl := if valid f then (if pErr p b.length = 0 then wrote f (pList p b) else zf) else zf
def wrE (f : Fl) (p : Int) (n : Nat) : Int := if valid f then pErr p n else 10
theorem wrF_no {f : Fl} (h : valid f = false) (p : Int) (b : List UInt8) : wrF f p b = zf := by simp [wrF, h]
theorem wrE_no {f : Fl} (h : valid f = false) (p : Int) (n : Nat) : wrE f p n = 10 := by simp [wrE, h]
theorem wrE_ok {f : Fl} (h : valid f = true) (p : Int) (n : Nat) : wrE f p n = pErr p n := by simp [wrE, h]
theorem wrF_err {f : Fl} (h : valid f = true) {p : Int} {b : List UInt8} (he : ¬ pErr p b.length = 0) : wrF f p b = zf := by simp [wrF, h, he]
theorem wrF_ok {f : Fl} (h : valid f = true) {p : Int} {b : List UInt8} (he : pErr p b.length = 0) : wrF f p b = wrote f (pList p b) := by simp [wrF, h, he]
theorem pErr_cases (p : Int) (n : Nat) : pErr p n = 1 ∨ pErr p n = 4 ∨ pErr p n = 0 := by
  unfold pErr
  split
  · exact .inl rfl
  · split
    · exact .inr (.inl rfl)
    · exact .inr (.inr rfl)
theorem pList_ok (p : Int) (b : List UInt8) : ∀ x ∈ pList p b, ok x = true := by
  unfold pList
  split
  · intro x hx; cases hx
  · split
    · intro x hx; cases hx
    · exact pieces_ok _ _ (by omega)
theorem pList_places (p : Int) (b : List UInt8) : ∀ x ∈ pList p b, x.p ≤ 9223372036854775807 := by
  intro x hx
  obtain ⟨n, h1, _, _, _, _, h6⟩ := ok_facts (pList_ok p b x hx)
  omega
theorem pList_len (p : Int) (b : List UInt8) : (pList p b).length ≤ b.length := by
  have := pieces_len p.toNat b
  unfold pList
  split
  · simp
  · split
    · simp
    · exact this

theorem Src.later {w w' : World} {u : Value} {lb : List PB} (h : Src w u lb) (hb : Below w.heap.size w w') : Src w' u lb := by
  obtain ⟨⟨A, cap, rfl, hc⟩, hB⟩ := h
  refine ⟨⟨A, cap, rfl, ?_⟩, fun x hx => (hB x hx).later hb⟩
  rcases hc with h | ⟨ad, rfl, hc⟩
  · exact .inl h
  · refine .inr ⟨ad, rfl, fun j c hj => ?_⟩
    have h := hc j c hj
    exact (hb.cell (p := ad.add j) (World.block_lt_of_cell? w _ h)).trans h
theorem own_slice2 {w : World} {base n : Nat} {e : TypeId} {v : Value} {xs : List Value} (h : w.ownsRow base e 2 v n xs) : ∃ A cap, v = .slice A n cap := by
  rcases h.2 with ⟨rfl, rfl⟩ | ⟨g, cap, cur, rfl, _⟩
  · exact ⟨none, 0, rfl⟩
  · exact ⟨_, cap, rfl⟩

/-- What a function returns that hands back a file and a number. -/
def NPost (f : Fl) (n : Int) (w : World) (e : Ending) (w' : World) : Prop := ∃ v, e = .returned (.tuple #[v, .int .i64 n]) ∧ SeesF w' v f ∧ Below w.heap.size w w'

theorem wr_done {w3 w4 w5 w6 : World} {v2 v3 v4 v5 v6 : Value} {N S : List UInt8} {la lb : List PB} {m : Nat} (h3 : SeesV w3 v3 (bys N)) (b34 : Below w3.heap.size w3 w4) (ho4 : w4.ownsRow w3.heap.size 5 1 v4 m (bys S)) (hP : PRel w4 v5 la w5) (hs4 : Src w4 v2 lb)
    (ho6 : w6.ownsRow w4.heap.size 113 2 v6 (la.length + lb.length) (pcs (la ++ lb))) (hb6 : Below w4.heap.size w5 w6) (hst : Stays w5 w6 v5) :
    SeesF w6 (.agg #[v3, v4, v6]) ⟨N, S, la.map Prod.fst ++ lb.map Prod.fst⟩ ∧ Below w4.heap.size w4 w6 := by
  have b46 : Below w4.heap.size w4 w6 := hP.2.2.trans hb6
  refine ⟨⟨v3, v4, v6, rfl, (h3.later b34).later b46, (SeesV.of_own ho4).later b46, ?_⟩, b46⟩
  rw [← List.map_append]
  refine sees_pcs ho6 (by rw [List.length_append]) fun x hx => ?_
  rcases List.mem_append.1 hx with hx | hx
  · have hx5 := hP.2.1 x hx
    exact SeesV.of_own (own_keep hx5 hst (own_diff (by decide) hP.1 hx5))
  · exact (hs4.2 x hx).later b46

end Go.Proofs.YtaklilhnikmmfaaGreat
