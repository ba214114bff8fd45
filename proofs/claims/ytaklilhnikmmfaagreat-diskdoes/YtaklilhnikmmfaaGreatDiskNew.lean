/-
  The walk of New; the methods of disks that New did not create.
-/
import Derived.Test.YtaklilhnikmmfaaGreatDiskReboot
import Derived.Test.YtaklilhnikmmfaaGreatJRow
namespace Go.Proofs.YtaklilhnikmmfaaGreat
open Go.RowKit StrM BlockM FileM DirM DiskM

def init (room : Int) : S := ⟨room, zd, [], 0, 0, 0, false⟩
theorem init_inv {room : Int} (h0 : 0 ≤ room) (h1 : room ≤ 1099511627776) : Inv 0 (init room) where
  dirs := DirM.valid_zd
  fine := by simp [init]
  few := Nat.le_refl _
  pend := Nat.le_refl _
  bits := by simp [init]
  nodes := by intro n h; simp [alive, init, zd] at h
  ops := by simp [init, zd]
  ops0 := Int.le_refl _
  opsI := Int.le_refl _
  room0 := h0
  room1 := h1
  trip0 := by show _ ≤ (0 : Int); omega
  trip1 := by show (0 : Int) ≤ _; omega
  stop0 := by show _ ≤ (0 : Int); omega
  stop1 := by show (0 : Int) ≤ _; omega

theorem new_held (room : Int) (w : World) : CD w.heap.size (w.heap.size + 1) 0 (init room) ((w.alloc (.map #[] 0)).alloc (.cells #[.int .i64 room, .slice none 0 0, .slice none 0 0, .slice none 0 0, .map (some w.heap.size), .int .i64 0, .int .i64 0, .int .i64 0, .int .i64 0, .bool false] 59)) := by
  have hb : Below w.heap.size w ((w.alloc (.map #[] 0)).alloc (.cells #[.int .i64 room, .slice none 0 0, .slice none 0 0, .slice none 0 0, .map (some w.heap.size), .int .i64 0, .int .i64 0, .int .i64 0, .int .i64 0, .bool false] 59)) := (below_made w _).alloc (below_made w _).size _
  refine ⟨⟨room, .slice none 0 0, .slice none 0 0, .slice none 0 0, w.heap.size, 0, 0, 0, 0, false⟩, 0, fun _ => none, { box := ?_, room := rfl, last := rfl, ops := rfl, trip := rfl, stop := rfl, down := rfl, dir := SeesD.zero _, map := ?_, few := Nat.zero_le _, some := ?_, file := ?_, baseP := Nat.le_succ _, baseM := Nat.le_refl _ }⟩
  · have := Blk.made (w.alloc (.map #[] 0)) #[.int .i64 room, .slice none 0 0, .slice none 0 0, .slice none 0 0, .map (some w.heap.size), .int .i64 0, .int .i64 0, .int .i64 0, .int .i64 0, .bool false] 59
    rw [show (w.alloc (.map #[] 0)).heap.size = w.heap.size + 1 by simp] at this
    exact this
  · exact (MapAt.made w).later (below_made _ _)
  · intro n h; simp [alive, init, zd] at h
  · intro n v h; cases h

set_option maxRecDepth 100000 in
theorem new_yes (room : Int) (w : World) (h0 : 0 ≤ room) (h1 : room ≤ 1099511627776) :
    Calls Tryz.prog 8 #[.int .i64 room] w fun e w' => e = .returned (.pointer (some ⟨w.heap.size + 1, 0, none⟩)) ∧ CD w.heap.size (w.heap.size + 1) 0 (init room) w' ∧ Below w.heap.size w w' := by
  have IS := Lib.hid (is_yes room w h0 h1)
  have NH := Lib.hid (new_held room w)
  have NB := Lib.hid (show Below w.heap.size w ((w.alloc (.map #[] 0)).alloc (.cells #[.int .i64 room, .slice none 0 0, .slice none 0 0, .slice none 0 0, .map (some w.heap.size), .int .i64 0, .int .i64 0, .int .i64 0, .int .i64 0, .bool false] 59)) from (below_made w _).alloc (below_made w _).size _)
  have hmm := @run_makeMap Tryz.prog
  clear h0 h1
  go_enter Tryz.func8, Tryz.ntmps8
  go_wp2_with fail
  refine IS.out.mono ?_
  rintro e w' ⟨rfl, rfl⟩
  clear IS
  go_wp2_with fail
  go_ret
  exact ⟨rfl, NH.out, NB.out⟩
theorem new_no (room : Int) (w : World) (h : room < 0 ∨ 1099511627776 < room) :
    Calls Tryz.prog 8 #[.int .i64 room] w fun e w' => e = .returned (.pointer none) ∧ w = w' := by
  have IS := Lib.hid (is_no room w h)
  clear h
  go_enter Tryz.func8, Tryz.ntmps8
  go_wp2_with fail
  refine IS.out.mono ?_
  rintro e w' ⟨rfl, rfl⟩
  clear IS
  go_wp2_with fail
  go_ret
  exact ⟨rfl, rfl⟩

/-- What each method of a disk that New did not create returns. -/
def DeadEnd (w : World) (e : Ending) (w' : World) : Prop := e = .returned (.int .i64 10) ∧ Below w.heap.size w w'

set_option maxRecDepth 100000 in
theorem create_dead (v : Value) (nm : ByteArray) (w : World) (h : Dead w v) : Calls Tryz.prog 23 #[v, .string nm] w (DeadEnd w) := by
  have B0 := Lib.hid (below_made w (.cells #[v] 25))
  have AD := Lib.hid (attempt_dead v _ (h.later B0.out))
  have hv : v.oneCell' = true := by rcases h with rfl | ⟨p, rfl, _⟩ <;> rfl
  obtain ⟨a, rfl⟩ : ∃ a, v = .pointer a := by rcases h with rfl | ⟨p, rfl, _⟩ <;> exact ⟨_, rfl⟩
  clear h hv
  go_enter Tryz.func23, Tryz.ntmps23
  go_wp2_with fail
  refine AD.out.mono ?_
  rintro e w' ⟨rfl, rfl⟩
  clear AD
  generalize World.alloc _ _ = w0 at *
  go_wp2_with fail
  go_ret
  exact ⟨rfl, B0.out⟩
set_option maxRecDepth 100000 in
theorem rename_dead (v : Value) (k n : Int) (a b : ByteArray) (w : World) (h : Dead w v) : Calls Tryz.prog 59 #[v, .agg #[.int .i64 k, .string a, .string b, .int .i64 n]] w (DeadEnd w) := by
  have B0 := Lib.hid (((Below.refl w.heap.size w).alloc (Nat.le_refl _) (.cells #[v] 25)).alloc (by simp) (.cells #[.int .i64 k, .string a, .string b, .int .i64 n] 65))
  have AD := Lib.hid (attempt_dead v _ (h.later B0.out))
  obtain ⟨q, rfl⟩ : ∃ a, v = .pointer a := by rcases h with rfl | ⟨p, rfl, _⟩ <;> exact ⟨_, rfl⟩
  clear h
  go_enter Tryz.func59, Tryz.ntmps59
  go_wp2_with fail
  refine AD.out.mono ?_
  rintro e w' ⟨rfl, rfl⟩
  clear AD
  generalize World.alloc _ _ = w0 at *
  go_wp2_with fail
  go_ret
  exact ⟨rfl, B0.out⟩
theorem move_dead (v : Value) (a b : ByteArray) (w : World) (h : Dead w v) : Calls Tryz.prog 29 #[v, .string a, .string b] w (DeadEnd w) := by
  have RD := Lib.hid (rename_dead v 2 0 a b w h)
  clear h
  go_enter Tryz.func29, Tryz.ntmps29
  go_wp2_with fail
  refine RD.out.mono ?_
  rintro e w' ⟨rfl, hb⟩
  have HB := Lib.hid hb
  clear RD hb
  go_wp2_with fail
  go_ret
  exact ⟨rfl, HB.out⟩
theorem remove_dead (v : Value) (a : ByteArray) (w : World) (h : Dead w v) : Calls Tryz.prog 30 #[v, .string a] w (DeadEnd w) := by
  have RD := Lib.hid (rename_dead v 3 0 a ⟨#[]⟩ w h)
  clear h
  go_enter Tryz.func30, Tryz.ntmps30
  go_wp2_with fail
  refine RD.out.mono ?_
  rintro e w' ⟨rfl, hb⟩
  have HB := Lib.hid hb
  clear RD hb
  go_wp2_with fail
  go_ret
  exact ⟨rfl, HB.out⟩
set_option maxRecDepth 100000 in
theorem syncdir_dead (v : Value) (w : World) (h : Dead w v) : Calls Tryz.prog 26 #[v] w (DeadEnd w) := by
  have B0 := Lib.hid (below_made w (.cells #[v] 25))
  have AD := Lib.hid (attempt_dead v _ (h.later B0.out))
  obtain ⟨a, rfl⟩ : ∃ a, v = .pointer a := by rcases h with rfl | ⟨p, rfl, _⟩ <;> exact ⟨_, rfl⟩
  clear h
  go_enter Tryz.func26, Tryz.ntmps26
  go_wp2_with fail
  refine AD.out.mono ?_
  rintro e w' ⟨rfl, rfl⟩
  clear AD
  generalize World.alloc _ _ = w0 at *
  go_wp2_with fail
  go_ret
  exact ⟨rfl, B0.out⟩
set_option maxRecDepth 100000 in
theorem alter_dead (v : Value) (nm : ByteArray) (f : Nat) (cs : Array Value) (w : World) (h : Dead w v) : Calls Tryz.prog 51 #[v, .string nm, .func (.func f) #[] cs] w (DeadEnd w) := by
  have B0 := Lib.hid (below_made w (.cells #[v] 25))
  have AD := Lib.hid (attempt_dead v _ (h.later B0.out))
  obtain ⟨a, rfl⟩ : ∃ a, v = .pointer a := by rcases h with rfl | ⟨p, rfl, _⟩ <;> exact ⟨_, rfl⟩
  clear h
  go_enter Tryz.func51, Tryz.ntmps51
  go_wp2_with fail
  refine AD.out.mono ?_
  rintro e w' ⟨rfl, rfl⟩
  clear AD
  generalize World.alloc _ _ = w0 at *
  go_wp2_with fail
  go_ret
  exact ⟨rfl, B0.out⟩
theorem sync_dead (v : Value) (nm : ByteArray) (w : World) (h : Dead w v) : Calls Tryz.prog 25 #[v, .string nm] w (DeadEnd w) := by
  have RD := Lib.hid (alter_dead v nm 55 #[] w h)
  clear h
  go_enter Tryz.func25, Tryz.ntmps25
  go_wp2_with fail
  refine RD.out.mono ?_
  rintro e w' ⟨rfl, hb⟩
  have HB := Lib.hid hb
  clear RD hb
  go_wp2_with fail
  go_ret
  exact ⟨rfl, HB.out⟩
set_option maxRecDepth 100000 in
theorem write_dead (v : Value) (nm : ByteArray) (q : Int) (A : Option Addr) (lb cb : Nat) (w : World) (h : Dead w v) : Calls Tryz.prog 24 #[v, .string nm, .int .i64 q, .slice A lb cb] w (DeadEnd w) := by
  have B0 := Lib.hid ((((Below.refl w.heap.size w).alloc (Nat.le_refl _) (.cells #[v] 25)).alloc (by simp) (.cells #[.int .i64 q] 3)).alloc (by simp; omega) (.cells #[.slice A lb cb] 38))
  have AD := Lib.hid (fun cs => alter_dead v nm 52 cs _ (h.later B0.out))
  obtain ⟨a, rfl⟩ : ∃ a, v = .pointer a := by rcases h with rfl | ⟨p, rfl, _⟩ <;> exact ⟨_, rfl⟩
  clear h
  go_enter Tryz.func24, Tryz.ntmps24
  go_wp2_with fail
  generalize World.alloc (World.alloc _ _) _ = w0 at *
  refine (AD.out _).mono ?_
  rintro e w' ⟨rfl, hb⟩
  have HB := Lib.hid (B0.out.trans (hb.mono B0.out.size))
  clear AD hb
  go_wp2_with fail
  go_ret
  exact ⟨rfl, HB.out⟩
theorem reboot_dead (v bv : Value) (q : Int) (w : World) (h : Dead w v) : Calls Tryz.prog 22 #[v, bv, .int .i64 q] w fun e w' => e = .returned (.tuple #[]) ∧ w = w' := by
  have VD := Lib.hid (valid_dead v w h)
  clear h
  go_enter Tryz.func22, Tryz.ntmps22
  go_wp2_with fail
  refine VD.out.mono ?_
  rintro e w' ⟨rfl, rfl⟩
  clear VD
  go_wp2_with fail
  (try simp only [Exit.inBlock, Exit.then])
  exact bodyPost_ret (results_none rfl _ _ _) rfl ⟨rfl, rfl⟩
end Go.Proofs.YtaklilhnikmmfaaGreat
