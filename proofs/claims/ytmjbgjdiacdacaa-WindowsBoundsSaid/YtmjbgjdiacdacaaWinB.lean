/-
  Contracts of package windows (layer 4): Push, Ack, Grant, Next, Back, Renew, Copy, New. Conditions: a window in memory that New made.
-/
import Derived.Test.YtmjbgjdiacdacaaWinA
namespace Go.Proofs.Ytmjbgjdiacdacaa.Win
open Go.RowKit Go.Proofs.Ytmjbgjdiacdacaa.Mem

def V.push (v : V) : V := if 0 < v.free then { v with l := v.l + 1 } else v
def V.ack (v : V) (i : Int) : V := if v.d < i ∧ i ≤ v.l then { v with d := i } else v
def V.grant (v : V) (n : Int) : V := { v with m := max v.m (min n 4112) }
def V.next (v : V) : V := if v.s < v.l ∧ v.s < v.m then { v with s := v.s + 1 } else v
def V.back (v : V) (n : Int) : V := { v with s := min (max n 0) v.l }
def V.renew (v : V) : V := { v with s := v.l, m := 0 }
def V.pushes (v : V) : Bool := decide (0 < v.free)
def V.acks (v : V) (i : Int) : Bool := decide (v.d < i ∧ i ≤ v.l)
def V.nexts (v : V) : Bool := decide (v.s < v.l ∧ v.s < v.m)
def V.nextN (v : V) : Int := if v.s < v.l ∧ v.s < v.m then v.s + 1 else 0
theorem V.ok_push {v : V} (h : v.Ok) : v.push.Ok := by
  obtain ⟨a, b, c, d, e, f, g, i, j⟩ := h
  unfold V.push V.free
  split
  · exact ⟨a, b, c, by simp; omega, by simp; omega, f, by simp; omega, i, j⟩
  · exact ⟨a, b, c, d, e, f, g, i, j⟩
theorem V.ok_ack {v : V} (h : v.Ok) (n : Int) : (v.ack n).Ok := by
  obtain ⟨a, b, c, d, e, f, g, i, j⟩ := h
  unfold V.ack
  split
  · exact ⟨a, b, by simp; omega, by simp; omega, e, f, g, i, j⟩
  · exact ⟨a, b, c, d, e, f, g, i, j⟩
theorem V.ok_grant {v : V} (h : v.Ok) (n : Int) : (v.grant n).Ok := by
  obtain ⟨a, b, c, d, e, f, g, i, j⟩ := h
  exact ⟨a, b, c, d, e, f, g, by simp [V.grant]; omega, by simp [V.grant]; omega⟩
theorem V.ok_next {v : V} (h : v.Ok) : v.next.Ok := by
  obtain ⟨a, b, c, d, e, f, g, i, j⟩ := h
  unfold V.next
  split
  · exact ⟨a, b, c, d, e, by simp; omega, by simp; omega, i, j⟩
  · exact ⟨a, b, c, d, e, f, g, i, j⟩
theorem V.ok_back {v : V} (h : v.Ok) (n : Int) : (v.back n).Ok := by
  obtain ⟨a, b, c, d, e, f, g, i, j⟩ := h
  exact ⟨a, b, c, d, e, by simp [V.back]; omega, by simp [V.back]; omega, i, j⟩
theorem V.ok_renew {v : V} (h : v.Ok) : v.renew.Ok := by
  obtain ⟨a, b, c, d, e, f, g, i, j⟩ := h
  exact ⟨a, b, c, d, e, by simp [V.renew]; omega, by simp [V.renew], by simp [V.renew], by simp [V.renew]⟩

/-- What a call answers that turns a window: this, the window being v' behind it. -/
def MutP (T : TypeId) (p : Nat) (w : World) (a : Value) (v' : V) (e : Ending) (w' : World) : Prop := e = .returned a ∧ WAt T w' p v' ∧ Turned [p] w w'
theorem turned_refl (S : List Nat) (w : World) : Turned S w w := ⟨rfl, rfl, rfl, Nat.le_refl _, fun _ _ _ => rfl⟩
theorem turned_drewN {S : List Nat} {w w' : World} (h : Turned S w w') (n : Nat) : Turned S w (w'.drewN n) := ⟨h.os, h.tape, h.output, h.size, h.block⟩
theorem turned_setCell {S : List Nat} {w w' : World} (h : Turned S w w') {p : Nat} (hp : p ∈ S) (i : Nat) (u : Value) : Turned S w (w'.setCell ⟨p, i, none⟩ u) :=
  ⟨h.os, h.tape, h.output, by simpa [World.setCell] using h.size, fun k hk hn => (Below.heap_setCell w' _ u k (fun e => hn (by subst e; exact hp))).trans (h.block k hk hn)⟩
theorem WAt.set {T : TypeId} {w : World} {p : Nat} {v v' : V} (h : Blk w p T v.cells) (i : Nat) (u : Value) (e : v.cells.set i u = v'.cells) (ok : v'.Ok) : WAt T (w.setCell ⟨p, i, none⟩ u) p v' :=
  ⟨e ▸ h.set i u, ok⟩

section
variable (w : World) (p : Nat) (v : V) (h : WAt TW w p v)
include h
theorem push_at : Calls Try.prog 20 #[.pointer (some ⟨p, 0, none⟩)] w (MutP TW p w (.bool v.pushes) v.push) := by
  have c0 : w.cell? ⟨p, 1, none⟩ = some (.int .i64 v.l) := h.blk.cell 1
  have f0 := h.blk.free 1
  have g4 := h.ok.dl
  have g3 := h.ok.d0
  have g5 := h.ok.l1
  have gf : 0 ≤ v.free := by unfold V.free; omega
  have H := Lib.hid h
  have F := Lib.hid (free_at w p v h)
  clear h
  by_cases hz : v.free = 0
  · go_enter Try.func20, Try.ntmps20
    go_wp2_with (go_at_call 28; refine F.out.mono ?_; rintro e w2 ⟨rfl, k, rfl⟩)
    go_ret
    exact ⟨ret_bool (decide_eq_false (by omega)).symm, by rw [show v.push = v from if_neg (by omega)]; exact H.out.drewN k, turned_drewN (turned_refl _ _) _⟩
  · have hz' : (v.free == 0) = false := beq_eq_false_iff_ne.2 hz
    go_enter Try.func20, Try.ntmps20
    go_wp2_with (go_at_call 28; refine F.out.mono ?_; rintro e w2 ⟨rfl, k, rfl⟩)
    go_ret
    have hp : v.push = { v with l := v.l + 1 } := if_pos (by omega)
    exact ⟨ret_bool (decide_eq_true (by omega)).symm, WAt.set (H.out.blk.drewN k) 1 _ (by rw [hp]; rfl) (V.ok_push H.out.ok), turned_setCell (turned_drewN (turned_refl _ _) _) (by simp) _ _⟩
theorem ack_at (i : Int) : Calls Try.prog 9 #[.pointer (some ⟨p, 0, none⟩), .int .i64 i] w (MutP TW p w (.bool (v.acks i)) (v.ack i)) := by
  have c0 : w.cell? ⟨p, 1, none⟩ = some (.int .i64 v.l) := h.blk.cell 1
  have c1 : w.cell? ⟨p, 2, none⟩ = some (.int .i64 v.d) := h.blk.cell 2
  have f0 := h.blk.free 2
  have H := Lib.hid h
  have F := Lib.hid (none_at w p v h)
  clear h
  go_enter Try.func9, Try.ntmps9
  go_wp2_with (go_at_call 29; refine F.out.mono ?_; rintro e w2 ⟨rfl, rfl⟩)
  all_goals go_ret
  all_goals first
    | (exact ⟨ret_bool (decide_eq_false (by omega)).symm, by rw [show v.ack i = v from if_neg (by omega)]; exact H.out, turned_refl _ _⟩)
    | (have hp : v.ack i = { v with d := i } := if_pos (by omega)
       exact ⟨ret_bool (decide_eq_true (by omega)).symm, WAt.set H.out.blk 2 _ (by rw [hp]; rfl) (V.ok_ack H.out.ok i), turned_setCell (turned_refl _ _) (by simp) _ _⟩)
theorem grant_at (n : Int) : Calls Try.prog 11 #[.pointer (some ⟨p, 0, none⟩), .int .i64 n] w (MutP TW p w (.tuple #[]) (v.grant n)) := by
  have c0 : w.cell? ⟨p, 4, none⟩ = some (.int .i64 v.m) := h.blk.cell 4
  have f0 := h.blk.free 4
  have H := Lib.hid h
  have F := Lib.hid (none_at w p v h)
  clear h
  go_enter Try.func11, Try.ntmps11
  go_wp2_with (go_at_call 29; refine F.out.mono ?_; rintro e w2 ⟨rfl, rfl⟩)
  all_goals refine bodyPost_ret (results_none rfl _ _ _) rfl ?_
  all_goals exact ⟨rfl, WAt.set H.out.blk 4 _ (by simp [V.cells, V.grant, nI]; omega) (V.ok_grant H.out.ok n), turned_setCell (turned_refl _ _) (by simp) _ _⟩
theorem back_at (n : Int) : Calls Try.prog 15 #[.pointer (some ⟨p, 0, none⟩), .int .i64 n] w (MutP TW p w (.tuple #[]) (v.back n)) := by
  have c0 : w.cell? ⟨p, 1, none⟩ = some (.int .i64 v.l) := h.blk.cell 1
  have f0 := h.blk.free 3
  have c3 : w.cell? ⟨p, 3, none⟩ = some (.int .i64 v.s) := h.blk.cell 3
  have H := Lib.hid h
  have F := Lib.hid (none_at w p v h)
  clear h
  go_enter Try.func15, Try.ntmps15
  go_wp2_with (go_at_call 29; refine F.out.mono ?_; rintro e w2 ⟨rfl, rfl⟩)
  all_goals refine bodyPost_ret (results_none rfl _ _ _) rfl ?_
  all_goals exact ⟨rfl, WAt.set H.out.blk 3 _ (by simp [V.cells, V.back, nI]; omega) (V.ok_back H.out.ok n), turned_setCell (turned_refl _ _) (by simp) _ _⟩
theorem renew_at : Calls Try.prog 17 #[.pointer (some ⟨p, 0, none⟩)] w (MutP TW p w (.tuple #[]) v.renew) := by
  have c0 : w.cell? ⟨p, 1, none⟩ = some (.int .i64 v.l) := h.blk.cell 1
  have f0 := h.blk.free 3
  have f1 := h.blk.free 4
  have c3 : w.cell? ⟨p, 3, none⟩ = some (.int .i64 v.s) := h.blk.cell 3
  have c1 : w.cell? ⟨p, 4, none⟩ = some (.int .i64 v.m) := h.blk.cell 4
  have H := Lib.hid h
  have F := Lib.hid (none_at w p v h)
  clear h
  go_enter Try.func17, Try.ntmps17
  go_wp2_with (go_at_call 29; refine F.out.mono ?_; rintro e w2 ⟨rfl, rfl⟩)
  refine bodyPost_ret (results_none rfl _ _ _) rfl ?_
  exact ⟨rfl, WAt.set (v := { v with s := v.l }) (H.out.blk.set 3 (.int .i64 v.l)) 4 _ rfl (V.ok_renew H.out.ok), turned_setCell (turned_setCell (turned_refl _ _) (by simp) _ _) (by simp) _ _⟩
theorem next_at : Calls Try.prog 13 #[.pointer (some ⟨p, 0, none⟩)] w
    (MutP TW p w (.tuple #[.int .i64 v.nextN, .bool v.nexts]) v.next) := by
  have c0 : w.cell? ⟨p, 1, none⟩ = some (.int .i64 v.l) := h.blk.cell 1
  have c1 : w.cell? ⟨p, 3, none⟩ = some (.int .i64 v.s) := h.blk.cell 3
  have c2 : w.cell? ⟨p, 4, none⟩ = some (.int .i64 v.m) := h.blk.cell 4
  have f0 := h.blk.free 3
  have g1 := h.ok.s0
  have g2 := h.ok.s1
  have g3 := h.ok.l1
  have H := Lib.hid h
  have F := fun k => none_at (w.drewN k) p v (h.drewN k)
  replace F := Lib.hid F
  clear h
  by_cases ha : v.l ≤ v.s
  · have ha' : decide (v.l ≤ v.s) = true := decide_eq_true ha
    go_enter Try.func13, Try.ntmps13
    go_wp2_with fail
    go_quiet ((go_at_call 29; exact Calls.quiet_of_same (F.out _)))
    go_wp2
    go_ret2
    rw [show v.nextN = 0 from if_neg (by omega), show v.nexts = false from decide_eq_false (by omega), show v.next = v from if_neg (by omega)]
    exact ⟨rfl, H.out.drewN _, turned_drewN (turned_refl _ _) _⟩
  · have ha' : decide (v.l ≤ v.s) = false := decide_eq_false ha
    by_cases hb : v.m ≤ v.s
    · have hb' : decide (v.m ≤ v.s) = true := decide_eq_true hb
      go_enter Try.func13, Try.ntmps13
      go_wp2_with fail
      go_quiet ((go_at_call 29; exact Calls.quiet_of_same (F.out _)))
      go_wp2
      go_ret2
      rw [show v.nextN = 0 from if_neg (by omega), show v.nexts = false from decide_eq_false (by omega), show v.next = v from if_neg (by omega)]
      exact ⟨rfl, H.out.drewN _, turned_drewN (turned_refl _ _) _⟩
    · have hb' : decide (v.m ≤ v.s) = false := decide_eq_false hb
      go_enter Try.func13, Try.ntmps13
      go_wp2_with fail
      go_quiet ((go_at_call 29; exact Calls.quiet_of_same (F.out _)))
      go_wp2
      go_ret2
      have hp : v.next = { v with s := v.s + 1 } := if_pos (by omega)
      rw [show v.nextN = v.s + 1 from if_pos (by omega), show v.nexts = true from decide_eq_true (by omega)]
      exact ⟨rfl, WAt.set (H.out.blk.drewN _) 3 _ (by rw [hp]; rfl) (V.ok_next H.out.ok), turned_setCell (turned_drewN (turned_refl _ _) _) (by simp) _ _⟩
end
end Go.Proofs.Ytmjbgjdiacdacaa.Win
