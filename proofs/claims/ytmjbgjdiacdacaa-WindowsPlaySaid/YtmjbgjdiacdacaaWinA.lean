/-
  Contracts of package windows (layer 4): none, Last, Done, Sent, Limit, Offer, Free. Conditions: a window in memory that New made.
-/
import Derived.Test.YtmjbgjdiacdacaaProg
import Derived.Test.YtmjbgjdiacdacaaBlk
namespace Go.Proofs.Ytmjbgjdiacdacaa.Win
open Go.RowKit Go.Proofs.Ytmjbgjdiacdacaa.Mem

/-- A capacity and four indices. -/
structure V where
  c : Int
  l : Int
  d : Int
  s : Int
  m : Int
structure V.Ok (v : V) : Prop where
  c1 : 1 ≤ v.c
  c2 : v.c ≤ 16
  d0 : 0 ≤ v.d
  dl : v.d ≤ v.l
  l1 : v.l ≤ 4096
  s0 : 0 ≤ v.s
  s1 : v.s ≤ v.l
  m0 : 0 ≤ v.m
  m1 : v.m ≤ 4112
def nI (n : Int) : Value := .int .i64 n
def V.cells (v : V) : List Value := [nI v.c, nI v.l, nI v.d, nI v.s, nI v.m]
/-- In the block p, of the type T, lies the window v. -/
structure WAt (T : TypeId) (w : World) (p : Nat) (v : V) : Prop where
  blk : Blk w p T v.cells
  ok : v.Ok
theorem WAt.below {T : TypeId} {w w' : World} {p : Nat} {v : V} (h : WAt T w p v) {B : Nat} (hb : Below B w w') (hB : p < B) : WAt T w' p v := ⟨h.blk.below hb hB, h.ok⟩
theorem WAt.lt {T : TypeId} {w : World} {p : Nat} {v : V} (h : WAt T w p v) : p < w.heap.size := h.blk.lt
theorem WAt.drewN {T : TypeId} {w : World} {p : Nat} {v : V} (h : WAt T w p v) (n : Nat) : WAt T (w.drewN n) p v := ⟨h.blk.drewN n, h.ok⟩
theorem WAt.keep {T : TypeId} {S : List Nat} {w w' : World} {p : Nat} {v : V} (h : WAt T w p v) (t : Turned S w w') (hn : p ∉ S) : WAt T w' p v := ⟨t.blk h.blk hn, h.ok⟩

/-- How many more are taken. -/
def V.free (v : V) : Int := max (min (v.d + v.c) 4096 - v.l) 0
abbrev TW : TypeId := 45

section
variable (w : World) (p : Nat) (v : V) (h : WAt TW w p v)
include h
theorem none_at : Calls Try.prog 29 #[.pointer (some ⟨p, 0, none⟩)] w fun e w' => e = .returned (.bool false) ∧ w' = w := by
  have c0 : w.cell? ⟨p, 0, none⟩ = some (.int .i64 v.c) := h.blk.cell 0
  have hz : (v.c == 0) = false := beq_eq_false_iff_ne.2 (by have := h.ok.c1; omega)
  clear h
  go_enter Try.func29, Try.ntmps29
  go_wp2
  go_ret
  exact ⟨rfl, rfl⟩
theorem last_at : Calls Try.prog 23 #[.pointer (some ⟨p, 0, none⟩)] w fun e w' => e = .returned (.int .i64 v.l) ∧ w' = w := by
  have c0 : w.cell? ⟨p, 1, none⟩ = some (.int .i64 v.l) := h.blk.cell 1
  go_enter Try.func23, Try.ntmps23
  go_wp2_with (go_at_call 29; refine (none_at _ p v h).mono ?_; rintro e w2 ⟨rfl, rfl⟩)
  go_ret
  exact ⟨rfl, rfl⟩
theorem done_at : Calls Try.prog 24 #[.pointer (some ⟨p, 0, none⟩)] w fun e w' => e = .returned (.int .i64 v.d) ∧ w' = w := by
  have c0 : w.cell? ⟨p, 2, none⟩ = some (.int .i64 v.d) := h.blk.cell 2
  go_enter Try.func24, Try.ntmps24
  go_wp2_with (go_at_call 29; refine (none_at _ p v h).mono ?_; rintro e w2 ⟨rfl, rfl⟩)
  go_ret
  exact ⟨rfl, rfl⟩
theorem sent_at : Calls Try.prog 25 #[.pointer (some ⟨p, 0, none⟩)] w fun e w' => e = .returned (.int .i64 v.s) ∧ w' = w := by
  have c0 : w.cell? ⟨p, 3, none⟩ = some (.int .i64 v.s) := h.blk.cell 3
  go_enter Try.func25, Try.ntmps25
  go_wp2_with (go_at_call 29; refine (none_at _ p v h).mono ?_; rintro e w2 ⟨rfl, rfl⟩)
  go_ret
  exact ⟨rfl, rfl⟩
theorem limit_at : Calls Try.prog 26 #[.pointer (some ⟨p, 0, none⟩)] w fun e w' => e = .returned (.int .i64 v.m) ∧ w' = w := by
  have c0 : w.cell? ⟨p, 4, none⟩ = some (.int .i64 v.m) := h.blk.cell 4
  go_enter Try.func26, Try.ntmps26
  go_wp2_with (go_at_call 29; refine (none_at _ p v h).mono ?_; rintro e w2 ⟨rfl, rfl⟩)
  go_ret
  exact ⟨rfl, rfl⟩
theorem offer_at : Calls Try.prog 27 #[.pointer (some ⟨p, 0, none⟩)] w fun e w' => e = .returned (.int .i64 (v.d + v.c)) ∧ ∃ k, w' = w.drewN k := by
  have c0 : w.cell? ⟨p, 2, none⟩ = some (.int .i64 v.d) := h.blk.cell 2
  have c1 : w.cell? ⟨p, 0, none⟩ = some (.int .i64 v.c) := h.blk.cell 0
  have g1 := h.ok.c1
  have g2 := h.ok.c2
  have g3 := h.ok.d0
  have g4 := h.ok.dl
  have g5 := h.ok.l1
  go_enter Try.func27, Try.ntmps27
  go_wp2_with (go_at_call 29; refine (none_at _ p v h).mono ?_; rintro e w2 ⟨rfl, rfl⟩)
  go_quiet (fail)
  go_wp2
  go_ret
  exact ⟨ret_int (by simp), _, rfl⟩
end
theorem free_at (w : World) (p : Nat) (v : V) (h : WAt TW w p v) : Calls Try.prog 28 #[.pointer (some ⟨p, 0, none⟩)] w fun e w' => e = .returned (.int .i64 v.free) ∧ ∃ k, w' = w.drewN k := by
  have g1 := h.ok.c1
  have g2 := h.ok.c2
  have g3 := h.ok.d0
  have g4 := h.ok.dl
  have g5 := h.ok.l1
  go_enter Try.func28, Try.ntmps28
  go_wp2_with (first
    | (go_at_call 27; refine (offer_at _ p v h).mono ?_; rintro e w2 ⟨rfl, k, rfl⟩)
    | (go_at_call 23; refine (last_at _ p v (h.drewN _)).mono ?_; rintro e w2 ⟨rfl, rfl⟩))
  all_goals (go_ret; exact ⟨ret_int (by unfold V.free; omega), _, rfl⟩)
end Go.Proofs.Ytmjbgjdiacdacaa.Win
