/-
  Contracts of package windows (layer 4): windows that are none. Conditions: a nil window, or one whose capacity is 0.
-/
import Derived.Test.YtmjbgjdiacdacaaWinC
namespace Go.Proofs.Ytmjbgjdiacdacaa.Win
open Go.RowKit Go.Proofs.Ytmjbgjdiacdacaa.Mem

/-- A window that is nil, or has no capacity. -/
def NoW (w : World) (v : Value) : Prop := v = .pointer none ∨ ∃ p, v = .pointer (some ⟨p, 0, none⟩) ∧ w.cell? ⟨p, 0, none⟩ = some (.int .i64 0)
theorem NoW.drewN {w : World} {v : Value} (h : NoW w v) (n : Nat) : NoW (w.drewN n) v := h
section
variable (w : World) (v : Value) (h : NoW w v)
include h
theorem none_no : Calls Try.prog 29 #[v] w fun e w' => e = .returned (.bool true) ∧ w' = w := by
  rcases h with rfl | ⟨p, rfl, h⟩
  · go_enter Try.func29, Try.ntmps29
    go_wp2
    go_ret
    exact ⟨rfl, rfl⟩
  · go_enter Try.func29, Try.ntmps29
    go_wp2
    go_ret
    exact ⟨rfl, rfl⟩
theorem last_no : Calls Try.prog 23 #[v] w fun e w' => e = .returned (.int .i64 0) ∧ w' = w := by
  have N := Lib.hid (none_no w v h)
  clear h
  go_enter Try.func23, Try.ntmps23
  go_wp2_with (go_at_call 29; refine N.out.mono ?_; rintro e w2 ⟨rfl, rfl⟩)
  go_ret
  exact ⟨rfl, rfl⟩
theorem done_no : Calls Try.prog 24 #[v] w fun e w' => e = .returned (.int .i64 0) ∧ w' = w := by
  have N := Lib.hid (none_no w v h)
  clear h
  go_enter Try.func24, Try.ntmps24
  go_wp2_with (go_at_call 29; refine N.out.mono ?_; rintro e w2 ⟨rfl, rfl⟩)
  go_ret
  exact ⟨rfl, rfl⟩
theorem sent_no : Calls Try.prog 25 #[v] w fun e w' => e = .returned (.int .i64 0) ∧ w' = w := by
  have N := Lib.hid (none_no w v h)
  clear h
  go_enter Try.func25, Try.ntmps25
  go_wp2_with (go_at_call 29; refine N.out.mono ?_; rintro e w2 ⟨rfl, rfl⟩)
  go_ret
  exact ⟨rfl, rfl⟩
theorem limit_no : Calls Try.prog 26 #[v] w fun e w' => e = .returned (.int .i64 0) ∧ w' = w := by
  have N := Lib.hid (none_no w v h)
  clear h
  go_enter Try.func26, Try.ntmps26
  go_wp2_with (go_at_call 29; refine N.out.mono ?_; rintro e w2 ⟨rfl, rfl⟩)
  go_ret
  exact ⟨rfl, rfl⟩
theorem offer_no : Calls Try.prog 27 #[v] w fun e w' => e = .returned (.int .i64 0) ∧ w' = w := by
  have N := Lib.hid (none_no w v h)
  clear h
  go_enter Try.func27, Try.ntmps27
  go_wp2_with (go_at_call 29; refine N.out.mono ?_; rintro e w2 ⟨rfl, rfl⟩)
  go_ret
  exact ⟨rfl, rfl⟩
theorem free_no : Calls Try.prog 28 #[v] w fun e w' => e = .returned (.int .i64 0) ∧ w' = w := by
  have N := Lib.hid (offer_no w v h)
  have M := Lib.hid (last_no w v h)
  clear h
  go_enter Try.func28, Try.ntmps28
  go_wp2_with (first
    | (go_at_call 27; refine N.out.mono ?_; rintro e w2 ⟨rfl, rfl⟩)
    | (go_at_call 23; refine M.out.mono ?_; rintro e w2 ⟨rfl, rfl⟩))
  go_ret
  exact ⟨rfl, rfl⟩
theorem push_no : Calls Try.prog 20 #[v] w fun e w' => e = .returned (.bool false) ∧ w' = w := by
  have N := Lib.hid (free_no w v h)
  clear h
  go_enter Try.func20, Try.ntmps20
  go_wp2_with (go_at_call 28; refine N.out.mono ?_; rintro e w2 ⟨rfl, rfl⟩)
  go_ret
  exact ⟨rfl, rfl⟩
theorem copy_no : Calls Try.prog 19 #[v] w fun e w' => e = .returned (.pointer none) ∧ w' = w := by
  have N := Lib.hid (none_no w v h)
  clear h
  go_enter Try.func19, Try.ntmps19
  go_wp2_with (go_at_call 29; refine N.out.mono ?_; rintro e w2 ⟨rfl, rfl⟩)
  go_ret
  exact ⟨rfl, rfl⟩
theorem ack_no (i : Int) : Calls Try.prog 9 #[v, .int .i64 i] w fun e w' => e = .returned (.bool false) ∧ w' = w := by
  have N := Lib.hid (none_no w v h)
  clear h
  go_enter Try.func9, Try.ntmps9
  go_wp2_with (go_at_call 29; refine N.out.mono ?_; rintro e w2 ⟨rfl, rfl⟩)
  go_ret
  exact ⟨rfl, rfl⟩
theorem renew_no : Calls Try.prog 17 #[v] w fun e w' => e = .returned (.tuple #[]) ∧ w' = w := by
  have N := Lib.hid (none_no w v h)
  clear h
  go_enter Try.func17, Try.ntmps17
  go_wp2_with (go_at_call 29; refine N.out.mono ?_; rintro e w2 ⟨rfl, rfl⟩)
  exact bodyPost_ret (results_none rfl _ _ _) rfl ⟨rfl, rfl⟩
theorem grant_no (i : Int) : Calls Try.prog 11 #[v, .int .i64 i] w fun e w' => e = .returned (.tuple #[]) ∧ w' = w := by
  have N := Lib.hid (none_no w v h)
  clear h
  go_enter Try.func11, Try.ntmps11
  go_wp2_with (go_at_call 29; refine N.out.mono ?_; rintro e w2 ⟨rfl, rfl⟩)
  exact bodyPost_ret (results_none rfl _ _ _) rfl ⟨rfl, rfl⟩
theorem back_no (i : Int) : Calls Try.prog 15 #[v, .int .i64 i] w fun e w' => e = .returned (.tuple #[]) ∧ w' = w := by
  have N := Lib.hid (none_no w v h)
  clear h
  go_enter Try.func15, Try.ntmps15
  go_wp2_with (go_at_call 29; refine N.out.mono ?_; rintro e w2 ⟨rfl, rfl⟩)
  exact bodyPost_ret (results_none rfl _ _ _) rfl ⟨rfl, rfl⟩
theorem next_no : Calls Try.prog 13 #[v] w fun e w' => e = .returned (.tuple #[.int .i64 0, .bool false]) ∧ ∃ k, w' = w.drewN k := by
  have N := fun k => none_no (w.drewN k) v (h.drewN k)
  replace N := Lib.hid N
  clear h
  go_enter Try.func13, Try.ntmps13
  go_wp2_with fail
  go_quiet ((go_at_call 29; exact Calls.quiet_of_same (N.out _)))
  go_wp2
  go_ret2
  exact ⟨rfl, _, rfl⟩
end
end Go.Proofs.Ytmjbgjdiacdacaa.Win
