/-
  Contracts of package windows (layer 4): New, Copy; and the chapter's window (framed of fairwaylaw04). Conditions: a window in memory that New made.
-/
import Derived.Test.YtmjbgjdiacdacaaWinB
import Derived.Test.YtmjbgjdiacdacaaTyped
namespace Go.Proofs.Ytmjbgjdiacdacaa.Win
open Go.RowKit Go.Proofs.Ytmjbgjdiacdacaa.Mem

theorem zero_win : ∀ w, (zeroValue 45).run Try.prog w = .ok (.agg [nI 0, nI 0, nI 0, nI 0, nI 0].toArray) w := fun w => by kernel_rfl
theorem info_win : (Try.prog.info? 45).map (·.size) = some 5 := by kernel_rfl
theorem row_win : ∃ d, Try.prog.underlying 45 = some d ∧ d.isRow = true := ⟨_, Try.underlying45, rfl⟩
theorem V.cellsN (v : V) : CellsN 5 v.cells.toArray := ⟨rfl, all_oneCell_toArray (by simp [V.cells, nI, Value.oneCell'])⟩

/-- What New asks. -/
def good (c l d : Int) : Bool := decide (1 ≤ c) && decide (c ≤ 16) && decide (0 ≤ d) && decide (d ≤ l) && decide (l ≤ 4096)
theorem good_iff {c l d : Int} : good c l d = true ↔ 1 ≤ c ∧ c ≤ 16 ∧ 0 ≤ d ∧ d ≤ l ∧ l ≤ 4096 := by simp [good, and_assoc]
def v0 (c l d : Int) : V := ⟨c, l, d, l, 0⟩
theorem ok_v0 {c l d : Int} (h : good c l d = true) : (v0 c l d).Ok := by
  obtain ⟨a, b, e, f, g⟩ := good_iff.1 h
  exact ⟨a, b, e, f, g, by simp [v0]; omega, Int.le_refl _, Int.le_refl _, by simp [v0]⟩

theorem new_bad (w : World) (c l d : Int) (h : good c l d = false) : Calls Try.prog 7 #[.int .i64 c, .int .i64 l, .int .i64 d] w fun e w' => e = .returned (.tuple #[.pointer none, .int .i64 2]) ∧ w' = w := by
  have hn : ¬ (1 ≤ c ∧ c ≤ 16 ∧ 0 ≤ d ∧ d ≤ l ∧ l ≤ 4096) := fun hc => by rw [good_iff.2 hc] at h; cases h
  replace hn := Lib.hid hn
  clear h
  go_enter Try.func7, Try.ntmps7
  go_wp2
  all_goals first | (go_ret2; exact ⟨rfl, rfl⟩) | (exfalso; have := hn.out; omega)
/-- A new window. -/
def NewP (T : TypeId) (w : World) (v : V) (a : Int) (e : Ending) (w' : World) : Prop := ∃ p, e = .returned (.tuple #[.pointer (some ⟨p, 0, none⟩), .int .i64 a]) ∧ WAt T w' p v ∧ w.heap.size ≤ p ∧ Below w.heap.size w w'
theorem new_good (w : World) (c l d : Int) (h : good c l d = true) : Calls Try.prog 7 #[.int .i64 c, .int .i64 l, .int .i64 d] w (NewP TW w (v0 c l d) 0) := by
  have ok := Lib.hid (ok_v0 h)
  obtain ⟨h1, h2, h3, h4, h5⟩ := good_iff.1 h
  clear h
  go_enter Try.func7, Try.ntmps7
  go_wp2_with ((with_reducible show wpList _ _ _ (⟨_, .box _ _, _, _, _, _⟩ :: _) _ _); refine wpList_box_blk rfl 45 _ rfl (v0 c l d).cells rfl ?_; intro W1 B1 K1 S1; clear S1)
  go_ret2
  exact ⟨_, rfl, ⟨K1, ok.out⟩, Nat.le_refl _, B1⟩
/-- A copy. -/
def CopyP (w : World) (v : V) (e : Ending) (w' : World) : Prop := ∃ p, e = .returned (.pointer (some ⟨p, 0, none⟩)) ∧ WAt TW w' p v ∧ w.heap.size ≤ p ∧ Below w.heap.size w w'
theorem copy_at (w : World) (p : Nat) (v : V) (h : WAt TW w p v) : Calls Try.prog 19 #[.pointer (some ⟨p, 0, none⟩)] w (CopyP w v) := by
  obtain ⟨d, hd, hdr⟩ := row_win
  have K := Lib.hid h.blk
  have ok := Lib.hid h.ok
  have F := Lib.hid (none_at w p v h)
  replace hd := Lib.hid hd
  clear h
  go_enter Try.func19, Try.ntmps19
  go_wp2_with (first
    | (go_at_call 29; refine F.out.mono ?_; rintro e w2 ⟨rfl, rfl⟩)
    | ((with_reducible show wpList _ _ _ (⟨_, .load 45 _, _, _, _, _⟩ :: _) _ _); refine wpList_load_blk rfl 45 _ rfl p 45 v.cells d rfl K.out hd.out hdr info_win ?_)
    | ((with_reducible show wpList _ _ _ (⟨_, .alloc _, _, _, _, _⟩ :: _) _ _); refine wpList_alloc_blk rfl 45 rfl _ zero_win ?_; intro W3 B3 K3 S3; clear S3)
    | ((with_reducible show wpList _ _ _ (⟨none, .store 45 _ _, _, _, _, _⟩ :: _) _ _); refine wpList_store_blk rfl 45 _ _ rfl w2.heap.size 45 _ v.cells 5 rfl rfl K3 rfl v.cellsN info_win ?_; intro W4 T4 K4 S4; clear S4))
  go_ret
  exact ⟨_, rfl, ⟨K4, ok.out⟩, Nat.le_refl _, B3.trans (T4.below (by have := B3.size; omega) (by simp))⟩

theorem framed_any (w : World) : Calls Try.prog 6 #[] w fun e w' => e = .returned (.bool true) ∧ Below w.heap.size w w' := by
  go_enter Try.func6, Try.ntmps6
  go_wp2_with fail
  refine (show Calls _ _ _ w (NewP TW w ⟨2, 3, 2, 3, 0⟩ 0) from new_good w 2 3 2 (by decide)).mono ?_
  rintro e w1 ⟨p, rfl, W1, hp, B1⟩
  go_wp2_with fail
  refine (show Calls _ _ _ w1 (fun e w' => e = .returned (.int .i64 1) ∧ ∃ k, w' = w1.drewN k) from free_at w1 p ⟨2, 3, 2, 3, 0⟩ W1).mono ?_
  rintro e w2 ⟨rfl, k2, h2⟩
  have B2 : Below w.heap.size w w2 := by rw [h2]; exact below_drewN B1 _
  have W2 : WAt TW w2 p ⟨2, 3, 2, 3, 0⟩ := by rw [h2]; exact W1.drewN _
  clear W1 B1 h2
  go_wp2_with fail
  refine (show Calls _ _ _ w2 (fun e w' => e = .returned (.int .i64 4) ∧ ∃ k, w' = w2.drewN k) from offer_at w2 p ⟨2, 3, 2, 3, 0⟩ W2).mono ?_
  rintro e w3 ⟨rfl, k3, h3⟩
  have B3 : Below w.heap.size w w3 := by rw [h3]; exact below_drewN B2 _
  have W3 : WAt TW w3 p ⟨2, 3, 2, 3, 0⟩ := by rw [h3]; exact W2.drewN _
  clear W2 B2 h3
  go_wp2_with fail
  refine (show Calls _ _ _ w3 (MutP TW p w3 (.bool true) ⟨2, 4, 2, 3, 0⟩) from push_at w3 p ⟨2, 3, 2, 3, 0⟩ W3 ).mono ?_
  rintro e w4 ⟨rfl, W4, T4⟩
  have B4 : Below w.heap.size w w4 := B3.trans (T4.below B3.size (by simpa using hp))
  clear W3 B3 T4
  go_wp2_with fail
  refine (show Calls _ _ _ w4 (MutP TW p w4 (.bool false) ⟨2, 4, 2, 3, 0⟩) from push_at w4 p ⟨2, 4, 2, 3, 0⟩ W4 ).mono ?_
  rintro e w5 ⟨rfl, W5, T5⟩
  have B5 : Below w.heap.size w w5 := B4.trans (T5.below B4.size (by simpa using hp))
  clear W4 B4 T5
  go_wp2_with fail
  refine (show Calls _ _ _ w5 (MutP TW p w5 (.bool false) ⟨2, 4, 2, 3, 0⟩) from ack_at w5 p ⟨2, 4, 2, 3, 0⟩ W5 5).mono ?_
  rintro e w6 ⟨rfl, W6, T6⟩
  have B6 : Below w.heap.size w w6 := B5.trans (T6.below B5.size (by simpa using hp))
  clear W5 B5 T6
  go_wp2_with fail
  refine (show Calls _ _ _ w6 (MutP TW p w6 (.bool false) ⟨2, 4, 2, 3, 0⟩) from ack_at w6 p ⟨2, 4, 2, 3, 0⟩ W6 2).mono ?_
  rintro e w7 ⟨rfl, W7, T7⟩
  have B7 : Below w.heap.size w w7 := B6.trans (T7.below B6.size (by simpa using hp))
  clear W6 B6 T7
  go_wp2_with fail
  refine (show Calls _ _ _ w7 (MutP TW p w7 (.bool true) ⟨2, 4, 4, 3, 0⟩) from ack_at w7 p ⟨2, 4, 2, 3, 0⟩ W7 4).mono ?_
  rintro e w8 ⟨rfl, W8, T8⟩
  have B8 : Below w.heap.size w w8 := B7.trans (T8.below B7.size (by simpa using hp))
  clear W7 B7 T8
  go_wp2_with fail
  refine (show Calls _ _ _ w8 (MutP TW p w8 (.tuple #[.int .i64 0, .bool false]) ⟨2, 4, 4, 3, 0⟩) from next_at w8 p ⟨2, 4, 4, 3, 0⟩ W8 ).mono ?_
  rintro e w9 ⟨rfl, W9, T9⟩
  have B9 : Below w.heap.size w w9 := B8.trans (T9.below B8.size (by simpa using hp))
  clear W8 B8 T9
  go_wp2_with fail
  refine (show Calls _ _ _ w9 (MutP TW p w9 (.tuple #[]) ⟨2, 4, 4, 3, 4⟩) from grant_at w9 p ⟨2, 4, 4, 3, 0⟩ W9 4).mono ?_
  rintro e w10 ⟨rfl, W10, T10⟩
  have B10 : Below w.heap.size w w10 := B9.trans (T10.below B9.size (by simpa using hp))
  clear W9 B9 T10
  go_wp2_with fail
  refine (show Calls _ _ _ w10 (MutP TW p w10 (.tuple #[.int .i64 4, .bool true]) ⟨2, 4, 4, 4, 4⟩) from next_at w10 p ⟨2, 4, 4, 3, 4⟩ W10 ).mono ?_
  rintro e w11 ⟨rfl, W11, T11⟩
  have B11 : Below w.heap.size w w11 := B10.trans (T11.below B10.size (by simpa using hp))
  clear W10 B10 T11
  go_wp2_with fail
  refine (show Calls _ _ _ w11 (MutP TW p w11 (.tuple #[.int .i64 0, .bool false]) ⟨2, 4, 4, 4, 4⟩) from next_at w11 p ⟨2, 4, 4, 4, 4⟩ W11 ).mono ?_
  rintro e w12 ⟨rfl, W12, T12⟩
  have B12 : Below w.heap.size w w12 := B11.trans (T12.below B11.size (by simpa using hp))
  clear W11 B11 T12
  go_wp2_with fail
  refine (show Calls _ _ _ w12 (MutP TW p w12 (.tuple #[]) ⟨2, 4, 4, 2, 4⟩) from back_at w12 p ⟨2, 4, 4, 4, 4⟩ W12 2).mono ?_
  rintro e w13 ⟨rfl, W13, T13⟩
  have B13 : Below w.heap.size w w13 := B12.trans (T13.below B12.size (by simpa using hp))
  clear W12 B12 T13
  go_wp2_with fail
  refine (show Calls _ _ _ w13 (MutP TW p w13 (.tuple #[.int .i64 3, .bool true]) ⟨2, 4, 4, 3, 4⟩) from next_at w13 p ⟨2, 4, 4, 2, 4⟩ W13 ).mono ?_
  rintro e w14 ⟨rfl, W14, T14⟩
  have B14 : Below w.heap.size w w14 := B13.trans (T14.below B13.size (by simpa using hp))
  clear W13 B13 T14
  go_wp2_with (first
    | (go_at_call 23; refine (show Calls _ _ _ w14 (fun e w' => e = .returned (.int .i64 4) ∧ w' = w14) from last_at w14 p ⟨2, 4, 4, 3, 4⟩ W14).mono ?_; rintro e wa ⟨rfl, ha⟩; subst ha)
    | (go_at_call 24; refine (show Calls _ _ _ wa (fun e w' => e = .returned (.int .i64 4) ∧ w' = wa) from done_at wa p ⟨2, 4, 4, 3, 4⟩ W14).mono ?_; rintro e wb ⟨rfl, hb⟩; subst hb))
  go_ret
  exact ⟨rfl, by assumption⟩
end Go.Proofs.Ytmjbgjdiacdacaa.Win
