/-
  Contracts of the document's answer for windows (fairwayref04): New, Push, Ack, Grant, Next, Back, Renew, Free. Conditions: a window in memory that its New made.
-/
import Derived.Test.YtmjbgjdiacdacaaWinC
namespace Go.Proofs.Ytmjbgjdiacdacaa.Win
open Go.RowKit Go.Proofs.Ytmjbgjdiacdacaa.Mem
abbrev TR : TypeId := 39

theorem rnew_bad (w : World) (c l d : Int) (h : good c l d = false) : Calls Try.prog 8 #[.int .i64 c, .int .i64 l, .int .i64 d] w fun e w' => e = .returned (.tuple #[.pointer none, .int .i64 2]) ∧ w' = w := by
  have hn : ¬ (1 ≤ c ∧ c ≤ 16 ∧ 0 ≤ d ∧ d ≤ l ∧ l ≤ 4096) := fun hc => by rw [good_iff.2 hc] at h; cases h
  replace hn := Lib.hid hn
  clear h
  go_enter Try.func8, Try.ntmps8
  go_wp2
  all_goals first | (go_ret2; exact ⟨rfl, rfl⟩) | (exfalso; have := hn.out; omega)
theorem rnew_good (w : World) (c l d : Int) (h : good c l d = true) : Calls Try.prog 8 #[.int .i64 c, .int .i64 l, .int .i64 d] w (NewP TR w (v0 c l d) 0) := by
  have ok := Lib.hid (ok_v0 h)
  obtain ⟨h1, h2, h3, h4, h5⟩ := good_iff.1 h
  clear h
  go_enter Try.func8, Try.ntmps8
  go_wp2_with ((with_reducible show wpList _ _ _ (⟨_, .box _ _, _, _, _, _⟩ :: _) _ _); refine wpList_box_blk rfl 39 _ rfl (v0 c l d).cells rfl ?_; intro W1 B1 K1 S1; clear S1)
  go_ret2
  exact ⟨_, rfl, ⟨K1, ok.out⟩, Nat.le_refl _, B1⟩

section
variable (w : World) (p : Nat) (v : V) (h : WAt TR w p v)
include h
theorem rfree_at : Calls Try.prog 30 #[.pointer (some ⟨p, 0, none⟩)] w fun e w' => e = .returned (.int .i64 v.free) ∧ ∃ k, w' = w.drewN k := by
  have c1 : w.cell? ⟨p, 1, none⟩ = some (.int .i64 v.l) := h.blk.cell 1
  obtain ⟨g1, g2, g3, g4, g5, g6, g7, g8, g9⟩ := h.ok
  have K := Lib.hid h.blk
  clear h
  go_enter Try.func30, Try.ntmps30
  go_wp2_with fail
  go_loopw [3, 4] (fun n i wr => ∃ j k : Nat, (j : Int) ≤ v.free ∧ n = .int .i64 (j : Int) ∧ i = .int .i64 (v.l + 1 + j) ∧ wr = w.drewN k) (fun n _ _ => (v.free - intOf n).toNat)
  case atStart => exact ⟨0, 0, by unfold V.free; omega, rfl, by simp, rfl⟩
  case round =>
    obtain ⟨j, k, hj, rfl, rfl, rfl⟩ := hrel
    clear c1
    have c0 : w.cell? ⟨p, 0, none⟩ = some (.int .i64 v.c) := K.out.cell 0
    have c2 : w.cell? ⟨p, 2, none⟩ = some (.int .i64 v.d) := K.out.cell 2
    have f16 : v.free ≤ 4096 := by unfold V.free; omega
    by_cases hlt : (j : Int) < v.free
    · have t1 : decide (v.l + 1 + j ≤ v.d + v.c) = true := decide_eq_true (by unfold V.free at hlt; omega)
      have t2 : decide (v.l + 1 + j ≤ 4096) = true := decide_eq_true (by unfold V.free at hlt; omega)
      go_wp2_with fail
      go_quiet (fail)
      go_wp2
      go_roundw
      case rel => exact ⟨j + 1, k + nq, by omega, by go_num, by go_num, by simp⟩
      case measure => simp [intOf]; omega
    · have hjj : (j : Int) = v.free := by omega
      by_cases ha : v.l + 1 + j ≤ v.d + v.c
      · have t1 : decide (v.l + 1 + j ≤ v.d + v.c) = true := decide_eq_true ha
        have t2 : decide (v.l + 1 + j ≤ 4096) = false := decide_eq_false (by unfold V.free at hlt; omega)
        replace hjj := Lib.hid hjj
        go_wp2_with fail
        go_quiet (fail)
        go_wp2
        go_ret
        exact ⟨ret_int hjj.out, _, by simp [World.drewN_drewN]; rfl⟩
      · have t1 : decide (v.l + 1 + j ≤ v.d + v.c) = false := decide_eq_false ha
        replace hjj := Lib.hid hjj
        go_wp2_with fail
        go_quiet (fail)
        go_wp2
        go_ret
        exact ⟨ret_int hjj.out, _, by simp [World.drewN_drewN]; rfl⟩
theorem rpush_at : Calls Try.prog 21 #[.pointer (some ⟨p, 0, none⟩)] w (MutP TR p w (.bool v.pushes) v.push) := by
  have c0 : w.cell? ⟨p, 1, none⟩ = some (.int .i64 v.l) := h.blk.cell 1
  have f0 := h.blk.free 1
  have g4 := h.ok.dl
  have g3 := h.ok.d0
  have g5 := h.ok.l1
  have H := Lib.hid h
  have F := Lib.hid (rfree_at w p v h)
  clear h
  by_cases hz : 0 < v.free
  · have hz' : decide (0 < v.free) = true := decide_eq_true hz
    go_enter Try.func21, Try.ntmps21
    go_wp2_with (go_at_call 30; refine F.out.mono ?_; rintro e w2 ⟨rfl, k, rfl⟩)
    go_ret
    have hp : v.push = { v with l := v.l + 1 } := if_pos hz
    exact ⟨ret_bool (by unfold V.pushes; exact hz'.symm), WAt.set (H.out.blk.drewN k) 1 _ (by rw [hp]; rfl) (V.ok_push H.out.ok), turned_setCell (turned_drewN (turned_refl _ _) _) (by simp) _ _⟩
  · have hz' : decide (0 < v.free) = false := decide_eq_false hz
    go_enter Try.func21, Try.ntmps21
    go_wp2_with (go_at_call 30; refine F.out.mono ?_; rintro e w2 ⟨rfl, k, rfl⟩)
    go_ret
    exact ⟨ret_bool (by unfold V.pushes; exact hz'.symm), by rw [show v.push = v from if_neg (by omega)]; exact H.out.drewN k, turned_drewN (turned_refl _ _) _⟩
theorem rack_at (i : Int) : Calls Try.prog 10 #[.pointer (some ⟨p, 0, none⟩), .int .i64 i] w (MutP TR p w (.bool (v.acks i)) (v.ack i)) := by
  have c0 : w.cell? ⟨p, 1, none⟩ = some (.int .i64 v.l) := h.blk.cell 1
  have c1 : w.cell? ⟨p, 2, none⟩ = some (.int .i64 v.d) := h.blk.cell 2
  have f0 := h.blk.free 2
  have H := Lib.hid h
  clear h
  go_enter Try.func10, Try.ntmps10
  go_wp2_with fail
  all_goals go_ret
  all_goals first
    | (exact ⟨ret_bool (by unfold V.acks; simp; omega), by rw [show v.ack i = v from if_neg (by omega)]; exact H.out, turned_refl _ _⟩)
    | (have hp : v.ack i = { v with d := i } := if_pos (by omega)
       exact ⟨ret_bool (by unfold V.acks; simp; omega), WAt.set H.out.blk 2 _ (by rw [hp]; rfl) (V.ok_ack H.out.ok i), turned_setCell (turned_refl _ _) (by simp) _ _⟩)
theorem rgrant_at (n : Int) : Calls Try.prog 12 #[.pointer (some ⟨p, 0, none⟩), .int .i64 n] w (MutP TR p w (.tuple #[]) (v.grant n)) := by
  have c0 : w.cell? ⟨p, 4, none⟩ = some (.int .i64 v.m) := h.blk.cell 4
  have f0 := h.blk.free 4
  have g9 := h.ok.m1
  have H := Lib.hid h
  clear h
  go_enter Try.func12, Try.ntmps12
  go_wp2_with fail
  all_goals refine bodyPost_ret (results_none rfl _ _ _) rfl ?_
  all_goals first
    | exact ⟨rfl, WAt.set H.out.blk 4 _ (by simp [V.cells, V.grant, nI]; omega) (V.ok_grant H.out.ok n), turned_setCell (turned_refl _ _) (by simp) _ _⟩
    | (have e : v.grant n = v := by
         cases v
         simp [V.grant] at *
         omega
       exact ⟨rfl, by rw [e]; exact H.out, turned_refl _ _⟩)
theorem rback_at (n : Int) : Calls Try.prog 16 #[.pointer (some ⟨p, 0, none⟩), .int .i64 n] w (MutP TR p w (.tuple #[]) (v.back n)) := by
  have c0 : w.cell? ⟨p, 1, none⟩ = some (.int .i64 v.l) := h.blk.cell 1
  have f0 := h.blk.free 3
  have c3 : w.cell? ⟨p, 3, none⟩ = some (.int .i64 v.s) := h.blk.cell 3
  obtain ⟨g1, g2, g3, g4, g5, g6, g7, g8, g9⟩ := h.ok
  have H := Lib.hid h
  clear h
  go_enter Try.func16, Try.ntmps16
  go_wp2_with fail
  all_goals refine bodyPost_ret (results_none rfl _ _ _) rfl ?_
  all_goals first
    | exact ⟨rfl, WAt.set H.out.blk 3 _ (by simp [V.cells, V.back, nI]; omega) (V.ok_back H.out.ok n), turned_setCell (turned_refl _ _) (by simp) _ _⟩
    | exact ⟨rfl, WAt.set (v := { v with s := n }) (H.out.blk.set 3 (.int .i64 n)) 3 _ (by simp [V.cells, V.back, nI]; omega) (V.ok_back H.out.ok n), turned_setCell (turned_setCell (turned_refl _ _) (by simp) _ _) (by simp) _ _⟩
    | (exfalso; omega)
theorem rrenew_at : Calls Try.prog 18 #[.pointer (some ⟨p, 0, none⟩)] w (MutP TR p w (.tuple #[]) v.renew) := by
  have c0 : w.cell? ⟨p, 1, none⟩ = some (.int .i64 v.l) := h.blk.cell 1
  have f0 := h.blk.free 3
  have f1 := h.blk.free 4
  have c3 : w.cell? ⟨p, 3, none⟩ = some (.int .i64 v.s) := h.blk.cell 3
  have c1 : w.cell? ⟨p, 4, none⟩ = some (.int .i64 v.m) := h.blk.cell 4
  have H := Lib.hid h
  clear h
  go_enter Try.func18, Try.ntmps18
  go_wp2_with fail
  refine bodyPost_ret (results_none rfl _ _ _) rfl ?_
  exact ⟨rfl, WAt.set (v := { v with s := v.l }) (H.out.blk.set 3 (.int .i64 v.l)) 4 _ rfl (V.ok_renew H.out.ok), turned_setCell (turned_setCell (turned_refl _ _) (by simp) _ _) (by simp) _ _⟩
theorem rnext_at : Calls Try.prog 14 #[.pointer (some ⟨p, 0, none⟩)] w (MutP TR p w (.tuple #[.int .i64 v.nextN, .bool v.nexts]) v.next) := by
  have c0 : w.cell? ⟨p, 1, none⟩ = some (.int .i64 v.l) := h.blk.cell 1
  have c1 : w.cell? ⟨p, 3, none⟩ = some (.int .i64 v.s) := h.blk.cell 3
  have c2 : w.cell? ⟨p, 4, none⟩ = some (.int .i64 v.m) := h.blk.cell 4
  have f0 := h.blk.free 3
  have g1 := h.ok.s0
  have g2 := h.ok.s1
  have g3 := h.ok.l1
  have H := Lib.hid h
  clear h
  by_cases ha : v.l ≤ v.s
  · have ha' : decide (v.l ≤ v.s) = true := decide_eq_true ha
    go_enter Try.func14, Try.ntmps14
    go_wp2_with fail
    go_quiet (fail)
    go_wp2
    go_ret2
    rw [show v.nextN = 0 from if_neg (by omega), show v.nexts = false from decide_eq_false (by omega), show v.next = v from if_neg (by omega)]
    exact ⟨rfl, H.out.drewN _, turned_drewN (turned_refl _ _) _⟩
  · have ha' : decide (v.l ≤ v.s) = false := decide_eq_false ha
    by_cases hb : v.m ≤ v.s
    · have hb' : decide (v.m ≤ v.s) = true := decide_eq_true hb
      go_enter Try.func14, Try.ntmps14
      go_wp2_with fail
      go_quiet (fail)
      go_wp2
      go_ret2
      rw [show v.nextN = 0 from if_neg (by omega), show v.nexts = false from decide_eq_false (by omega), show v.next = v from if_neg (by omega)]
      exact ⟨rfl, H.out.drewN _, turned_drewN (turned_refl _ _) _⟩
    · have hb' : decide (v.m ≤ v.s) = false := decide_eq_false hb
      go_enter Try.func14, Try.ntmps14
      go_wp2_with fail
      go_quiet (fail)
      go_wp2
      go_ret2
      have hp : v.next = { v with s := v.s + 1 } := if_pos (by omega)
      rw [show v.nextN = v.s + 1 from if_pos (by omega), show v.nexts = true from decide_eq_true (by omega)]
      exact ⟨rfl, WAt.set (H.out.blk.drewN _) 3 _ (by rw [hp]; rfl) (V.ok_next H.out.ok), turned_setCell (turned_drewN (turned_refl _ _) _) (by simp) _ _⟩
end
end Go.Proofs.Ytmjbgjdiacdacaa.Win
