/-
  Contracts of package ops (layer 9), the landed code's: Check with its helpers. Conditions: those that each names.
-/
import Derived.Test.YtbmepaglhkndpaaOpsR
namespace Go.Proofs.Ytbmepaglhkndpaa.Ops
open Go.RowKit Go.Proofs.Ytbmepaglhkndpaa.Mem Go.Proofs.Ytbmepaglhkndpaa.Codec
attribute [local go_sem ↓] execLoadO

/-- Whether an operation of that kind has a value; whether its version may be. -/
def wr (k : Int) : Bool := decide (k = 2 ∨ k = 4)
def vf (o : O) : Bool := decide (o.ver = 0 ∨ (o.kind = 4 ∧ 0 ≤ o.ver ∧ o.ver ≤ 4096))
theorem wr_yes {k : Int} (h : k = 2 ∨ k = 4) : wr k = true := decide_eq_true h
theorem wr_no {k : Int} (h : ¬ (k = 2 ∨ k = 4)) : wr k = false := decide_eq_false h

theorem writes_any (k : Int) (w : World) : Calls Try.prog 51 #[.int .i64 k] w fun e w' => e = .returned (.bool (wr k)) ∧ Below w.heap.size w w' := by
  by_cases h2 : k = 2
  · subst h2
    go_enter Try.func51, Try.ntmps51
    go_wp2_with fail
    go_ret
    exact ⟨ret_bool rfl, Below.refl _ _⟩
  · by_cases h4 : k = 4
    · subst h4
      go_enter Try.func51, Try.ntmps51
      go_wp2_with fail
      go_ret
      exact ⟨ret_bool rfl, Below.refl _ _⟩
    · have t2 : (k == 2) = false := by simpa using h2
      have t4 : (k == 4) = false := by simpa using h4
      have hw := Lib.hid (wr_no (k := k) (by omega))
      go_enter Try.func51, Try.ntmps51
      go_wp2_with fail
      go_ret
      exact ⟨ret_bool hw.out.symm, Below.refl _ _⟩

theorem vfits_any (o : O) (w : World) : Calls Try.prog 50 #[.agg o.cells.toArray] w fun e w' => e = .returned (.bool (vf o)) ∧ Below w.heap.size w w' := by
  have ways : (o.kind = 4 ∧ ((0 ≤ o.ver ∧ o.ver ≤ 4096 ∧ vf o = true) ∨ (0 ≤ o.ver ∧ ¬ o.ver ≤ 4096 ∧ vf o = false) ∨ (¬ 0 ≤ o.ver ∧ vf o = false))) ∨ ((o.kind == 4) = false ∧ (((o.ver == 0) = true ∧ vf o = true) ∨ ((o.ver == 0) = false ∧ vf o = false))) := by
    unfold vf
    simp only [beq_iff_eq, beq_eq_false_iff_ne, decide_eq_true_eq, decide_eq_false_iff_not]
    omega
  rcases ways with ⟨k, ⟨a, b, h⟩ | ⟨a, b, h⟩ | ⟨a, h⟩⟩ | ⟨k, ⟨a, h⟩ | ⟨a, h⟩⟩
  all_goals replace h := Lib.hid h
  all_goals
    go_enter Try.func50, Try.ntmps50
    go_wp2_with ((with_reducible show wpList _ _ _ (⟨_, .box _ _, _, _, _, _⟩ :: _) _ _); refine wpList_box_blk rfl TO _ rfl o.cells rfl ?_; intro W1 B1 K1 S1; clear S1; obtain ⟨c0, c1, c2, c3⟩ := ocells K1; replace K1 := Lib.hid K1)
    go_ret
    exact ⟨ret_bool h.out.symm, B1⟩

/-- What a walk through Check needs, in each of its ways. -/
theorem ways2 (o : O) : (o.check = 2 ∧ (o.kind < 1 ∨ (¬ o.kind < 1 ∧ (4 < o.kind ∨ (¬ 4 < o.kind ∧ (o.key.isEmpty = true ∨ (o.key.isEmpty = false ∧ (vf o = false ∨ (vf o = true ∧ o.val.isEmpty = false ∧ wr o.kind = false))))))))) ∨
  (((o.check = 3 ∧ 16 < (o.key.length : Int)) ∨ (o.check = 3 ∧ ¬ 16 < (o.key.length : Int) ∧ 64 < (o.val.length : Int)) ∨ (o.check = 0 ∧ ¬ 16 < (o.key.length : Int) ∧ ¬ 64 < (o.val.length : Int))) ∧ ¬ o.kind < 1 ∧ ¬ 4 < o.kind ∧ o.key.isEmpty = false ∧ vf o = true ∧ (o.val.isEmpty = true ∨ (o.val.isEmpty = false ∧ wr o.kind = true))) := by
  have e1 : o.key.isEmpty = true ↔ o.key.length = 0 := by simp
  have e2 : o.key.isEmpty = false ↔ ¬ o.key.length = 0 := by simp
  have e3 : o.val.isEmpty = true ↔ o.val.length = 0 := by simp
  have e4 : o.val.isEmpty = false ↔ ¬ o.val.length = 0 := by simp
  unfold vf wr
  by_cases hb : o.bad
  · refine .inl ⟨check_bad hb, ?_⟩
    unfold O.bad at hb
    simp only [e1, e2, e4, decide_eq_true_eq, decide_eq_false_iff_not]
    omega
  · refine .inr ⟨?_, ?_⟩
    · by_cases hl : o.long
      · have := check_long hb hl
        unfold O.long at hl
        omega
      · have := check_ok.2 ⟨hb, hl⟩
        unfold O.long at hl
        omega
    · unfold O.bad at hb
      simp only [e2, e3, e4, decide_eq_true_eq]
      omega

set_option maxRecDepth 100000 in
set_option maxHeartbeats 2000000 in
theorem check_any (o : O) (w : World) : Calls Try.prog 42 #[.agg o.cells.toArray] w fun e w' => e = .returned (.int .i64 o.check) ∧ Below w.heap.size w w' := by
  have CV := Lib.hid (vfits_any o)
  have CW := Lib.hid (writes_any o.kind)
  rcases ways2 o with ⟨h, a1 | ⟨a1, a2 | ⟨a2, a3 | ⟨a3, a4 | ⟨a4, a5, a6⟩⟩⟩⟩⟩ | ⟨⟨h, b1⟩ | ⟨h, b1, b2⟩ | ⟨h, b1, b2⟩, a1, a2, a3, a4, a5 | ⟨a5, a6⟩⟩
  all_goals replace h := Lib.hid h
  all_goals
    try rw [a4] at CV
    try rw [a6] at CW
    go_enter Try.func42, Try.ntmps42
    go_wp2_with (first
      | ((with_reducible show wpList _ _ _ (⟨_, .box _ _, _, _, _, _⟩ :: _) _ _); refine wpList_box_blk rfl TO _ rfl o.cells rfl ?_; intro W1 B1 K1 S1; clear S1; obtain ⟨c0, c1, c2, c3⟩ := ocells K1; have r1 := ldO K1; have hB := B1; have hK := Lib.hid K1; clear K1)
      | (go_at_call 50; (with_reducible refine (CV.out _).mono ?_); rintro e w2 ⟨rfl, hn⟩; have hl : w.heap.size < W1.heap.size := hK.out.lt; have K2 := hK.out.below hn hl; obtain ⟨c0, c1, c2, c3⟩ := ocells K2; replace hB := bel hB hn; replace K2 := Lib.hid K2; clear hn)
      | (go_at_call 51; (with_reducible refine (CW.out _).mono ?_); rintro e w3 ⟨rfl, hn⟩; have K3 := K2.out.below hn (K2.out.lt); obtain ⟨c0, c1, c2, c3⟩ := ocells K3; replace hB := bel hB hn; replace K3 := Lib.hid K3; clear hn))
    try (go_ret; exact ⟨ret_int h.out.symm, hB⟩)
end Go.Proofs.Ytbmepaglhkndpaa.Ops
