/-
  Operations as arguments of a law; contract of Great of fairwaylaw09 (an operation more than is gone through). Conditions: none.
-/
import Derived.Test.YtbmepaglhkndpaaOpsR
namespace Go.Proofs.Ytbmepaglhkndpaa.Ops
open Go.RowKit Go.Proofs.Ytbmepaglhkndpaa.Mem Go.Proofs.Ytbmepaglhkndpaa.Codec

def opTy : Ty := .pair (.int .i64) (.pair .str (.pair .str (.pair (.int .i64) .unit)))
theorem op_fits {w : World} {cs : List Value} (f : Fits w opTy cs) : ∃ o : O, cs = o.cells := by
  obtain ⟨_, _, rfl, ⟨a, rfl, ha⟩, _, _, rfl, ⟨s, rfl, _⟩, _, _, rfl, ⟨t, rfl, _⟩, _, _, rfl, ⟨b, rfl, _⟩, rfl⟩ := f
  exact ⟨⟨a, s.data.toList, t.data.toList, b⟩, by simp [O.cells]⟩

def O.great (o : O) : Bool := decide (300 < o.key.length) || decide (300 < o.val.length)
theorem great_no {o : O} (h : o.great = false) : o.key.length ≤ 300 ∧ o.val.length ≤ 300 := by simpa [O.great] using h
theorem great_any (o : O) (w : World) : Calls Try.prog 22 #[.agg o.cells.toArray] w fun e w' => e = .returned (.bool o.great) ∧ Below w.heap.size w w' := by
  have ways : (o.great = true ∧ 300 < (o.key.length : Int)) ∨ (o.great = true ∧ ¬ 300 < (o.key.length : Int) ∧ 300 < (o.val.length : Int)) ∨ (o.great = false ∧ ¬ 300 < (o.key.length : Int) ∧ ¬ 300 < (o.val.length : Int)) := by
    unfold O.great
    simp only [Bool.or_eq_true, decide_eq_true_eq, Bool.or_eq_false_iff, decide_eq_false_iff_not]
    omega
  rcases ways with ⟨h, a1⟩ | ⟨h, a1, a2⟩ | ⟨h, a1, a2⟩
  all_goals replace h := Lib.hid h
  all_goals
    go_enter Try.func22, Try.ntmps22
    go_wp2_with ((with_reducible show wpList _ _ _ (⟨_, .box _ _, _, _, _, _⟩ :: _) _ _); refine wpList_box_blk rfl TO _ rfl o.cells rfl ?_; intro W1 B1 K1 S1; clear S1; obtain ⟨c0, c1, c2, c3⟩ := ocells K1; replace K1 := Lib.hid K1)
    go_ret
    exact ⟨ret_bool h.out.symm, B1⟩

end Go.Proofs.Ytbmepaglhkndpaa.Ops
