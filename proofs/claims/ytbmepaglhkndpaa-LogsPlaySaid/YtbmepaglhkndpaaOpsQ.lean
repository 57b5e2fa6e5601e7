/-
  Contract of package ops (layer 9): Reads, without what OpsA needs besides. Conditions: those that it names.
-/
import Derived.Test.YtbmepaglhkndpaaOpsC
namespace Go.Proofs.Ytbmepaglhkndpaa.Ops
open Go.RowKit Go.Proofs.Ytbmepaglhkndpaa.Mem
attribute [local go_sem ↓] execLoadO
set_option maxRecDepth 100000
theorem reads_op (o : O) (w : World) : Calls Try.prog 49 #[.agg o.cells.toArray] w fun e w' => e = .returned (.bool o.reads) ∧ Below w.heap.size w w' := by
  have CH := Lib.hid (check_any o)
  have hr : o.reads = (decide (o.kind = 1) && decide (o.check = 0)) := rfl
  by_cases hk : o.kind = 1
  · rcases check_three o with h | h | h
    all_goals
      rw [h, hk] at hr
      rw [h] at CH
      replace hr := Lib.hid hr
      clear h
      have tk : (o.kind == 1) = true := by simpa using hk
      clear hk
      go_enter Try.func49, Try.ntmps49
      go_wp2_with (first | ((with_reducible show wpList _ _ _ (⟨_, .box _ _, _, _, _, _⟩ :: _) _ _); refine wpList_box_blk rfl TO _ rfl o.cells rfl ?_; intro W1 B1 K1 S1; clear S1; obtain ⟨c0, c1, c2, c3⟩ := ocells K1; have r1 := ldO K1; have hB := B1; have hK := Lib.hid K1; clear K1) | (go_at_call 42; (with_reducible refine (CH.out _).mono ?_); rintro e w2 ⟨rfl, hn⟩; replace hK := Lib.hid (hK.out.below hn hK.out.lt); obtain ⟨c0, c1, c2, c3⟩ := ocells hK.out; have r1 := ldO hK.out; replace hB := bel hB hn; clear hn))
      go_ret
      exact ⟨ret_bool hr.out.symm, hB⟩
  · have tk : (o.kind == 1) = false := by simpa using hk
    rw [decide_eq_false hk] at hr
    replace hr := Lib.hid hr
    clear hk
    go_enter Try.func49, Try.ntmps49
    go_wp2_with (first | ((with_reducible show wpList _ _ _ (⟨_, .box _ _, _, _, _, _⟩ :: _) _ _); refine wpList_box_blk rfl TO _ rfl o.cells rfl ?_; intro W1 B1 K1 S1; clear S1; obtain ⟨c0, c1, c2, c3⟩ := ocells K1; have r1 := ldO K1; have hB := B1; have hK := Lib.hid K1; clear K1) | (go_at_call 42; (with_reducible refine (CH.out _).mono ?_); rintro e w2 ⟨rfl, hn⟩; replace hK := Lib.hid (hK.out.below hn hK.out.lt); obtain ⟨c0, c1, c2, c3⟩ := ocells hK.out; have r1 := ldO hK.out; replace hB := bel hB hn; clear hn))
    go_ret
    exact ⟨ret_bool hr.out.symm, hB⟩
end Go.Proofs.Ytbmepaglhkndpaa.Ops
