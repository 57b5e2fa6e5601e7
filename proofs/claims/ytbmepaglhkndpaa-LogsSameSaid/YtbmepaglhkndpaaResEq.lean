/-
  Two results held against each other: the same one twice is equal. Conditions: none.
-/
import Derived.Test.YtbmepaglhkndpaaKvR
import Derived.Laws.StructEq
namespace Go.Proofs.Ytbmepaglhkndpaa.Kv
open Go.RowKit Go.Proofs.Ytbmepaglhkndpaa.Mem Go.Proofs.Ytbmepaglhkndpaa.Ops

set_option maxRecDepth 20000 in
theorem equal_res (r : Rs) (w : World) : (Op.equalIn 10000 TR (.agg r.cells.toArray) (.agg r.cells.toArray)).run Try.prog w = .ok true w := by
  have hS : Try.prog.underlying TR = some (.struct (Try.prog.fieldsOf TR)) := by kernel_rfl
  have hp : Try.prog.stoodInHeld TR = false := by kernel_rfl
  rw [show (10000 : Nat) = 9999 + 1 from rfl, run_equalIn_agg w 9999 TR _ _ hS hp]
  clear hS hp
  have u3 := Try.underlying3
  have u9 := Try.underlying9
  simp only [Program.fieldsOf, Try.underlying38]
  simp [Op.eqFields, go_sem, u3, u9, Rs.cells]
theorem eql_res (r : Rs) (w : World) : (binOp .eql TR (.agg r.cells.toArray) (.agg r.cells.toArray)).run Try.prog w = .ok (.bool true) w := by rw [run_eql_struct, equal_res]; rfl
theorem neq_res (r : Rs) (w : World) : (binOp .neq TR (.agg r.cells.toArray) (.agg r.cells.toArray)).run Try.prog w = .ok (.bool false) w := by rw [run_neq_struct, equal_res]; rfl
theorem guard_res (op : BinOp) (x y : Operand) (r : Rs) (w : World) : (eqGuard op TR x y (.agg r.cells.toArray) (.agg r.cells.toArray)).run Try.prog w = .ok () w := run_eqGuard_agg w op TR x y _ _ (by kernel_rfl)
end Go.Proofs.Ytbmepaglhkndpaa.Kv
