/-
  Operations in memory and as arguments; contract of the document's answer for operations (fairwayref09): Check. Conditions: those that each names.
-/
import Derived.Test.YtbmepaglhkndpaaProg
import Derived.Test.YtbmepaglhkndpaaTyped
import Derived.Test.YtbmepaglhkndpaaOpsMath
import Derived.WalkLawsBesides
import Derived.BigQuiet
namespace Go.Proofs.Ytbmepaglhkndpaa.Ops
open Go.RowKit Go.Proofs.Ytbmepaglhkndpaa.Mem Go.Proofs.Ytbmepaglhkndpaa.Codec

abbrev TO : TypeId := 32
def O.cells (o : O) : List Value := [.int .i64 o.kind, .string ⟨o.key.toArray⟩, .string ⟨o.val.toArray⟩, .int .i64 o.ver]
theorem O.cellsN (o : O) : CellsN 4 o.cells.toArray := ⟨rfl, all_oneCell_toArray (by simp [O.cells, Value.oneCell'])⟩
theorem zero_op : ∀ w, (zeroValue TO).run Try.prog w = .ok (.agg zeroO.cells.toArray) w := fun w => by kernel_rfl
theorem info_op : (Try.prog.info? TO).map (·.size) = some 4 := by kernel_rfl
theorem row_op : ∃ d, Try.prog.underlying TO = some d ∧ d.isRow = true := ⟨_, Try.underlying32, rfl⟩
/-- A block that holds an operation: its cells. -/
structure OCells (w : World) (b : Nat) (o : O) : Prop where
  c0 : w.cell? ⟨b, 0, none⟩ = some (.int .i64 o.kind)
  c1 : w.cell? ⟨b, 1, none⟩ = some (.string ⟨o.key.toArray⟩)
  c2 : w.cell? ⟨b, 2, none⟩ = some (.string ⟨o.val.toArray⟩)
  c3 : w.cell? ⟨b, 3, none⟩ = some (.int .i64 o.ver)
theorem ocells {w : World} {b : Nat} {o : O} (h : Blk w b TO o.cells) : OCells w b o := ⟨h.cell 0, h.cell 1, h.cell 2, h.cell 3⟩

section
variable (ρ : Operand → Value) (dst : Option Tmp) (x : Operand) (tt : TypeId) (pos : String) (af : Array Edge) (g : Option (Nat × Bool)) (w : World)
theorem execLoadO : (execOp ρ ⟨dst, .load TO x, tt, pos, af, g⟩).run Try.prog w = ldRun Try.prog TO w (ρ x) := exec_load _ _ _ _ _ _ _ _ _
end
theorem ldO {w : World} {b : Nat} {o : O} (h : Blk w b TO o.cells) : ldRun Try.prog TO w (.pointer (some ⟨b, 0, none⟩)) = .ok (.value (.agg o.cells.toArray)) w := by
  have := ldRun_row w b 0 TO 4 _ Try.underlying32 rfl info_op (h.rows (n := 4) rfl).1
  rw [(h.rows (n := 4) rfl).2] at this
  exact this

/-- What a walk through the tests of an operation needs, in each of its ways. -/
theorem ways (o : O) : (o.check = 2 ∧ (o.kind < 1 ∨ (¬ o.kind < 1 ∧ (4 < o.kind ∨ (¬ 4 < o.kind ∧ (((o.key.length : Int) == 0) = true ∨ (((o.key.length : Int) == 0) = false ∧ (o.ver < 0 ∨ (¬ o.ver < 0 ∧ (4096 < o.ver ∨ (¬ 4096 < o.ver ∧
    ((0 < o.ver ∧ ¬ o.kind = 4) ∨ (¬ 0 < o.ver ∧ 0 < (o.val.length : Int) ∧ (o.kind = 1 ∨ o.kind = 3)))))))))))))) ∨
  (((o.check = 3 ∧ 16 < (o.key.length : Int)) ∨ (o.check = 3 ∧ ¬ 16 < (o.key.length : Int) ∧ 64 < (o.val.length : Int)) ∨ (o.check = 0 ∧ ¬ 16 < (o.key.length : Int) ∧ ¬ 64 < (o.val.length : Int))) ∧ ¬ o.kind < 1 ∧ ¬ 4 < o.kind ∧ ((o.key.length : Int) == 0) = false ∧ ¬ o.ver < 0 ∧ ¬ 4096 < o.ver ∧ (¬ 0 < o.ver ∨ (0 < o.ver ∧ o.kind = 4)) ∧ (¬ 0 < (o.val.length : Int) ∨ (0 < (o.val.length : Int) ∧ (o.kind = 2 ∨ o.kind = 4)))) := by
  by_cases hb : o.bad
  · refine .inl ⟨check_bad hb, ?_⟩
    unfold O.bad at hb
    simp only [beq_iff_eq, beq_eq_false_iff_ne]
    omega
  · refine .inr ⟨?_, ?_⟩
    · by_cases hl : o.long
      · have := check_long hb hl
        unfold O.long at hl
        omega
      · have := check_ok.2 ⟨hb, hl⟩
        unfold O.long at hl
        omega
    · unfold O.bad at hb
      simp only [beq_eq_false_iff_ne]
      omega

set_option maxHeartbeats 2000000 in
theorem rcheck_any (o : O) (w : World) : Calls Try.prog 33 #[.agg o.cells.toArray] w fun e w' => e = .returned (.int .i64 o.check) ∧ Below w.heap.size w w' := by
  rcases ways o with ⟨h, a1 | ⟨a1, a2 | ⟨a2, a3 | ⟨a3, a4 | ⟨a4, a5 | ⟨a5, ⟨a6, a7⟩ | ⟨a6, a8, a7 | a7⟩⟩⟩⟩⟩⟩⟩ | ⟨⟨h, b1⟩ | ⟨h, b1, b2⟩ | ⟨h, b1, b2⟩, a1, a2, a3, a4, a5, a6 | ⟨a6, a7⟩, a8 | ⟨a8, a9 | a9⟩⟩
  all_goals try (exfalso; omega)
  all_goals replace h := Lib.hid h
  all_goals
    go_enter Try.func33, Try.ntmps33
    go_wp2_with ((with_reducible show wpList _ _ _ (⟨_, .box _ _, _, _, _, _⟩ :: _) _ _); refine wpList_box_blk rfl TO _ rfl o.cells rfl ?_; intro W1 B1 K1 S1; clear S1; obtain ⟨c0, c1, c2, c3⟩ := ocells K1; replace K1 := Lib.hid K1)
    try (first | (exfalso; omega) | skip)
    try (go_ret; exact ⟨ret_int h.out.symm, B1⟩)
end Go.Proofs.Ytbmepaglhkndpaa.Ops
