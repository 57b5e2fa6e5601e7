/-
  What the laws of layer 9 call besides: Great (an operation more than is gone through), told (the chapter's operations). Conditions: none.
-/
import Derived.Test.YtpljlncolkecpaaOpsA
import Derived.Test.YtpljlncolkecpaaOpsG
import Derived.Laws.StructEq
namespace Go.Proofs.Ytpljlncolkecpaa.Ops
open Go.RowKit Go.Proofs.Ytpljlncolkecpaa.Mem Go.Proofs.Ytpljlncolkecpaa.Codec

set_option maxRecDepth 20000 in
theorem equal_op (o : O) (w : World) : (Op.equalIn 10000 TO (.agg o.cells.toArray) (.agg o.cells.toArray)).run Try.prog w = .ok true w := by
  have hS : Try.prog.underlying TO = some (.struct (Try.prog.fieldsOf TO)) := by kernel_rfl
  have hp : Try.prog.stoodInHeld TO = false := by kernel_rfl
  rw [show (10000 : Nat) = 9999 + 1 from rfl, run_equalIn_agg w 9999 TO _ _ hS hp]
  clear hS hp
  have u3 := Try.underlying3
  have u9 := Try.underlying9
  simp only [Program.fieldsOf, Try.underlying23]
  simp [Op.eqFields, go_sem, u3, u9, O.cells]
theorem eql_op (o : O) (w : World) : (binOp .eql TO (.agg o.cells.toArray) (.agg o.cells.toArray)).run Try.prog w = .ok (.bool true) w := by rw [run_eql_struct, equal_op]; rfl
theorem guard_op (op : BinOp) (x y : Operand) (o : O) (w : World) : (eqGuard op TO x y (.agg o.cells.toArray) (.agg o.cells.toArray)).run Try.prog w = .ok () w := run_eqGuard_agg w op TO x y _ _ (by kernel_rfl)

/-- The chapter's operations. -/
def o1 : O := ⟨2, [107], [118], 0⟩
def o2 : O := ⟨1, [107], [118], 0⟩
def o3 : O := ⟨1, [48, 49, 50, 51, 52, 53, 54, 55, 56, 57, 48, 49, 50, 51, 52, 53, 54], [], 0⟩
theorem check1 : o1.check = 0 := by decide
theorem check2 : o2.check = 2 := by decide
theorem check3 : o3.check = 3 := by decide
theorem put1 : o1.put = [3, 1, 107, 1, 118] := by decide
theorem cost1 : o1.cost = 18 := by decide
attribute [local go_sem ↓] execLoadO
set_option maxHeartbeats 1000000 in
theorem told_any (w : World) : Calls Try.prog 8 #[] w fun e w' => e = .returned (.bool true) ∧ Below w.heap.size w w' := by
  obtain ⟨d, hd, hdr⟩ := row_op
  replace hd := Lib.hid hd
  have P1 := Lib.hid (put_any o1)
  have C1 := Lib.hid (cost_any o1)
  have H2 := Lib.hid (check_any o2)
  have H3 := Lib.hid (check_any o3)
  unfold PutP at P1
  rw [put1, check1] at P1
  rw [cost1] at C1
  rw [check2] at H2
  rw [check3] at H3
  have hT : Turned [] w w := Turned.of_below (Below.refl _ _)
  go_enter Try.func8, Try.ntmps8
  go_wp2_with (first
    | ((with_reducible show wpList _ _ _ (⟨some 1, .alloc _, _, _, _, _⟩ :: _) _ _); refine wpList_alloc_blk rfl TO rfl _ zero_op ?_; intro W1 B1 K1 S1; clear S1; replace hT := hT.trans (Turned.of_below B1) (by simp))
    | ((with_reducible show wpList _ _ _ (⟨none, .store TO (.tmp 1) _, _, _, _, _⟩ :: _) _ _); refine wpList_store_blk rfl TO _ _ rfl w.heap.size TO zeroO.cells o1.cells 4 rfl rfl K1 rfl (O.cellsN _) info_op ?_; intro W2 T2 K2 S2; clear S2; replace hT := hT.trans T2 (fun j h1 h2 => by simp at h2; omega); clear K1 T2)
    | ((with_reducible show wpList _ _ _ (⟨some 8, .load TO (.tmp 1), _, _, _, _⟩ :: _) _ _); refine wpList_load_blk rfl TO _ rfl w.heap.size TO o1.cells d rfl K2 hd.out hdr info_op ?_)
    | (go_at_call 9; refine (P1.out _).mono ?_; rintro e w3 ⟨rfl, hn⟩; have s3 := hT.size; have s3' := hn.size; replace hT := hT.trans (Turned.of_below hn) (by simp); have KA := K2.below hn K2.lt; have l1 := KA.lt; replace KA := Lib.hid KA; clear K2 hn)
    | ((with_reducible show wpList _ _ _ (⟨some 4, .alloc _, _, _, _, _⟩ :: _) _ _); refine wpList_alloc_blk rfl TO rfl _ zero_op ?_; intro W4 B4 K4 S4; clear S4; replace hT := hT.trans (Turned.of_below B4) (by simp); replace KA := Lib.hid (KA.out.below B4 l1))
    | ((with_reducible show wpList _ _ _ (⟨none, .store TO (.tmp 4) _, _, _, _, _⟩ :: _) _ _); refine wpList_store_blk rfl TO _ _ rfl w3.heap.size TO zeroO.cells o2.cells 4 rfl rfl K4 rfl (O.cellsN _) info_op ?_; intro W5 T5 K5 S5; clear S5; replace hT := hT.trans T5 (fun j h1 h2 => by simp at h2; omega); replace KA := Lib.hid (T5.blk KA.out (by simp; omega)); have l2 := K5.lt; have KB := Lib.hid K5; clear K4 K5 T5)
    | ((with_reducible show wpList _ _ _ (⟨some 5, .alloc _, _, _, _, _⟩ :: _) _ _); refine wpList_alloc_blk rfl TO rfl _ zero_op ?_; intro W6 B6 K6 S6; clear S6; replace hT := hT.trans (Turned.of_below B6) (by simp); replace KA := Lib.hid (KA.out.below B6 (by omega)); replace KB := Lib.hid (KB.out.below B6 l2))
    | ((with_reducible show wpList _ _ _ (⟨none, .store TO (.tmp 5) _, _, _, _, _⟩ :: _) _ _); refine wpList_store_blk rfl TO _ _ rfl W5.heap.size TO zeroO.cells o3.cells 4 rfl rfl K6 rfl (O.cellsN _) info_op ?_; intro W7 T7 K7 S7; clear S7; replace hT := hT.trans T7 (fun j h1 h2 => by simp at h2; omega); replace KA := Lib.hid (T7.blk KA.out (by simp; omega)); replace KB := Lib.hid (T7.blk KB.out (by simp; omega)); have l3 := K7.lt; have KC := Lib.hid K7; have r1 := ldO KA.out; clear K6 K7 T7)
    | (go_at_call 13; refine (C1.out _).mono ?_; rintro e w8 ⟨rfl, hn⟩; replace hT := hT.trans (Turned.of_below hn) (by simp); replace KB := Lib.hid (KB.out.below hn (by omega)); replace KC := Lib.hid (KC.out.below hn l3); have s8 := hn.size; have r2 := ldO KB.out; clear hn)
    | (go_at_call 11; (with_reducible refine (H2.out _).mono ?_); rintro e w9 ⟨rfl, hn⟩; replace hT := hT.trans (Turned.of_below hn) (by simp); replace KC := Lib.hid (KC.out.below hn (by omega)); have r3 := ldO KC.out; clear hn)
    | (go_at_call 11; (with_reducible refine (H3.out _).mono ?_); rintro e w10 ⟨rfl, hn⟩; replace hT := hT.trans (Turned.of_below hn) (by simp); clear hn))
  go_ret
  exact ⟨rfl, hT.below (Nat.le_refl _) (by simp)⟩
end Go.Proofs.Ytpljlncolkecpaa.Ops
