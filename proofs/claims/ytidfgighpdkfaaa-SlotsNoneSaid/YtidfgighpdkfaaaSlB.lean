/-
  'same' of fairwaylaw08 and the chapter's slot (once). Conditions: a slot in memory.
-/
import Derived.Test.YtidfgighpdkfaaaSlA
import Derived.Laws.StructEq
namespace Go.Proofs.Ytidfgighpdkfaaa.Sl
open Go.RowKit Go.Proofs.Ytidfgighpdkfaaa.Mem

set_option maxRecDepth 20000 in
theorem equal_out (o : O) (w : World) : (Op.equalIn 10000 TO (.agg o.cells.toArray) (.agg o.cells.toArray)).run Try.prog w = .ok true w := by
  have hS : Try.prog.underlying TO = some (.struct (Try.prog.fieldsOf TO)) := by kernel_rfl
  have hp : Try.prog.stoodInHeld TO = false := by kernel_rfl
  rw [show (10000 : Nat) = 9999 + 1 from rfl, run_equalIn_agg w 9999 TO _ _ hS hp]
  clear hS hp
  have u3 := Try.underlying3
  simp only [Program.fieldsOf, Try.underlying29]
  simp [Op.eqFields, go_sem, u3, O.cells]
theorem eql_out (o : O) (w : World) : (binOp .eql TO (.agg o.cells.toArray) (.agg o.cells.toArray)).run Try.prog w = .ok (.bool true) w := by rw [run_eql_struct, equal_out]; rfl
theorem neq_out (o : O) (w : World) : (binOp .neq TO (.agg o.cells.toArray) (.agg o.cells.toArray)).run Try.prog w = .ok (.bool false) w := by rw [run_neq_struct, equal_out]; rfl
theorem guard_out (op : BinOp) (x y : Operand) (o : O) (w : World) : (eqGuard op TO x y (.agg o.cells.toArray) (.agg o.cells.toArray)).run Try.prog w = .ok () w := run_eqGuard_agg w op TO x y _ _ (by kernel_rfl)

/-- Of a slot that tells just that. -/
theorem same_of (w : World) (v : Value) (o : O) (ok : Bool) (hg : ∀ w', Below w.heap.size w w' → Calls Try.prog 11 #[v] w' fun e w'' => e = .returned (.tuple #[.agg o.cells.toArray, .bool ok]) ∧ Below w'.heap.size w' w'') :
    Calls Try.prog 9 #[v, .agg o.cells.toArray, .bool ok] w fun e w' => e = .returned (.bool true) ∧ Below w.heap.size w w' := by
  obtain ⟨d, hd, hdr⟩ := row_out
  replace hd := Lib.hid hd
  replace hg := Lib.hid hg
  have hq := eql_out o
  have hgu := fun op x y => guard_out op x y o
  go_enter Try.func9, Try.ntmps9
  go_wp2_with ((with_reducible show wpList _ _ _ (⟨_, .box _ _, _, _, _, _⟩ :: _) _ _); refine wpList_box_blk rfl TO _ rfl o.cells rfl ?_; intro W1 B1 K1 S1; clear S1)
  refine (hg.out W1 B1).mono ?_
  rintro e w2 ⟨rfl, B2⟩
  have K2 := K1.below B2 K1.lt
  have s1 := K1.lt
  have s2 := B2.size
  go_wp2_with (first
    | ((with_reducible show wpList _ _ _ (⟨_, .alloc _, _, _, _, _⟩ :: _) _ _); refine wpList_alloc_blk rfl TO rfl _ zero_out ?_; intro W3 B3 K3 S3; clear S3)
    | ((with_reducible show wpList _ _ _ (⟨none, .store TO _ _, _, _, _, _⟩ :: _) _ _); refine wpList_store_blk rfl TO _ _ rfl w2.heap.size TO zeroO.cells o.cells 6 rfl rfl K3 rfl o.cellsN info_out ?_; intro W4 T4 K4 S4; clear S4; have K5 := T4.blk (K2.below B3 (by omega)) (by simp; omega))
    | ((with_reducible show wpList _ _ _ (⟨_, .load TO (.tmp 7), _, _, _, _⟩ :: _) _ _); refine wpList_load_blk rfl TO _ rfl w2.heap.size TO o.cells d rfl K4 hd.out hdr info_out ?_)
    | ((with_reducible show wpList _ _ _ (⟨_, .load TO (.tmp 4), _, _, _, _⟩ :: _) _ _); refine wpList_load_blk rfl TO _ rfl w.heap.size TO o.cells d rfl K5 hd.out hdr info_out ?_))
  go_ret
  exact ⟨by simp, ((B1.trans (B2.mono B1.size)).trans (B3.mono (by have := B1.size; omega))).trans (T4.below (by have := B1.size; have := B3.size; omega) (by simp; have := B1.size; omega))⟩
theorem same_yes (w : World) (p : Nat) (v : Option O) (h : SAt w p v) : Calls Try.prog 9 #[.pointer (some ⟨p, 0, none⟩), .agg (v.getD zeroO).cells.toArray, .bool v.isSome] w fun e w' => e = .returned (.bool true) ∧ Below w.heap.size w w' :=
  same_of w _ _ _ (fun w' hb => get_at w' p v (h.below hb))
theorem same_no (w : World) (v : Value) (h : NoS w v) : Calls Try.prog 9 #[v, .agg zeroO.cells.toArray, .bool false] w fun e w' => e = .returned (.bool true) ∧ Below w.heap.size w w' :=
  same_of w _ _ _ (fun w' hb => get_no w' v (h.below hb))

def kindO (k : Int) : O := ⟨k, 0, 0, ⟨#[]⟩, 0, 0⟩
theorem once_any (w : World) : Calls Try.prog 6 #[] w fun e w' => e = .returned (.bool true) ∧ Below w.heap.size w w' := by
  obtain ⟨d, hd, hdr⟩ := row_out
  replace hd := Lib.hid hd
  go_enter Try.func6, Try.ntmps6
  go_wp2_with fail
  refine (new_any w).mono ?_
  rintro e w1 ⟨p, rfl, S1, hp, B1⟩
  go_wp2_with fail
  refine (get_at w1 p none S1).mono ?_
  rintro e w2 ⟨rfl, B2⟩
  have S2 := S1.below B2
  have bs2 := B1.trans (B2.mono B1.size)
  clear S1
  go_wp2_with (first
    | ((with_reducible show wpList _ _ _ (⟨some 2, .alloc _, _, _, _, _⟩ :: _) _ _); refine wpList_alloc_blk rfl TO rfl _ zero_out ?_; intro W3 B3 K3 S3; clear S3)
    | ((with_reducible show wpList _ _ _ (⟨none, .store TO (.tmp 2) _, _, _, _, _⟩ :: _) _ _); refine wpList_store_blk rfl TO _ _ rfl w2.heap.size TO zeroO.cells zeroO.cells 6 rfl rfl K3 rfl zeroO.cellsN info_out ?_; intro W4 T4 K4 S4; clear S4))
  have s2 := S2.lt
  have S4 : SAt W4 p none := (S2.below B3).keep T4 (by simp; omega)
  have bs4 := (bs2.trans (B3.mono bs2.size)).trans (T4.below (by have := B3.size; have := bs2.size; omega) (by simp; exact bs2.size))
  clear S2
  refine (show Calls _ _ _ W4 (fun e w' => e = .returned (.bool false) ∧ SAt w' p none ∧ Turned [p] W4 w') from set_at W4 p none S4 zeroO).mono ?_
  rintro e w5 ⟨rfl, S5, T5⟩
  have bs5 := bs4.trans (T5.below bs4.size (by simpa using hp))
  clear S4
  go_wp2_with fail
  refine (show Calls _ _ _ w5 (fun e w' => e = .returned (.bool true) ∧ SAt w' p (some (kindO 3)) ∧ Turned [p] w5 w') from set_at w5 p none S5 (kindO 3)).mono ?_
  rintro e w6 ⟨rfl, S6, T6⟩
  have bs6 := bs5.trans (T6.below bs5.size (by simpa using hp))
  clear S5
  go_wp2_with fail
  refine (show Calls _ _ _ w6 (fun e w' => e = .returned (.bool false) ∧ SAt w' p (some (kindO 3)) ∧ Turned [p] w6 w') from set_at w6 p (some (kindO 3)) S6 (kindO 1)).mono ?_
  rintro e w7 ⟨rfl, S7, T7⟩
  have bs7 := bs6.trans (T7.below bs6.size (by simpa using hp))
  clear S6
  go_wp2_with fail
  refine (get_at w7 p _ S7).mono ?_
  rintro e w8 ⟨rfl, B8⟩
  have bs8 := bs7.trans (B8.mono bs7.size)
  go_wp2_with (first
    | ((with_reducible show wpList _ _ _ (⟨some 7, .alloc _, _, _, _, _⟩ :: _) _ _); refine wpList_alloc_blk rfl TO rfl _ zero_out ?_; intro W9 B9 K9 S9; clear S9)
    | ((with_reducible show wpList _ _ _ (⟨none, .store TO (.tmp 7) _, _, _, _, _⟩ :: _) _ _); refine wpList_store_blk rfl TO _ _ rfl w8.heap.size TO zeroO.cells (kindO 3).cells 6 rfl rfl K9 rfl (kindO 3).cellsN info_out ?_; intro Wa Ta Ka Sa; clear Sa; have ca : Wa.cell? ⟨w8.heap.size, 0, none⟩ = some (.int .i64 3) := Ka.cell 0))
  go_ret
  exact ⟨rfl, (bs8.trans (B9.mono bs8.size)).trans (Ta.below (by have := B9.size; have := bs8.size; omega) (by simp; exact bs8.size))⟩
end Go.Proofs.Ytidfgighpdkfaaa.Sl
