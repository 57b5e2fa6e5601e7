/-
  What the laws of layer 10 call besides: stored (the chapter's store), Great, Alike. Conditions: those that each names.
-/
import Derived.Test.YtkicbjjmmcjkhaaKvN
import Derived.Test.YtkicbjjmmcjkhaaResEq
import Derived.Test.YtkicbjjmmcjkhaaOpsG
import Derived.Test.YtkicbjjmmcjkhaaQuiet
import Derived.Deep.LoopGhost
namespace Go.Proofs.Ytkicbjjmmcjkhaa.Kv
open Go.RowKit Go.Proofs.Ytkicbjjmmcjkhaa.Mem Go.Proofs.Ytkicbjjmmcjkhaa.Ops
set_option maxRecDepth 100000

attribute [local go_sem ↓] execLoadR
theorem step0 (w : World) (p m : Nat) (h : StAt w p m []) : Calls Try.prog 12 #[ptr p, .int .i64 1, .agg (O.mk 2 [107] [118] 0).cells.toArray] w fun e w' => e = .returned (.agg ((⟨1, [], 1, 1⟩ : Rs)).cells.toArray) ∧ StAt w' p m [⟨[107], [118], 1⟩] ∧ Turned [m] w w' :=
  apply_at w p m [] h (by decide) 1 ⟨2, [107], [118], 0⟩
theorem step1 (w : World) (p m : Nat) (h : StAt w p m [⟨[107], [118], 1⟩]) : Calls Try.prog 12 #[ptr p, .int .i64 2, .agg (O.mk 4 [107] [119] 0).cells.toArray] w fun e w' => e = .returned (.agg ((⟨3, [118], 1, 2⟩ : Rs)).cells.toArray) ∧ StAt w' p m [⟨[107], [118], 1⟩] ∧ Turned [m] w w' :=
  apply_at w p m [⟨[107], [118], 1⟩] h (by decide) 2 ⟨4, [107], [119], 0⟩
theorem step2 (w : World) (p m : Nat) (h : StAt w p m [⟨[107], [118], 1⟩]) : Calls Try.prog 12 #[ptr p, .int .i64 2, .agg (O.mk 4 [107] [119] 1).cells.toArray] w fun e w' => e = .returned (.agg ((⟨1, [], 2, 2⟩ : Rs)).cells.toArray) ∧ StAt w' p m [⟨[107], [119], 2⟩] ∧ Turned [m] w w' :=
  apply_at w p m [⟨[107], [118], 1⟩] h (by decide) 2 ⟨4, [107], [119], 1⟩
theorem step3 (w : World) (p m : Nat) (h : StAt w p m [⟨[107], [119], 2⟩]) : Calls Try.prog 10 #[ptr p, .string ⟨#[107]⟩, .int .i64 7] w fun e w' => e = .returned (.agg ((⟨1, [119], 2, 7⟩ : Rs)).cells.toArray) ∧ StAt w' p m [⟨[107], [119], 2⟩] ∧ Turned [m] w w' :=
  (look_at w p m [⟨[107], [119], 2⟩] h [107] (by decide) 7).mono fun _ _ ⟨he, hb⟩ => ⟨he, h.keep (Turned.of_below hb) (by simp) (by simp), (Turned.of_below hb).mono (by simp)⟩
theorem step4 (w : World) (p m : Nat) (h : StAt w p m [⟨[107], [119], 2⟩]) : Calls Try.prog 12 #[ptr p, .int .i64 3, .agg (O.mk 3 [107] [] 0).cells.toArray] w fun e w' => e = .returned (.agg ((⟨1, [], 0, 3⟩ : Rs)).cells.toArray) ∧ StAt w' p m [] ∧ Turned [m] w w' :=
  apply_at w p m [⟨[107], [119], 2⟩] h (by decide) 3 ⟨3, [107], [], 0⟩
theorem step5 (w : World) (p m : Nat) (h : StAt w p m []) : Calls Try.prog 12 #[ptr p, .int .i64 4, .agg (O.mk 3 [107] [] 0).cells.toArray] w fun e w' => e = .returned (.agg ((⟨2, [], 0, 4⟩ : Rs)).cells.toArray) ∧ StAt w' p m [] ∧ Turned [m] w w' :=
  apply_at w p m [] h (by decide) 4 ⟨3, [107], [], 0⟩
set_option maxHeartbeats 2000000 in
theorem stored_any (w : World) : Calls Try.prog 7 #[] w fun e w' => e = .returned (.bool true) ∧ Below w.heap.size w w' := by
  have q0 : ∀ w, (binOp .eql TR (.agg #[.int .i64 1, .string ⟨#[]⟩, .int .i64 1, .int .i64 1]) (.agg #[.int .i64 1, .string ⟨#[]⟩, .int .i64 1, .int .i64 1])).run Try.prog w = .ok (.bool true) w := eql_res (⟨1, [], 1, 1⟩ : Rs)
  have u0 : ∀ op x y w, (eqGuard op TR x y (.agg #[.int .i64 1, .string ⟨#[]⟩, .int .i64 1, .int .i64 1]) (.agg #[.int .i64 1, .string ⟨#[]⟩, .int .i64 1, .int .i64 1])).run Try.prog w = .ok () w := fun op x y => guard_res op x y (⟨1, [], 1, 1⟩ : Rs)
  have q1 : ∀ w, (binOp .eql TR (.agg #[.int .i64 3, .string ⟨#[118]⟩, .int .i64 1, .int .i64 2]) (.agg #[.int .i64 3, .string ⟨#[118]⟩, .int .i64 1, .int .i64 2])).run Try.prog w = .ok (.bool true) w := eql_res (⟨3, [118], 1, 2⟩ : Rs)
  have u1 : ∀ op x y w, (eqGuard op TR x y (.agg #[.int .i64 3, .string ⟨#[118]⟩, .int .i64 1, .int .i64 2]) (.agg #[.int .i64 3, .string ⟨#[118]⟩, .int .i64 1, .int .i64 2])).run Try.prog w = .ok () w := fun op x y => guard_res op x y (⟨3, [118], 1, 2⟩ : Rs)
  have q2 : ∀ w, (binOp .eql TR (.agg #[.int .i64 1, .string ⟨#[]⟩, .int .i64 2, .int .i64 2]) (.agg #[.int .i64 1, .string ⟨#[]⟩, .int .i64 2, .int .i64 2])).run Try.prog w = .ok (.bool true) w := eql_res (⟨1, [], 2, 2⟩ : Rs)
  have u2 : ∀ op x y w, (eqGuard op TR x y (.agg #[.int .i64 1, .string ⟨#[]⟩, .int .i64 2, .int .i64 2]) (.agg #[.int .i64 1, .string ⟨#[]⟩, .int .i64 2, .int .i64 2])).run Try.prog w = .ok () w := fun op x y => guard_res op x y (⟨1, [], 2, 2⟩ : Rs)
  have q3 : ∀ w, (binOp .eql TR (.agg #[.int .i64 1, .string ⟨#[119]⟩, .int .i64 2, .int .i64 7]) (.agg #[.int .i64 1, .string ⟨#[119]⟩, .int .i64 2, .int .i64 7])).run Try.prog w = .ok (.bool true) w := eql_res (⟨1, [119], 2, 7⟩ : Rs)
  have u3 : ∀ op x y w, (eqGuard op TR x y (.agg #[.int .i64 1, .string ⟨#[119]⟩, .int .i64 2, .int .i64 7]) (.agg #[.int .i64 1, .string ⟨#[119]⟩, .int .i64 2, .int .i64 7])).run Try.prog w = .ok () w := fun op x y => guard_res op x y (⟨1, [119], 2, 7⟩ : Rs)
  have q4 : ∀ w, (binOp .eql TR (.agg #[.int .i64 1, .string ⟨#[]⟩, .int .i64 0, .int .i64 3]) (.agg #[.int .i64 1, .string ⟨#[]⟩, .int .i64 0, .int .i64 3])).run Try.prog w = .ok (.bool true) w := eql_res (⟨1, [], 0, 3⟩ : Rs)
  have u4 : ∀ op x y w, (eqGuard op TR x y (.agg #[.int .i64 1, .string ⟨#[]⟩, .int .i64 0, .int .i64 3]) (.agg #[.int .i64 1, .string ⟨#[]⟩, .int .i64 0, .int .i64 3])).run Try.prog w = .ok () w := fun op x y => guard_res op x y (⟨1, [], 0, 3⟩ : Rs)
  have q5 : ∀ w, (binOp .eql TR (.agg #[.int .i64 2, .string ⟨#[]⟩, .int .i64 0, .int .i64 4]) (.agg #[.int .i64 2, .string ⟨#[]⟩, .int .i64 0, .int .i64 4])).run Try.prog w = .ok (.bool true) w := eql_res (⟨2, [], 0, 4⟩ : Rs)
  have u5 : ∀ op x y w, (eqGuard op TR x y (.agg #[.int .i64 2, .string ⟨#[]⟩, .int .i64 0, .int .i64 4]) (.agg #[.int .i64 2, .string ⟨#[]⟩, .int .i64 0, .int .i64 4])).run Try.prog w = .ok () w := fun op x y => guard_res op x y (⟨2, [], 0, 4⟩ : Rs)
  go_enter Try.func7, Try.ntmps7
  go_wp2_with (first
    | (go_at_call 8; refine (new_any _).mono ?_; rintro e w1 ⟨p, m, rfl, hS, hp, hm, hn⟩; have HK := (Kept.start w).below hn; have lt0 := hS.lt; replace HK := Lib.hid HK; have hS0 := Lib.hid hS; clear hn hS)
    | (go_at_call 12; refine (step0 _ p m hS0.out).mono ?_; rintro e wa0 ⟨rfl, hS', hT'⟩; replace HK := Lib.hid (HK.out.turned hT' (by omega) (by simp <;> omega)); have hS1 := Lib.hid hS'; have sa0 := hT'.size; clear hS' hT' hS0)
    | ((with_reducible show wpList _ _ _ (⟨some 2, .alloc _, _, _, _, _⟩ :: _) _ _); refine wpList_alloc_blk rfl TR rfl _ zero_res ?_; intro wb0 B2 K2 S2; clear S2; have lb0 := K2.lt; replace HK := Lib.hid (HK.out.below B2); replace hS1 := Lib.hid (hS1.out.keep (Turned.of_below B2) (by simp) (by simp)); clear B2)
    | ((with_reducible show wpList _ _ _ (⟨none, .store TR (.tmp 2) _, _, _, _, _⟩ :: _) _ _); refine wpList_store_blk rfl TR _ _ rfl wa0.heap.size TR zeroR.cells ((⟨1, [], 1, 1⟩ : Rs)).cells 4 rfl rfl K2 rfl (Rs.cellsN _) info_res ?_; intro wc0 T6 K6 S6; clear S6; have lc0 := K6.lt; replace HK := Lib.hid ((HK.out.turned T6 (by omega) (by simp <;> omega)).add K6); replace hS1 := Lib.hid (hS1.out.keep T6 (by simp <;> omega) (by simp <;> omega)); clear K2 K6 T6)
    | (go_at_call 12; refine (step1 _ p m hS1.out).mono ?_; rintro e wa1 ⟨rfl, hS', hT'⟩; replace HK := Lib.hid (HK.out.turned hT' (by omega) (by simp <;> omega)); have hS2 := Lib.hid hS'; have sa1 := hT'.size; clear hS' hT' hS1)
    | ((with_reducible show wpList _ _ _ (⟨some 3, .alloc _, _, _, _, _⟩ :: _) _ _); refine wpList_alloc_blk rfl TR rfl _ zero_res ?_; intro wb1 B2 K2 S2; clear S2; have lb1 := K2.lt; replace HK := Lib.hid (HK.out.below B2); replace hS2 := Lib.hid (hS2.out.keep (Turned.of_below B2) (by simp) (by simp)); clear B2)
    | ((with_reducible show wpList _ _ _ (⟨none, .store TR (.tmp 3) _, _, _, _, _⟩ :: _) _ _); refine wpList_store_blk rfl TR _ _ rfl wa1.heap.size TR zeroR.cells ((⟨3, [118], 1, 2⟩ : Rs)).cells 4 rfl rfl K2 rfl (Rs.cellsN _) info_res ?_; intro wc1 T6 K6 S6; clear S6; have lc1 := K6.lt; replace HK := Lib.hid ((HK.out.turned T6 (by omega) (by simp <;> omega)).add K6); replace hS2 := Lib.hid (hS2.out.keep T6 (by simp <;> omega) (by simp <;> omega)); clear K2 K6 T6)
    | (go_at_call 12; refine (step2 _ p m hS2.out).mono ?_; rintro e wa2 ⟨rfl, hS', hT'⟩; replace HK := Lib.hid (HK.out.turned hT' (by omega) (by simp <;> omega)); have hS3 := Lib.hid hS'; have sa2 := hT'.size; clear hS' hT' hS2)
    | ((with_reducible show wpList _ _ _ (⟨some 4, .alloc _, _, _, _, _⟩ :: _) _ _); refine wpList_alloc_blk rfl TR rfl _ zero_res ?_; intro wb2 B2 K2 S2; clear S2; have lb2 := K2.lt; replace HK := Lib.hid (HK.out.below B2); replace hS3 := Lib.hid (hS3.out.keep (Turned.of_below B2) (by simp) (by simp)); clear B2)
    | ((with_reducible show wpList _ _ _ (⟨none, .store TR (.tmp 4) _, _, _, _, _⟩ :: _) _ _); refine wpList_store_blk rfl TR _ _ rfl wa2.heap.size TR zeroR.cells ((⟨1, [], 2, 2⟩ : Rs)).cells 4 rfl rfl K2 rfl (Rs.cellsN _) info_res ?_; intro wc2 T6 K6 S6; clear S6; have lc2 := K6.lt; replace HK := Lib.hid ((HK.out.turned T6 (by omega) (by simp <;> omega)).add K6); replace hS3 := Lib.hid (hS3.out.keep T6 (by simp <;> omega) (by simp <;> omega)); clear K2 K6 T6)
    | (go_at_call 10; refine (step3 _ p m hS3.out).mono ?_; rintro e wa3 ⟨rfl, hS', hT'⟩; replace HK := Lib.hid (HK.out.turned hT' (by omega) (by simp <;> omega)); have hS4 := Lib.hid hS'; have sa3 := hT'.size; clear hS' hT' hS3)
    | ((with_reducible show wpList _ _ _ (⟨some 5, .alloc _, _, _, _, _⟩ :: _) _ _); refine wpList_alloc_blk rfl TR rfl _ zero_res ?_; intro wb3 B2 K2 S2; clear S2; have lb3 := K2.lt; replace HK := Lib.hid (HK.out.below B2); replace hS4 := Lib.hid (hS4.out.keep (Turned.of_below B2) (by simp) (by simp)); clear B2)
    | ((with_reducible show wpList _ _ _ (⟨none, .store TR (.tmp 5) _, _, _, _, _⟩ :: _) _ _); refine wpList_store_blk rfl TR _ _ rfl wa3.heap.size TR zeroR.cells ((⟨1, [119], 2, 7⟩ : Rs)).cells 4 rfl rfl K2 rfl (Rs.cellsN _) info_res ?_; intro wc3 T6 K6 S6; clear S6; have lc3 := K6.lt; replace HK := Lib.hid ((HK.out.turned T6 (by omega) (by simp <;> omega)).add K6); replace hS4 := Lib.hid (hS4.out.keep T6 (by simp <;> omega) (by simp <;> omega)); clear K2 K6 T6)
    | (go_at_call 12; refine (step4 _ p m hS4.out).mono ?_; rintro e wa4 ⟨rfl, hS', hT'⟩; replace HK := Lib.hid (HK.out.turned hT' (by omega) (by simp <;> omega)); have hS5 := Lib.hid hS'; have sa4 := hT'.size; clear hS' hT' hS4)
    | ((with_reducible show wpList _ _ _ (⟨some 6, .alloc _, _, _, _, _⟩ :: _) _ _); refine wpList_alloc_blk rfl TR rfl _ zero_res ?_; intro wb4 B2 K2 S2; clear S2; have lb4 := K2.lt; replace HK := Lib.hid (HK.out.below B2); replace hS5 := Lib.hid (hS5.out.keep (Turned.of_below B2) (by simp) (by simp)); clear B2)
    | ((with_reducible show wpList _ _ _ (⟨none, .store TR (.tmp 6) _, _, _, _, _⟩ :: _) _ _); refine wpList_store_blk rfl TR _ _ rfl wa4.heap.size TR zeroR.cells ((⟨1, [], 0, 3⟩ : Rs)).cells 4 rfl rfl K2 rfl (Rs.cellsN _) info_res ?_; intro wc4 T6 K6 S6; clear S6; have lc4 := K6.lt; replace HK := Lib.hid ((HK.out.turned T6 (by omega) (by simp <;> omega)).add K6); replace hS5 := Lib.hid (hS5.out.keep T6 (by simp <;> omega) (by simp <;> omega)); clear K2 K6 T6)
    | (go_at_call 12; refine (step5 _ p m hS5.out).mono ?_; rintro e wa5 ⟨rfl, hS', hT'⟩; replace HK := Lib.hid (HK.out.turned hT' (by omega) (by simp <;> omega)); have hS6 := Lib.hid hS'; have sa5 := hT'.size; clear hS' hT' hS5)
    | ((with_reducible show wpList _ _ _ (⟨some 7, .alloc _, _, _, _, _⟩ :: _) _ _); refine wpList_alloc_blk rfl TR rfl _ zero_res ?_; intro wb5 B2 K2 S2; clear S2; have lb5 := K2.lt; replace HK := Lib.hid (HK.out.below B2); replace hS6 := Lib.hid (hS6.out.keep (Turned.of_below B2) (by simp) (by simp)); clear B2)
    | ((with_reducible show wpList _ _ _ (⟨none, .store TR (.tmp 7) _, _, _, _, _⟩ :: _) _ _); refine wpList_store_blk rfl TR _ _ rfl wa5.heap.size TR zeroR.cells ((⟨2, [], 0, 4⟩ : Rs)).cells 4 rfl rfl K2 rfl (Rs.cellsN _) info_res ?_; intro wc5 T6 K6 S6; clear S6; have lc5 := K6.lt; replace HK := Lib.hid ((HK.out.turned T6 (by omega) (by simp <;> omega)).add K6); replace hS6 := Lib.hid (hS6.out.keep T6 (by simp <;> omega) (by simp <;> omega)); clear K2 K6 T6; have r0 : ldRun Try.prog TR wc5 (.pointer (some ⟨wa0.heap.size, 0, none⟩)) = .ok (.value (.agg #[.int .i64 1, .string ⟨#[]⟩, .int .i64 1, .int .i64 1])) wc5 := ldR (HK.out.blk (b := wa0.heap.size) (T := TR) (cs := ((⟨1, [], 1, 1⟩ : Rs)).cells) (by simp)); have r1 : ldRun Try.prog TR wc5 (.pointer (some ⟨wa1.heap.size, 0, none⟩)) = .ok (.value (.agg #[.int .i64 3, .string ⟨#[118]⟩, .int .i64 1, .int .i64 2])) wc5 := ldR (HK.out.blk (b := wa1.heap.size) (T := TR) (cs := ((⟨3, [118], 1, 2⟩ : Rs)).cells) (by simp)); have r2 : ldRun Try.prog TR wc5 (.pointer (some ⟨wa2.heap.size, 0, none⟩)) = .ok (.value (.agg #[.int .i64 1, .string ⟨#[]⟩, .int .i64 2, .int .i64 2])) wc5 := ldR (HK.out.blk (b := wa2.heap.size) (T := TR) (cs := ((⟨1, [], 2, 2⟩ : Rs)).cells) (by simp)); have r3 : ldRun Try.prog TR wc5 (.pointer (some ⟨wa3.heap.size, 0, none⟩)) = .ok (.value (.agg #[.int .i64 1, .string ⟨#[119]⟩, .int .i64 2, .int .i64 7])) wc5 := ldR (HK.out.blk (b := wa3.heap.size) (T := TR) (cs := ((⟨1, [119], 2, 7⟩ : Rs)).cells) (by simp)); have r4 : ldRun Try.prog TR wc5 (.pointer (some ⟨wa4.heap.size, 0, none⟩)) = .ok (.value (.agg #[.int .i64 1, .string ⟨#[]⟩, .int .i64 0, .int .i64 3])) wc5 := ldR (HK.out.blk (b := wa4.heap.size) (T := TR) (cs := ((⟨1, [], 0, 3⟩ : Rs)).cells) (by simp)); have r5 : ldRun Try.prog TR wc5 (.pointer (some ⟨wa5.heap.size, 0, none⟩)) = .ok (.value (.agg #[.int .i64 2, .string ⟨#[]⟩, .int .i64 0, .int .i64 4])) wc5 := ldR (HK.out.blk (b := wa5.heap.size) (T := TR) (cs := ((⟨2, [], 0, 4⟩ : Rs)).cells) (by simp)))
    | fail)
  go_ret
  exact ⟨rfl, HK.out.ends⟩

/-- An act. -/
structure A where
  kind : Int
  idx : Int
  op : O
def A.cells (a : A) : List Value := .int .u8 a.kind :: .int .i64 a.idx :: a.op.cells
def actTy : Ty := .pair (.int .u8) (.pair (.int .i64) (.pair opTy .unit))
theorem A.cellsN (a : A) : CellsN 6 a.cells.toArray := ⟨rfl, all_oneCell_toArray (by simp [A.cells, O.cells, Value.oneCell'])⟩
theorem act_fits {w : World} {cs : List Value} (f : Fits w actTy cs) : ∃ a : A, cs = a.cells ∧ (0 ≤ a.kind ∧ a.kind ≤ 255) := by
  obtain ⟨_, _, rfl, ⟨a, rfl, ha⟩, _, _, rfl, ⟨b, rfl, _⟩, _, _, rfl, ho, rfl⟩ := f
  obtain ⟨o, rfl⟩ := op_fits ho
  exact ⟨⟨a, b, o⟩, by simp [A.cells], by have := bounds_u8 ha; simp; omega⟩
/-- The acts g 0, g 1 .. lie in a slice. -/
def ActsAt (w : World) (ao : Option Addr) (ln : Nat) (g : Nat → A) : Prop := ∀ i, i < ln → ∃ b off, ao = some ⟨b, off, none⟩ ∧ b < w.heap.size ∧ w.rangeAt b (off + i * 6) (g i).cells
theorem acts_fits {w : World} {ao : Option Addr} {ln cp : Nat} (f : Fits w (.slice actTy) [.slice ao ln cp]) : ln ≤ cp ∧ (cp : Int) ≤ 9223372036854775807 ∧ ∃ g : Nat → A, ActsAt w ao ln g ∧ ∀ i, i < ln → 0 ≤ (g i).kind ∧ (g i).kind ≤ 255 := by
  rcases f with f | ⟨a, len, cap, f, h1, h2, h3⟩
  · simp at f
    obtain ⟨rfl, rfl, rfl⟩ := f
    exact ⟨Nat.le_refl _, by omega, fun _ => ⟨0, 0, zeroO⟩, (fun i hi => by omega), fun i hi => by omega⟩
  · simp at f
    obtain ⟨rfl, rfl, rfl⟩ := f
    have hex : ∀ i, i < ln → ∃ x : A, (∃ b off, some a = some ⟨b, off, none⟩ ∧ b < w.heap.size ∧ w.rangeAt b (off + i * 6) x.cells) ∧ 0 ≤ x.kind ∧ x.kind ≤ 255 := by
      intro i hi
      obtain ⟨b, o, sp⟩ := a
      obtain ⟨hs, es, hl, hr, hf⟩ := h3 i hi
      simp only at hs hr
      subst hs
      obtain ⟨x, rfl, hx⟩ := act_fits hf
      exact ⟨x, ⟨b, o, rfl, World.block_lt_of_cell? w _ (hr 0 _ rfl), hr⟩, hx⟩
    refine ⟨h1, by unfold maxLen at h2; omega, fun i => if h : i < ln then Classical.choose (hex i h) else ⟨0, 0, zeroO⟩, fun i hi => ?_, fun i hi => ?_⟩
    · simp only [dif_pos hi]
      exact (Classical.choose_spec (hex i hi)).1
    · simp only [dif_pos hi]
      exact (Classical.choose_spec (hex i hi)).2
theorem ActsAt.below {w w' : World} {ao : Option Addr} {ln : Nat} {g : Nat → A} (h : ActsAt w ao ln g) (hb : Below w.heap.size w w') : ActsAt w' ao ln g := fun i hi => by
  obtain ⟨b, off, e, h1, h2⟩ := h i hi
  exact ⟨b, off, e, Nat.lt_of_lt_of_le h1 hb.size, rangeAt_below h2 hb (fun _ => h1)⟩
theorem range_op {w : World} {b off : Nat} {a : A} (h : w.rangeAt b off a.cells) : w.rangeAt b (off + 2) a.op.cells := fun j u hu => by
  have := h (j + 2) u (by simpa [A.cells] using hu)
  rw [← this]
  congr 2
  omega
def greatF (g : Nat → A) (k : Nat) : Bool := (List.range k).any fun i => (g i).op.great
theorem greatF_next (g : Nat → A) (k : Nat) : greatF g (k + 1) = (greatF g k || (g k).op.great) := by simp [greatF, List.range_succ]
theorem greatF_hit {g : Nat → A} {k ln : Nat} (hk : k < ln) (h : (g k).op.great = true) : greatF g ln = true := by
  unfold greatF
  exact List.any_eq_true.2 ⟨k, List.mem_range.2 hk, h⟩
theorem greatF_no {g : Nat → A} {ln : Nat} (h : greatF g ln = false) {i : Nat} (hi : i < ln) : (g i).op.great = false := by
  cases e : (g i).op.great with
  | false => rfl
  | true => rw [greatF_hit hi e] at h; cases h
def greatL (g : Nat → A) (ln : Nat) (most : Int) : Bool := greatF g ln || decide (most < ln)
set_option maxHeartbeats 1000000 in
theorem greatL_any (w : World) (ao : Option Addr) (ln cp : Nat) (g : Nat → A) (h : ActsAt w ao ln g) (most : Int) (hl : (ln : Int) ≤ 9223372036854775807) :
    Calls Try.prog 6 #[.slice ao ln cp, .int .i64 most] w fun e w' => e = .returned (.bool (greatL g ln most)) ∧ Below w.heap.size w w' := by
  obtain ⟨d, hd, hdr⟩ := row_op
  replace hd := Lib.hid hd
  replace h := Lib.hid h
  go_enter Try.func6, Try.ntmps6
  go_wp2_with fail
  go_loopg [5] (ln + 1) (fun gk i wr => ∃ k : Nat, gk = ln + 1 - k ∧ k ≤ ln ∧ i = .int .i64 (k : Int) ∧ Below w.heap.size w wr ∧ Hid (greatF g k = false))
  case atStart => exact ⟨0, rfl, Nat.zero_le _, rfl, Below.refl _ _, Lib.hid rfl⟩
  case round =>
    obtain ⟨k, hg, hk, rfl, hB, hf⟩ := hrel
    replace hg := Lib.hid hg
    by_cases hlt : k < ln
    · obtain ⟨b, off, rfl, hb, hr⟩ := h.out.below hB k hlt
      have hr2 := range_op hr
      have hkk : (k : Int) < (ln : Int) := by omega
      have GR := Lib.hid (great_any (g k).op)
      have hfn := greatF_next g k
      rw [hf.out, Bool.false_or] at hfn
      replace hr2 := Lib.hid hr2
      clear hr hf
      cases hgr : (g k).op.great with
      | true =>
        have hhit := Lib.hid (show greatL g ln most = true by unfold greatL; rw [greatF_hit hlt hgr]; rfl)
        rw [hgr] at GR
        clear hgr hfn
        go_wp2_with (first
          | ((with_reducible show wpList _ _ _ (⟨_, .load TO _, _, _, _, _⟩ :: _) _ _); refine wpList_load_mid rfl TO _ rfl b (off + k * 6 + 2) rfl (g k).op.cells d hr2.out hd.out hdr info_op ?_)
          | (go_at_call 19; refine (GR.out _).mono ?_; rintro e w2 ⟨rfl, hn⟩; replace hB := bel hB hn; clear hn))
        go_ret
        exact ⟨ret_bool hhit.out.symm, hB⟩
      | false =>
        rw [hgr] at GR hfn
        replace hfn := Lib.hid hfn
        clear hgr
        go_wp2_with (first
          | ((with_reducible show wpList _ _ _ (⟨_, .load TO _, _, _, _, _⟩ :: _) _ _); refine wpList_load_mid rfl TO _ rfl b (off + k * 6 + 2) rfl (g k).op.cells d hr2.out hd.out hdr info_op ?_)
          | (go_at_call 19; refine (GR.out _).mono ?_; rintro e w2 ⟨rfl, hn⟩; replace hB := bel hB hn; clear hn))
        go_roundg (ln + 1 - (k + 1))
        case measure => have := hg.out; omega
        case rel => exact ⟨k + 1, rfl, by omega, by go_num, hB, hfn⟩
    · obtain rfl : k = ln := by omega
      have hfin := Lib.hid (show greatL g k most = decide (most < (k : Int)) by unfold greatL; rw [hf.out]; rfl)
      clear hf
      go_wp2_with fail
      go_ret
      exact ⟨ret_bool hfin.out.symm, hB⟩

theorem owned_form {w : World} {base : Nat} {v : Value} {n : Nat} {xs : List Value} {T : TypeId} (h : w.ownsRow base T 1 v n xs) : ∃ ao cap, v = .slice ao n cap ∧ (0 < n → ∃ g, ao = some ⟨g, 0, none⟩) ∧ n ≤ cap := by
  rcases h.2 with ⟨rfl, h0⟩ | ⟨g, cap, cur, rfl, h1, h2, h3, h4, h5, h6⟩
  · exact ⟨none, 0, by rw [h0], fun h => by omega, by omega⟩
  · exact ⟨_, cap, rfl, fun _ => ⟨g, rfl⟩, h3⟩
theorem owned_lt {w : World} {base : Nat} {v : Value} {n : Nat} {xs : List Value} {T : TypeId} (h : w.ownsRow base T 1 v n xs) : ∀ k, v.ownBlock = some k → k < w.heap.size := fun k hk => by
  rcases h.2 with ⟨rfl, _⟩ | ⟨g, cap, cur, rfl, _, h2, _⟩
  · simp [Value.ownBlock] at hk
  · simp [Value.ownBlock] at hk
    subst hk
    exact lt_of_block h2
theorem owned_below {w w' : World} {base : Nat} {v : Value} {n : Nat} {xs : List Value} {T : TypeId} (h : w.ownsRow base T 1 v n xs) (hb : Below w.heap.size w w') : w'.ownsRow base T 1 v n xs := by
  refine ⟨h.1, h.2.imp id ?_⟩
  rintro ⟨g, cap, cur, h1, h2, h3, h4⟩
  exact ⟨g, cap, cur, h1, h2, (hb.block g (lt_of_block h3)).trans h3, h4⟩
theorem keyR_get {L : List C} {k : Nat} {c : C} (h : L[k]? = some c) : (keyR L)[k]? = some (.string ⟨c.key.toArray⟩) := by simp [keyR, h]
set_option maxHeartbeats 1000000 in
/-- A store that has just these cells. -/
theorem alike_any (w : World) (p m : Nat) (L : List C) (hS : StAt w p m L) (base : Nat) (v : Value) (hM : CsO w base v L) (hl : L.length ≤ 1000000) :
    Calls Try.prog 14 #[ptr p, v] w fun e w' => e = .returned (.bool true) ∧ Below w.heap.size w w' := by
  obtain ⟨ao, cap, hv, _, _, hnil, hat⟩ := hM.form
  replace hat := Lib.hid hat
  replace hnil := Lib.hid hnil
  have SZ := Lib.hid (fun w1 (h : StAt w1 p m L) => size_at w1 p m L h)
  have KY := Lib.hid (fun w1 (h : StAt w1 p m L) => keys_at w1 p m L h)
  have stb : ∀ {w1 w2 : World}, StAt w1 p m L → Below w1.heap.size w1 w2 → StAt w2 p m L := fun h b => h.keep (Turned.of_below b) (by simp) (by simp)
  replace stb := Lib.hid (fun w1 w2 => @stb w1 w2)
  subst hv
  go_enter Try.func14, Try.ntmps14
  go_wp2_with (first
    | (go_at_call 17; refine (KY.out _ hS).mono ?_; rintro e w1 ⟨kv, rfl, hK, hn⟩; have hB := hn; have hS1 := Lib.hid (stb.out _ _ hS hn); have ko := owned_lt hK; obtain ⟨ak, kc, rfl, hk1, hk2⟩ := owned_form hK; replace hK := Lib.hid hK; clear hn)
    | (go_at_call 16; refine (SZ.out _ hS1.out).mono ?_; rintro e w2 ⟨rfl, hn⟩; have hB2 := bel hB hn; have hS2 := Lib.hid (stb.out _ _ hS1.out hn); replace hK := Lib.hid (owned_below hK.out hn); clear hn))
  go_loopg [6] (L.length + 1) (fun g i wr => ∃ k : Nat, g = L.length + 1 - k ∧ k ≤ L.length ∧ i = .int .i64 (k : Int) ∧ Below w2.heap.size w2 wr)
  case atStart => exact ⟨0, rfl, Nat.zero_le _, rfl, Below.refl _ _⟩
  case round =>
    obtain ⟨k, hg, hk, rfl, hBr⟩ := hrel
    replace hg := Lib.hid hg
    by_cases hlt : k < L.length
    · obtain ⟨c, hc⟩ : ∃ c, L[k]? = some c := ⟨_, List.getElem?_eq_getElem hlt⟩
      have hkk : (k : Int) < (L.length : Int) := by omega
      obtain ⟨a, rfl⟩ : ∃ a, ao = some a := by
        cases ao with
        | none => have := (hnil.out rfl).1; rw [this] at hlt; simp at hlt
        | some a => exact ⟨a, rfl⟩
      obtain ⟨g, rfl, _, hgl, hgr⟩ := hat.out a rfl
      obtain ⟨kg, rfl⟩ := hk1 (by omega)
      have f1 := range_key (rangeAt_below (range_at hgr hc) hB2 (fun _ => hgl))
      have f2 : w2.cell? ⟨kg, k, none⟩ = some (.string ⟨c.key.toArray⟩) := by rw [hK.out.cellAt k (by omega), keyR_get hc]
      have hM2 := hM.below hB2
      obtain ⟨S, s0, sK, sB⟩ : ∃ S : World → Prop, S wr.drew ∧ (∀ W, S W → Below w2.heap.size w2 W) ∧ (∀ W W', S W → Below W.heap.size W W' → S W') := ⟨fun W => Below w2.heap.size w2 W, ⟨hBr.os, hBr.tape, hBr.output, hBr.size, hBr.block⟩, fun _ h => h, fun _ _ h hb => bel h hb⟩
      haveI : Nonempty (Wd S) := ⟨⟨_, s0⟩⟩
      have g1 : ∀ q : Wd S, q.w.cell? ⟨g, k * 3, none⟩ = some (.string ⟨c.key.toArray⟩) := fun q => ((sK _ q.h).cell (p := ⟨g, k * 3, none⟩) (World.block_lt_of_cell? _ _ f1)).trans f1
      have g2 : ∀ q : Wd S, q.w.cell? ⟨kg, k, none⟩ = some (.string ⟨c.key.toArray⟩) := fun q => ((sK _ q.h).cell (p := ⟨kg, k, none⟩) (World.block_lt_of_cell? _ _ f2)).trans f2
      have g3 : (c.key == c.key) = true := by simp
      have hck : c.key.length ≤ 1000000 := by have := hS.keys c (List.mem_of_getElem? hc); omega
      have LP := Lib.hid (fun q : Wd S => look_at q.w p m L (stb.out _ _ hS2.out (sK _ q.h)) c.key hck 7)
      have LR := Lib.hid (fun q : Wd S => rlook_any q.w base _ L (hM2.below (sK _ q.h)) c.key 7 hl)
      have e1 := neq_res (look L c.key 7)
      have e2 := fun op x y => guard_res op x y (look L c.key 7)
      unfold LookP at LR
      clear f1 f2 hgr hM2 hnil hat hk1 hc
      replace sK := Lib.hid sK
      replace sB := Lib.hid sB
      generalize look L c.key 7 = R at *
      go_wp2_with fail
      refine wp_region_wd S s0 (by kernel_rfl) (by kernel_rfl) ?_
      repeat (go_big_quiet_step (first | exact Wd.call (LP.out _) sB.out | exact Wd.call (LR.out _) sB.out))
      refine wpQuiet_nil ?_
      rintro _ ⟨q, rfl⟩
      have hBq := sK.out _ q.h
      generalize q.w = W9 at *
      clear g1 g2 e1 e2
      go_wp2_with fail
      go_roundg (L.length + 1 - (k + 1))
      case measure => have := hg.out; omega
      case rel => exact ⟨k + 1, rfl, by omega, by go_num, hBq⟩
    · obtain rfl : k = L.length := by omega
      go_wp2_with fail
      go_ret
      exact ⟨rfl, bel hB2 hBr⟩
end Go.Proofs.Ytkicbjjmmcjkhaa.Kv
