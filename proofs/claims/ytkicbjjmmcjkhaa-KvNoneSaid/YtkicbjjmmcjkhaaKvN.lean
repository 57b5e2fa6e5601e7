/-
  Contracts of package kv (layer 10): stores that are none (nil, or not made by New). Conditions: those that each names.
-/
import Derived.Test.YtkicbjjmmcjkhaaKvD
namespace Go.Proofs.Ytkicbjjmmcjkhaa.Kv
open Go.RowKit Go.Proofs.Ytkicbjjmmcjkhaa.Mem Go.Proofs.Ytkicbjjmmcjkhaa.Ops

/-- The zero cells of a Store. -/
def zeroS : List Value := [.map none]
/-- A store that is nil, or that New did not make. -/
def NoS (w : World) (v : Value) : Prop := v = .pointer none ∨ ∃ p, v = ptr p ∧ Blk w p TS zeroS
theorem NoS.below {w w' : World} {v : Value} (h : NoS w v) (hb : Below w.heap.size w w') : NoS w' v := h.imp id (fun ⟨p, e, k⟩ => ⟨p, e, k.below hb k.lt⟩)
theorem nos_nil (w : World) : NoS w (.pointer none) := .inl rfl
theorem nos_zero (w : World) (p : Nat) (h : Blk w p TS zeroS) : NoS w (ptr p) := .inr ⟨p, rfl, h⟩
set_option maxRecDepth 100000
theorem none_no (w : World) (v : Value) (h : NoS w v) : Calls Try.prog 20 #[v] w fun e w' => e = .returned (.bool true) ∧ w' = w := by
  rcases h with rfl | ⟨p, rfl, h⟩
  · go_enter Try.func20, Try.ntmps20
    go_wp2_with fail
    go_ret
    exact ⟨rfl, rfl⟩
  · have c0 : w.cell? ⟨p, 0, none⟩ = some (.map none) := h.cell 0
    have e0 := eq_map0
    go_enter Try.func20, Try.ntmps20
    go_wp2_with fail
    go_ret
    exact ⟨rfl, rfl⟩
theorem look_no (w : World) (v : Value) (h : NoS w v) (key : List UInt8) (n : Int) : Calls Try.prog 10 #[v, .string ⟨key.toArray⟩, .int .i64 n] w fun e w' => e = .returned (.agg zeroR.cells.toArray) ∧ Below w.heap.size w w' := by
  obtain ⟨d, hd, hdr⟩ := row_res
  replace hd := Lib.hid hd
  replace h := Lib.hid h
  go_enter Try.func10, Try.ntmps10
  go_wp2_with (first
    | ((with_reducible show wpList _ _ _ (⟨some 6, .alloc _, _, _, _, _⟩ :: _) _ _); refine wpList_alloc_blk rfl TR rfl _ zero_res ?_; intro w1 hn K1 S1; clear S1; have N1 := Lib.hid (none_no _ v (h.out.below hn)))
    | (go_at_call 20; refine N1.out.mono ?_; rintro e w2 ⟨rfl, rfl⟩)
    | ((with_reducible show wpList _ _ _ (⟨none, .store TR (.tmp 6) _, _, _, _, _⟩ :: _) _ _); refine wpList_store_blk rfl TR _ _ rfl w.heap.size TR zeroR.cells zeroR.cells 4 rfl rfl K1 rfl (Rs.cellsN _) info_res ?_; intro w9 T9 K9 S9; clear S9))
  exact bodyPost_ret (results_cell1 (b := w.heap.size) (o := 0) (cs := zeroR.cells) Try.results10 rfl K9.rangeAll hd.out hdr info_res) rfl ⟨rfl, hn.trans (T9.below hn.size (by simp))⟩
theorem apply_no (w : World) (v : Value) (h : NoS w v) (n : Int) (o : O) : Calls Try.prog 12 #[v, .int .i64 n, .agg o.cells.toArray] w fun e w' => e = .returned (.agg zeroR.cells.toArray) ∧ Below w.heap.size w w' := by
  obtain ⟨d, hd, hdr⟩ := row_res
  replace hd := Lib.hid hd
  replace h := Lib.hid h
  go_enter Try.func12, Try.ntmps12
  go_wp2_with (first
    | ((with_reducible show wpList _ _ _ (⟨some 5, .box _ _, _, _, _, _⟩ :: _) _ _); refine wpList_box_blk rfl TO _ rfl o.cells rfl ?_; intro w0 hn0 K0 S0; clear S0 K0; replace h := Lib.hid (h.out.below hn0))
    | ((with_reducible show wpList _ _ _ (⟨some 6, .alloc _, _, _, _, _⟩ :: _) _ _); refine wpList_alloc_blk rfl TR rfl _ zero_res ?_; intro w1 hn K1 S1; clear S1; have N1 := Lib.hid (none_no _ v (h.out.below hn)); have hB := bel hn0 hn; have lo6 := hn0.size; clear hn hn0; generalize w0.heap.size = b6 at *)
    | (go_at_call 20; refine N1.out.mono ?_; rintro e w2 ⟨rfl, rfl⟩)
    | ((with_reducible show wpList _ _ _ (⟨none, .store TR (.tmp 6) _, _, _, _, _⟩ :: _) _ _); refine wpList_store_blk rfl TR _ _ rfl b6 TR zeroR.cells zeroR.cells 4 rfl rfl K1 rfl (Rs.cellsN _) info_res ?_; intro w9 T9 K9 S9; clear S9))
  exact bodyPost_ret (results_cell1 (b := b6) (o := 0) (cs := zeroR.cells) Try.results12 rfl K9.rangeAll hd.out hdr info_res) rfl ⟨rfl, hB.trans (T9.below hB.size (by simp; omega))⟩
theorem size_no (w : World) (v : Value) (h : NoS w v) : Calls Try.prog 16 #[v] w fun e w' => e = .returned (.int .i64 0) ∧ Below w.heap.size w w' := by
  have N := Lib.hid (none_no w v h)
  clear h
  go_enter Try.func16, Try.ntmps16
  go_wp2_with (go_at_call 20; refine N.out.mono ?_; rintro e w2 ⟨rfl, rfl⟩)
  go_ret
  exact ⟨rfl, Below.refl _ _⟩
theorem keys_no (w : World) (v : Value) (h : NoS w v) : Calls Try.prog 17 #[v] w fun e w' => (∃ ao cap, e = .returned (.slice ao 0 cap)) ∧ Below w.heap.size w w' := by
  have N := Lib.hid (none_no w v h)
  clear h
  go_enter Try.func17, Try.ntmps17
  go_wp2_with (go_at_call 20; refine N.out.mono ?_; rintro e w2 ⟨rfl, rfl⟩)
  go_ret
  exact ⟨⟨_, _, rfl⟩, Below.refl _ _⟩
theorem copy_no (w : World) (v : Value) (h : NoS w v) : Calls Try.prog 9 #[v] w fun e w' => e = .returned (.pointer none) ∧ Below w.heap.size w w' := by
  have N := Lib.hid (none_no w v h)
  clear h
  go_enter Try.func9, Try.ntmps9
  go_wp2_with (go_at_call 20; refine N.out.mono ?_; rintro e w2 ⟨rfl, rfl⟩)
  go_ret
  exact ⟨rfl, Below.refl _ _⟩
theorem same_nn (w : World) (v u : Value) (h : NoS w v) (k : NoS w u) : Calls Try.prog 15 #[v, u] w fun e w' => e = .returned (.bool true) ∧ Below w.heap.size w w' := by
  have N := Lib.hid (none_no w v h)
  have N2 := Lib.hid (none_no w u k)
  clear h k
  go_enter Try.func15, Try.ntmps15
  go_wp2_with (first
    | (go_at_call 20; (with_reducible refine N.out.mono ?_); rintro e w2 ⟨rfl, rfl⟩)
    | (go_at_call 20; (with_reducible refine N2.out.mono ?_); rintro e w2 ⟨rfl, rfl⟩))
  go_ret
  exact ⟨rfl, Below.refl _ _⟩
theorem same_no (w : World) (v : Value) (h : NoS w v) (p m : Nat) (L : List C) (k : StAt w p m L) : Calls Try.prog 15 #[v, ptr p] w fun e w' => e = .returned (.bool false) ∧ Below w.heap.size w w' := by
  have N := Lib.hid (none_no w v h)
  have N2 := Lib.hid (none_at w p m L k)
  clear h k
  go_enter Try.func15, Try.ntmps15
  go_wp2_with (first
    | (go_at_call 20; (with_reducible refine N.out.mono ?_); rintro e w2 ⟨rfl, rfl⟩)
    | (go_at_call 20; (with_reducible refine N2.out.mono ?_); rintro e w2 ⟨rfl, rfl⟩))
  go_ret
  exact ⟨rfl, Below.refl _ _⟩
end Go.Proofs.Ytkicbjjmmcjkhaa.Kv
