/-
  Contracts of package rings (layer 3): rings that are none.
-/
import Derived.Test.YtgboealiclcgkaaRingsE
namespace Go.Proofs.Ytgboealiclcgkaa.Rings
open Go.RowKit Go.Proofs.Ytgboealiclcgkaa.Mem
attribute [local go_sem ↓] execLoadF
attribute [local go_sem] loadF

/-- A ring that is nil, or has no places. -/
def NoR (w : World) (v : Value) : Prop := v = .pointer none ∨ ∃ p ao c, v = .pointer (some ⟨p, 0, none⟩) ∧ w.cell? ⟨p, 0, none⟩ = some (.slice ao 0 c)
theorem NoR.below {w w' : World} {v : Value} (h : NoR w v) (hb : Below w.heap.size w w') : NoR w' v := by
  rcases h with rfl | ⟨p, ao, c, rfl, h⟩
  · exact .inl rfl
  · exact .inr ⟨p, ao, c, rfl, (hb.cell (World.block_lt_of_cell? w _ h)).trans h⟩
def NoP (w : World) (e : Ending) (w' : World) : Prop := e = .returned (.tuple #[.agg zeroC.toArray, .bool false]) ∧ Below w.heap.size w w'

section
variable (w : World) (v : Value) (h : NoR w v)
include h
theorem none_no : Calls Try.prog 24 #[v] w fun e w' => e = .returned (.bool true) ∧ w' = w := by
  rcases h with rfl | ⟨p, ao, c, rfl, h⟩
  · exact none_nil w
  · exact none_zero w p ao c h
theorem len_no : Calls Try.prog 21 #[v] w fun e w' => e = .returned (.int .i64 0) ∧ w' = w := by
  have N := Lib.hid (none_no w v h)
  clear h
  go_enter Try.func21, Try.ntmps21
  go_wp2_with (go_at_call 24; refine N.out.mono ?_; rintro e w2 ⟨rfl, rfl⟩)
  go_ret
  exact ⟨rfl, rfl⟩
theorem cap_no : Calls Try.prog 22 #[v] w fun e w' => e = .returned (.int .i64 0) ∧ w' = w := by
  have N := Lib.hid (none_no w v h)
  clear h
  go_enter Try.func22, Try.ntmps22
  go_wp2_with (go_at_call 24; refine N.out.mono ?_; rintro e w2 ⟨rfl, rfl⟩)
  go_ret
  exact ⟨rfl, rfl⟩
theorem clear_no : Calls Try.prog 15 #[v] w fun e w' => e = .returned (.tuple #[]) ∧ w' = w := by
  have N := Lib.hid (none_no w v h)
  clear h
  go_enter Try.func15, Try.ntmps15
  go_wp2_with (go_at_call 24; refine N.out.mono ?_; rintro e w2 ⟨rfl, rfl⟩)
  refine bodyPost_ret (results_none rfl _ _ _) rfl ?_
  exact ⟨rfl, rfl⟩
theorem copy_no : Calls Try.prog 16 #[v] w fun e w' => e = .returned (.pointer none) ∧ w' = w := by
  have N := Lib.hid (none_no w v h)
  clear h
  go_enter Try.func16, Try.ntmps16
  go_wp2_with (go_at_call 24; refine N.out.mono ?_; rintro e w2 ⟨rfl, rfl⟩)
  go_ret
  exact ⟨rfl, rfl⟩
theorem push_no (fc : List Value) : Calls Try.prog 17 #[v, .agg fc.toArray] w fun e w' => e = .returned (.bool false) ∧ Below w.heap.size w w' := by
  have hB : Below w.heap.size w (w.alloc (.cells fc.toArray 42)) := (Below.refl _ _).alloc (Nat.le_refl _) _
  have N := fun k => none_no ((w.alloc (.cells fc.toArray 42)).drewN k) v (h.below (below_drewN hB k))
  replace N := Lib.hid N
  replace hB := Lib.hid hB
  clear h
  go_enter Try.func17, Try.ntmps17
  go_wp2_with fail
  go_quiet ((go_at_call 24; exact Calls.quiet_of_same (N.out _)))
  go_wp2
  go_ret
  exact ⟨rfl, below_drewN hB.out _⟩
set_option maxRecDepth 100000 in
theorem at_no (i : Int) : Calls Try.prog 14 #[v, .int .i64 i] w (NoP w) := by
  obtain ⟨W, hW, hbW, hb3, ht3, HF, hcell⟩ := zero_new w
  rw [zero_lit] at hW
  have N := Lib.hid (none_no W v (h.below hbW))
  replace ht3 := Lib.hid ht3
  replace HF := Lib.hid HF
  replace hbW := Lib.hid hbW
  clear hcell hb3 h
  go_enter Try.func14, Try.ntmps14
  go_wp2_with fail
  rw [← hW]
  clear hW
  refine N.out.mono ?_
  rintro e w2 ⟨rfl, rfl⟩
  go_wp2_with ((with_reducible show wpList _ _ _ (⟨none, .store 42 _ _, _, _, _, _⟩ :: _) _ _); refine wpList_store_mid rfl 42 _ _ rfl w.heap.size 0 zeroC.toArray rfl rfl ht3.out info_frame (fr_cellsN (zero_at w) zero_ok).2 ?_)
  obtain ⟨d, hd, hdr⟩ := row_frame
  exact bodyPost_ret (results_cell2 (b := w.heap.size) (o := 0) (cs := zeroC) Try.results14 rfl HF.out.rangeAll hd hdr info_frame) rfl ⟨rfl, below_set hbW.out (Nat.le_refl _) _ _⟩
set_option maxRecDepth 100000 in
theorem front_no : Calls Try.prog 12 #[v] w (NoP w) := by
  obtain ⟨W, hW, hbW, hb3, -, -, -⟩ := zero_new w
  rw [zero_lit] at hW
  have N := at_no W v (h.below hbW) 0
  replace N := Lib.hid N
  replace hb3 := Lib.hid hb3
  replace hbW := Lib.hid hbW
  clear h
  go_enter Try.func12, Try.ntmps12
  go_wp2_with fail
  rw [← hW]
  clear hW
  refine N.out.mono ?_
  rintro e w2 ⟨rfl, hB2⟩
  have hb4 := hb3.out.below hB2 hb3.out.lt
  go_wp2_with ((with_reducible show wpList _ _ _ (⟨none, .store 42 _ _, _, _, _, _⟩ :: _) _ _); refine wpList_store_blk rfl 42 _ _ rfl w.heap.size 42 zeroC zeroC 29 rfl rfl hb4 rfl (fr_cellsN (zero_at w) zero_ok) info_frame ?_; intro w4 T4 K4 S4; clear S4)
  obtain ⟨d, hd, hdr⟩ := row_frame
  exact bodyPost_ret (results_cell2 (b := w.heap.size) (o := 0) (cs := zeroC) Try.results12 rfl K4.rangeAll hd hdr info_frame) rfl ⟨rfl, (hbW.out.trans (hB2.mono hbW.out.size)).trans (T4.below (Nat.le_trans hbW.out.size hB2.size) (by simp))⟩
set_option maxRecDepth 100000 in
theorem pop_no : Calls Try.prog 10 #[v] w (NoP w) := by
  obtain ⟨W, hW, hbW, hb3, -, -, -⟩ := zero_new w
  rw [zero_lit] at hW
  have N := front_no W v (h.below hbW)
  replace N := Lib.hid N
  replace hb3 := Lib.hid hb3
  replace hbW := Lib.hid hbW
  clear h
  obtain ⟨d, hd, hdr⟩ := row_frame
  replace hd := Lib.hid hd
  go_enter Try.func10, Try.ntmps10
  go_wp2_with fail
  rw [← hW]
  clear hW
  refine N.out.mono ?_
  rintro e w2 ⟨rfl, hB2⟩
  have hb4 := hb3.out.below hB2 hb3.out.lt
  go_wp2_with (first
    | ((with_reducible show wpList _ _ _ (⟨none, .store 42 _ (.tmp 7), _, _, _, _⟩ :: _) _ _); refine wpList_store_blk rfl 42 _ _ rfl w.heap.size 42 zeroC zeroC 29 rfl rfl hb4 rfl (fr_cellsN (zero_at w) zero_ok) info_frame ?_; intro w4 T4 K4 S4; clear S4)
    | ((with_reducible show wpList _ _ _ (⟨_, .load 42 _, _, _, _, _⟩ :: _) _ _); refine wpList_load_blk rfl 42 _ rfl w.heap.size 42 zeroC d rfl K4 hd.out hdr info_frame ?_)
    | ((with_reducible show wpList _ _ _ (⟨none, .store 42 _ (.tmp 11), _, _, _, _⟩ :: _) _ _); refine wpList_store_blk rfl 42 _ _ rfl w.heap.size 42 zeroC zeroC 29 rfl rfl K4 rfl (fr_cellsN (zero_at w) zero_ok) info_frame ?_; intro w5 T5 K5 S5; clear S5))
  exact bodyPost_ret (results_cell2 (b := w.heap.size) (o := 0) (cs := zeroC) Try.results10 rfl K5.rangeAll hd.out hdr info_frame) rfl ⟨rfl, ((hbW.out.trans (hB2.mono hbW.out.size)).trans (T4.below (Nat.le_trans hbW.out.size hB2.size) (by simp))).trans (T5.below (Nat.le_trans (Nat.le_trans hbW.out.size hB2.size) T4.size) (by simp))⟩
end
end Go.Proofs.Ytgboealiclcgkaa.Rings
