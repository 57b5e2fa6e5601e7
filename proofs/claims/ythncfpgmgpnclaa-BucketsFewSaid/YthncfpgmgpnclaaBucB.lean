/-
  Contracts of package buckets (layer 5): Take, Left, Copy, New; and buckets that are none. Conditions: a bucket in memory that New made.
-/
import Derived.Test.YthncfpgmgpnclaaBucA
namespace Go.Proofs.Ythncfpgmgpnclaa.Buc
open Go.RowKit Go.Proofs.Ythncfpgmgpnclaa.Mem

theorem left_at (w : World) (p : Nat) (v : V) (h : BAt w p v) (now : Int) : Calls Try.prog 9 #[.pointer (some ⟨p, 0, none⟩), .int .i64 now] w (BMut p w (.int .i64 (v.bring now).m) (v.bring now)) := by
  have F := Lib.hid (bring_at w p v h now)
  have N := Lib.hid (none_at w p v h)
  clear h
  go_enter Try.func9, Try.ntmps9
  go_wp2_with (first
    | (go_at_call 14; refine N.out.mono ?_; rintro e w1 ⟨rfl, rfl⟩)
    | (go_at_call 15; refine F.out.mono ?_; rintro e w2 ⟨rfl, R, T⟩; have c2 : w2.cell? ⟨p, 2, none⟩ = some (.int .i64 (v.bring now).m) := R.blk.cell 2; replace R := Lib.hid R))
  go_ret
  exact ⟨rfl, R.out, T⟩
theorem take_at (w : World) (p : Nat) (v : V) (h : BAt w p v) (now : Int) : Calls Try.prog 12 #[.pointer (some ⟨p, 0, none⟩), .int .i64 now] w (BMut p w (.bool (v.takes now)) (v.take now)) := by
  have F := Lib.hid (left_at w p v h now)
  clear h
  by_cases hz : (v.bring now).m = 0
  · have tz : ((v.bring now).m == 0) = true := by simpa using hz
    rw [show v.takes now = false by simp [V.takes, hz], show v.take now = v.bring now from if_pos hz]
    replace hz := Lib.hid hz
    go_enter Try.func12, Try.ntmps12
    go_wp2_with ((go_at_call 9; refine F.out.mono ?_; rintro e w2 ⟨rfl, R, T⟩; have c2 : w2.cell? ⟨p, 2, none⟩ = some (.int .i64 (v.bring now).m) := R.blk.cell 2; replace R := Lib.hid R))
    go_ret
    exact ⟨rfl, R.out, T⟩
  · have tz : ((v.bring now).m == 0) = false := by simpa using hz
    have ok := V.ok_bring (v := v)
    rw [show v.takes now = true by simp [V.takes, hz], show v.take now = (v.bring now).less from if_neg hz]
    go_enter Try.func12, Try.ntmps12
    go_wp2_with ((go_at_call 9; refine F.out.mono ?_; rintro e w2 ⟨rfl, R, T⟩; have c2 : w2.cell? ⟨p, 2, none⟩ = some (.int .i64 (v.bring now).m) := R.blk.cell 2; have f2 := R.blk.free 2; have m0 := R.ok.m0; have m1 := R.ok.m1; have m2 := R.ok.c1; replace R := Lib.hid R))
    go_ret
    exact ⟨rfl, ⟨R.out.blk.set 2 (.int .i64 ((v.bring now).m - 1)), V.ok_less R.out.ok hz⟩, turned_setCell T (by simp) _ _⟩
theorem zero_buc : ∀ w, (zeroValue TB).run Try.prog w = .ok (.agg [nI 0, nI 0, nI 0, nI 0, nI 0].toArray) w := fun w => by kernel_rfl
theorem info_buc : (Try.prog.info? TB).map (·.size) = some 5 := by kernel_rfl
theorem row_buc : ∃ d, Try.prog.underlying TB = some d ∧ d.isRow = true := ⟨_, Try.underlying38, rfl⟩
theorem cellsN_buc (v : V) : CellsN 5 [nI v.c, nI v.r, nI v.m, nI v.t, nI v.s].toArray := ⟨rfl, all_oneCell_toArray (by simp [nI, Value.oneCell'])⟩
def CopyP (w : World) (v : V) (e : Ending) (w' : World) : Prop := ∃ p, e = .returned (.pointer (some ⟨p, 0, none⟩)) ∧ BAt w' p v ∧ w.heap.size ≤ p ∧ Below w.heap.size w w'
theorem copy_at (w : World) (p : Nat) (v : V) (h : BAt w p v) : Calls Try.prog 11 #[.pointer (some ⟨p, 0, none⟩)] w (CopyP w v) := by
  obtain ⟨d, hd, hdr⟩ := row_buc
  have K := Lib.hid h.blk
  have ok := Lib.hid h.ok
  have F := Lib.hid (none_at w p v h)
  replace hd := Lib.hid hd
  clear h
  go_enter Try.func11, Try.ntmps11
  go_wp2_with (first
    | (go_at_call 14; refine F.out.mono ?_; rintro e w2 ⟨rfl, rfl⟩)
    | ((with_reducible show wpList _ _ _ (⟨_, .load TB _, _, _, _, _⟩ :: _) _ _); refine wpList_load_blk rfl TB _ rfl p TB [nI v.c, nI v.r, nI v.m, nI v.t, nI v.s] d rfl K.out hd.out hdr info_buc ?_)
    | ((with_reducible show wpList _ _ _ (⟨_, .alloc _, _, _, _, _⟩ :: _) _ _); refine wpList_alloc_blk rfl TB rfl _ zero_buc ?_; intro W3 B3 K3 S3; clear S3)
    | ((with_reducible show wpList _ _ _ (⟨none, .store TB _ _, _, _, _, _⟩ :: _) _ _); refine wpList_store_blk rfl TB _ _ rfl w2.heap.size TB _ [nI v.c, nI v.r, nI v.m, nI v.t, nI v.s] 5 rfl rfl K3 rfl (cellsN_buc v) info_buc ?_; intro W4 T4 K4 S4; clear S4))
  go_ret
  exact ⟨_, rfl, ⟨K4, ok.out⟩, Nat.le_refl _, B3.trans (T4.below (by have := B3.size; omega) (by simp))⟩
theorem new_bad (w : World) (c r : Int) (h : good c r = false) : Calls Try.prog 7 #[.int .i64 c, .int .i64 r] w fun e w' => e = .returned (.tuple #[.pointer none, .int .i64 2]) ∧ w' = w := by
  have hn : ¬ (0 ≤ c ∧ c ≤ 16 ∧ 1 ≤ r ∧ r ≤ 1099511627776) := fun hc => by rw [good_iff.2 hc] at h; cases h
  replace hn := Lib.hid hn
  clear h
  go_enter Try.func7, Try.ntmps7
  go_wp2
  all_goals first | (go_ret2; exact ⟨rfl, rfl⟩) | (exfalso; have := hn.out; omega)
def NewP (w : World) (v : V) (e : Ending) (w' : World) : Prop := ∃ p, e = .returned (.tuple #[.pointer (some ⟨p, 0, none⟩), .int .i64 0]) ∧ BAt w' p v ∧ w.heap.size ≤ p ∧ Below w.heap.size w w'
theorem new_good (w : World) (c r : Int) (h : good c r = true) : Calls Try.prog 7 #[.int .i64 c, .int .i64 r] w (NewP w (v0 c r)) := by
  have ok := Lib.hid (ok_v0 h)
  obtain ⟨h1, h2, h3, h4⟩ := good_iff.1 h
  clear h
  go_enter Try.func7, Try.ntmps7
  go_wp2_with ((with_reducible show wpList _ _ _ (⟨_, .box _ _, _, _, _, _⟩ :: _) _ _); refine wpList_box_blk rfl TB _ rfl [nI c, nI r, nI c, nI 0, nI 0] rfl ?_; intro W1 B1 K1 S1; clear S1)
  go_ret2
  exact ⟨_, rfl, ⟨K1, ok.out⟩, Nat.le_refl _, B1⟩

/-- A bucket that is nil, or that New did not make. -/
def NoB (w : World) (v : Value) : Prop := v = .pointer none ∨ ∃ p, v = .pointer (some ⟨p, 0, none⟩) ∧ w.cell? ⟨p, 1, none⟩ = some (.int .i64 0)
section
variable (w : World) (v : Value) (h : NoB w v)
include h
theorem none_no : Calls Try.prog 14 #[v] w fun e w' => e = .returned (.bool true) ∧ w' = w := by
  rcases h with rfl | ⟨p, rfl, h⟩
  · go_enter Try.func14, Try.ntmps14
    go_wp2
    go_ret
    exact ⟨rfl, rfl⟩
  · go_enter Try.func14, Try.ntmps14
    go_wp2
    go_ret
    exact ⟨rfl, rfl⟩
theorem left_no (now : Int) : Calls Try.prog 9 #[v, .int .i64 now] w fun e w' => e = .returned (.int .i64 0) ∧ w' = w := by
  have N := Lib.hid (none_no w v h)
  clear h
  go_enter Try.func9, Try.ntmps9
  go_wp2_with (go_at_call 14; refine N.out.mono ?_; rintro e w2 ⟨rfl, rfl⟩)
  go_ret
  exact ⟨rfl, rfl⟩
theorem take_no (now : Int) : Calls Try.prog 12 #[v, .int .i64 now] w fun e w' => e = .returned (.bool false) ∧ w' = w := by
  have N := Lib.hid (left_no w v h now)
  clear h
  go_enter Try.func12, Try.ntmps12
  go_wp2_with (go_at_call 9; refine N.out.mono ?_; rintro e w2 ⟨rfl, rfl⟩)
  go_ret
  exact ⟨rfl, rfl⟩
theorem copy_no : Calls Try.prog 11 #[v] w fun e w' => e = .returned (.pointer none) ∧ w' = w := by
  have N := Lib.hid (none_no w v h)
  clear h
  go_enter Try.func11, Try.ntmps11
  go_wp2_with (go_at_call 14; refine N.out.mono ?_; rintro e w2 ⟨rfl, rfl⟩)
  go_ret
  exact ⟨rfl, rfl⟩
end
end Go.Proofs.Ythncfpgmgpnclaa.Buc
