/-
  Contracts of package nums (layer 1): each of its six functions answers, for all ints, the document's number: the sum, the difference, the product brought within the range of int; the clamp; the quotient rounded up; the place on a ring. No conditions but that the arguments are ints.
-/
import Derived.Test.YtkbnhkopjiocdaaProg
import Derived.WalkKit
import Derived.WalkLawsBesides
import Derived.Lib.Hide
import Derived.Test.YtkbnhkopjiocdaaMath
namespace Go.Proofs.Ytkbnhkopjiocdaa.Nums
open Go.RowKit

theorem ret_int {k : IntKind} {a b : Int} (h : a = b) : Ending.returned (.int k a) = .returned (.int k b) := by rw [h]

/-- A number brought within the range of int. -/
def sat (x : Int) : Int := if 9223372036854775807 < x then 9223372036854775807 else if x < -9223372036854775808 then -9223372036854775808 else x
/-- What the document calls Clamp, Ceil, Ring. -/
def clamp (n lo hi : Int) : Int := if (if hi < n then hi else n) < lo then lo else (if hi < n then hi else n)
def ceil (a b : Int) : Int := if a < 0 ∨ b < 1 then 0 else a / b + (if 0 < a % b then 1 else 0)
def ring (n s : Int) : Int := if s < 1 then 0 else n % s

theorem add_any (a b : Int) (w : World) (ha : -9223372036854775808 ≤ a) (ha' : a ≤ 9223372036854775807) (hb : -9223372036854775808 ≤ b) (hb' : b ≤ 9223372036854775807) :
    Calls Try.prog 6 #[.int .i64 a, .int .i64 b] w fun e w' => e = .returned (.int .i64 (sat (a + b))) ∧ w = w' := by
  go_enter Try.func6, Try.ntmps6
  go_wp2
  all_goals
    go_ret
    exact ⟨ret_int (by unfold sat; split <;> (try split) <;> omega), rfl⟩

theorem sub_any (a b : Int) (w : World) (ha : -9223372036854775808 ≤ a) (ha' : a ≤ 9223372036854775807) (hb : -9223372036854775808 ≤ b) (hb' : b ≤ 9223372036854775807) :
    Calls Try.prog 8 #[.int .i64 a, .int .i64 b] w fun e w' => e = .returned (.int .i64 (sat (a - b))) ∧ w = w' := by
  go_enter Try.func8, Try.ntmps8
  go_wp2
  all_goals
    go_ret
    exact ⟨ret_int (by unfold sat; split <;> (try split) <;> omega), rfl⟩

theorem clamp_any (n lo hi : Int) (w : World) :
    Calls Try.prog 12 #[.int .i64 n, .int .i64 lo, .int .i64 hi] w fun e w' => e = .returned (.int .i64 (clamp n lo hi)) ∧ w = w' := by
  go_enter Try.func12, Try.ntmps12
  go_wp2
  all_goals
    go_ret
    exact ⟨ret_int (by unfold clamp; omega), rfl⟩

theorem ceil_any (a b : Int) (w : World) (ha' : a ≤ 9223372036854775807) (hb' : b ≤ 9223372036854775807) :
    Calls Try.prog 14 #[.int .i64 a, .int .i64 b] w fun e w' => e = .returned (.int .i64 (ceil a b)) ∧ w = w' := by
  by_cases h1 : a < 0
  · go_enter Try.func14, Try.ntmps14
    go_wp2
    go_ret
    exact ⟨ret_int (by unfold ceil; rw [if_pos (Or.inl h1)]), rfl⟩
  · by_cases h2 : b < 1
    · go_enter Try.func14, Try.ntmps14
      go_wp2
      go_ret
      exact ⟨ret_int (by unfold ceil; rw [if_pos (Or.inr h2)]), rfl⟩
    · have q0 : 0 ≤ a / b := Int.ediv_nonneg (by omega) (by omega)
      have r0 : 0 ≤ a % b := Int.emod_nonneg _ (by omega)
      have hq : a / b + a % b ≤ 9223372036854775807 := by
        have e := Int.mul_ediv_add_emod a b
        have : 1 * (a / b) ≤ b * (a / b) := Int.mul_le_mul_of_nonneg_right (by omega) q0
        omega
      go_enter Try.func14, Try.ntmps14
      go_wp2
      all_goals
        go_ret
        exact ⟨ret_int (by unfold ceil; rw [if_neg (by omega)]; split <;> omega), rfl⟩

theorem ring_any (n s : Int) (w : World) (hs' : s ≤ 9223372036854775807) :
    Calls Try.prog 16 #[.int .i64 n, .int .i64 s] w fun e w' => e = .returned (.int .i64 (ring n s)) ∧ w = w' := by
  by_cases h1 : s < 1
  · go_enter Try.func16, Try.ntmps16
    go_wp2
    go_ret
    exact ⟨ret_int (by unfold ring; rw [if_pos h1]), rfl⟩
  · have t1 := tmod_bd n s (by omega)
    have t2 := ring_of n s (by omega)
    go_enter Try.func16, Try.ntmps16
    go_wp2
    all_goals
      go_ret
      exact ⟨ret_int (by unfold ring; rw [if_neg (by omega)]; omega), rfl⟩

/-! ### The product -/
/-! ### The product -/
theorem ret_bool {a b : Bool} (h : a = b) : Ending.returned (.bool a) = .returned (.bool b) := by rw [h]

theorem fits_any (a b : Int) (w : World) (ha : -9223372036854775808 ≤ a) (ha' : a ≤ 9223372036854775807) (hb : -9223372036854775808 ≤ b) (hb' : b ≤ 9223372036854775807) (b0 : b ≠ 0) (t : Bool)
    (ht : t = true ↔ -9223372036854775808 ≤ a * b ∧ a * b ≤ 9223372036854775807) :
    Calls Try.prog 21 #[.int .i64 a, .int .i64 b] w fun e w' => e = .returned (.bool t) ∧ w = w' := by
  by_cases hm : a = -9223372036854775808
  · subst hm
    by_cases hb1 : b = -1
    · subst hb1
      have HT : Hid (t = false) := Lib.hid (by rw [Bool.eq_false_iff]; intro h; have := ht.1 h; omega)
      clear ht
      go_enter Try.func21, Try.ntmps21
      go_wp2
      go_ret
      exact ⟨ret_bool HT.out.symm, rfl⟩
    · have HF := Lib.hid (fits_iff _ b ha ha' hb hb' b0 (by omega))
      have HT := Lib.hid ht
      clear ht
      go_enter Try.func21, Try.ntmps21
      go_wp2
      go_ret
      exact ⟨ret_bool (by rw [Bool.eq_iff_iff, beq_iff_eq, HF.out, HT.out]), rfl⟩
  · have HF := Lib.hid (fits_iff _ b ha ha' hb hb' b0 (by omega))
    have HT := Lib.hid ht
    clear ht
    go_enter Try.func21, Try.ntmps21
    go_wp2
    go_ret
    exact ⟨ret_bool (by rw [Bool.eq_iff_iff, beq_iff_eq, HF.out, HT.out]), rfl⟩

theorem mul_any (a b : Int) (w : World) (ha : -9223372036854775808 ≤ a) (ha' : a ≤ 9223372036854775807) (hb : -9223372036854775808 ≤ b) (hb' : b ≤ 9223372036854775807) :
    Calls Try.prog 10 #[.int .i64 a, .int .i64 b] w fun e w' => e = .returned (.int .i64 (sat (a * b))) ∧ w = w' := by
  by_cases a0 : a = 0
  · subst a0
    go_enter Try.func10, Try.ntmps10
    go_wp2
    go_ret
    exact ⟨ret_int (by rw [Int.zero_mul]; rfl), rfl⟩
  · by_cases b0 : b = 0
    · subst b0
      go_enter Try.func10, Try.ntmps10
      go_wp2
      go_ret
      exact ⟨ret_int (by rw [Int.mul_zero]; rfl), rfl⟩
    · have z1 : (a == 0) = false := beq_eq_false_iff_ne.2 a0
      have z2 : (b == 0) = false := beq_eq_false_iff_ne.2 b0
      by_cases hin : -9223372036854775808 ≤ a * b ∧ a * b ≤ 9223372036854775807
      · have i1 := hin.1
        have i2 := hin.2
        have HI := Lib.hid hin
        clear hin
        go_enter Try.func10, Try.ntmps10
        go_wp2_with (go_at_call 21; refine (fits_any a b _ ha ha' hb hb' b0 true (iff_of_true rfl HI.out)).mono ?_; rintro e w' ⟨rfl, rfl⟩)
        go_ret
        exact ⟨ret_int (by unfold sat; rw [if_neg (by omega), if_neg (by omega)]), rfl⟩
      · have HI := Lib.hid hin
        clear hin
        by_cases sd : (decide (a < 0) == decide (b < 0)) = true
        · have HS := Lib.hid (sign_same a b a0 b0 sd)
          go_enter Try.func10, Try.ntmps10
          go_wp2_with (go_at_call 21; refine (fits_any a b _ ha ha' hb hb' b0 false (iff_of_false (by decide) HI.out)).mono ?_; rintro e w' ⟨rfl, rfl⟩)
          go_ret
          have hs := HS.out
          have hi := HI.out
          exact ⟨ret_int (by unfold sat; rw [if_pos (by omega)]), rfl⟩
        · have sd := Bool.eq_false_iff.2 sd
          have HS := Lib.hid (sign_other a b a0 b0 sd)
          go_enter Try.func10, Try.ntmps10
          go_wp2_with (go_at_call 21; refine (fits_any a b _ ha ha' hb hb' b0 false (iff_of_false (by decide) HI.out)).mono ?_; rintro e w' ⟨rfl, rfl⟩)
          go_ret
          have hs := HS.out
          have hi := HI.out
          exact ⟨ret_int (by unfold sat; rw [if_neg (by omega), if_pos (by omega)]), rfl⟩

theorem counted_any (w : World) : Calls Try.prog 18 #[] w fun e w' => e = .returned (.bool true) ∧ w = w' := by
  go_enter Try.func18, Try.ntmps18
  go_wp2
  go_ret
  exact ⟨rfl, rfl⟩
end Go.Proofs.Ytkbnhkopjiocdaa.Nums
