/-
  Contracts of package fairwayref01 (the document's answer for layer 1): each of its six functions answers, for all ints, the same number as its namesake of package nums. No conditions but that the arguments are ints.
-/
import Derived.Test.YtkbnhkopjiocdaaNums
namespace Go.Proofs.Ytkbnhkopjiocdaa.Nums
open Go.RowKit

theorem radd_any (a b : Int) (w : World) (ha : -9223372036854775808 ≤ a) (ha' : a ≤ 9223372036854775807) (hb : -9223372036854775808 ≤ b) (hb' : b ≤ 9223372036854775807) :
    Calls Try.prog 7 #[.int .i64 a, .int .i64 b] w fun e w' => e = .returned (.int .i64 (sat (a + b))) ∧ w = w' := by
  go_enter Try.func7, Try.ntmps7
  go_wp2
  all_goals
    go_ret
    exact ⟨ret_int (by unfold sat; split <;> (try split) <;> omega), rfl⟩

theorem rsub_any (a b : Int) (w : World) (ha : -9223372036854775808 ≤ a) (ha' : a ≤ 9223372036854775807) (hb : -9223372036854775808 ≤ b) (hb' : b ≤ 9223372036854775807) :
    Calls Try.prog 9 #[.int .i64 a, .int .i64 b] w fun e w' => e = .returned (.int .i64 (sat (a - b))) ∧ w = w' := by
  go_enter Try.func9, Try.ntmps9
  go_wp2
  all_goals
    go_ret
    exact ⟨ret_int (by unfold sat; split <;> (try split) <;> omega), rfl⟩

theorem rclamp_any (n lo hi : Int) (w : World) :
    Calls Try.prog 13 #[.int .i64 n, .int .i64 lo, .int .i64 hi] w fun e w' => e = .returned (.int .i64 (clamp n lo hi)) ∧ w = w' := by
  go_enter Try.func13, Try.ntmps13
  go_wp2
  all_goals
    go_ret
    exact ⟨ret_int (by unfold clamp; omega), rfl⟩

theorem ceil_eq (a b : Int) (ha : 1 ≤ a) (hb : 1 ≤ b) : ceil a b = (a - 1) / b + 1 := by
  have e := Int.mul_ediv_add_emod a b
  have r0 : 0 ≤ a % b := Int.emod_nonneg _ (by omega)
  have r1 : a % b < b := Int.emod_lt_of_pos _ (by omega)
  unfold ceil
  rw [if_neg (by omega)]
  split
  · have : (a - 1) / b = a / b := by
      rw [show a - 1 = (a % b - 1) + b * (a / b) by omega, Int.add_mul_ediv_left _ _ (by omega), Int.ediv_eq_zero_of_lt (by omega) (by omega)]
      omega
    omega
  · have : (a - 1) / b = a / b - 1 := by
      rw [show a - 1 = (b - 1) + b * (a / b - 1) by rw [Int.mul_sub]; omega, Int.add_mul_ediv_left _ _ (by omega), Int.ediv_eq_zero_of_lt (by omega) (by omega)]
      omega
    omega

theorem rceil_any (a b : Int) (w : World) (ha' : a ≤ 9223372036854775807) (hb' : b ≤ 9223372036854775807) :
    Calls Try.prog 15 #[.int .i64 a, .int .i64 b] w fun e w' => e = .returned (.int .i64 (ceil a b)) ∧ w = w' := by
  by_cases h2 : b < 1
  · go_enter Try.func15, Try.ntmps15
    go_wp2
    go_ret
    exact ⟨ret_int (by unfold ceil; rw [if_pos (Or.inr (by omega))]), rfl⟩
  · by_cases h1 : a < 1
    · go_enter Try.func15, Try.ntmps15
      go_wp2
      go_ret
      refine ⟨ret_int ?_, rfl⟩
      unfold ceil
      by_cases h0 : a < 0
      · rw [if_pos (Or.inl h0)]
      · obtain rfl : a = 0 := by omega
        rw [if_neg (by omega)]; simp
    · have HE := Lib.hid (ceil_eq a b (by omega) (by omega))
      have q0 : 0 ≤ (a - 1) / b := Int.ediv_nonneg (by omega) (by omega)
      have q1 : (a - 1) / b ≤ a - 1 := Int.ediv_le_self _ (by omega)
      go_enter Try.func15, Try.ntmps15
      go_wp2
      go_ret
      exact ⟨ret_int (by rw [HE.out]), rfl⟩

theorem ring_neg (n s : Int) (_hn : n < 0) (hs : 1 ≤ s) : n % s = s - 1 - (-(n + 1)) % s := by
  have r0 : 0 ≤ (-(n + 1)) % s := Int.emod_nonneg _ (by omega)
  have r1 : (-(n + 1)) % s < s := Int.emod_lt_of_pos _ (by omega)
  have e := Int.mul_ediv_add_emod (-(n + 1)) s
  have : n = (s - 1 - (-(n + 1)) % s) + s * (-((-(n + 1)) / s) - 1) := by rw [Int.mul_sub, Int.mul_neg]; omega
  rw [this, Int.add_mul_emod_self_left, Int.emod_eq_of_lt (by omega) (by omega), ← this]

theorem ring_neg' (n s : Int) (hn : n < 0) (hs : 1 ≤ s) : n % s = s - 1 + (n + 1).tmod s ∧ -s < (n + 1).tmod s ∧ (n + 1).tmod s ≤ 0 := by
  have h := ring_neg n s hn hs
  have r0 : 0 ≤ (-(n + 1)) % s := Int.emod_nonneg _ (by omega)
  have r1 : (-(n + 1)) % s < s := Int.emod_lt_of_pos _ (by omega)
  have e : (-(n + 1)).tmod s = (-(n + 1)) % s := Int.tmod_eq_emod_of_nonneg (by omega)
  rw [Int.neg_tmod] at e
  omega

theorem rring_any (n s : Int) (w : World) (hn : -9223372036854775808 ≤ n) (hn' : n ≤ 9223372036854775807) (hs' : s ≤ 9223372036854775807) :
    Calls Try.prog 17 #[.int .i64 n, .int .i64 s] w fun e w' => e = .returned (.int .i64 (ring n s)) ∧ w = w' := by
  by_cases h1 : s < 1
  · go_enter Try.func17, Try.ntmps17
    go_wp2
    go_ret
    exact ⟨ret_int (by unfold ring; rw [if_pos (by omega)]), rfl⟩
  · by_cases h0 : n < 0
    · obtain ⟨he, r1, r0⟩ := ring_neg' n s h0 (by omega)
      have HE := Lib.hid he
      clear he
      go_enter Try.func17, Try.ntmps17
      go_wp2
      go_ret
      exact ⟨ret_int (by unfold ring; rw [if_neg (by omega), HE.out]), rfl⟩
    · go_enter Try.func17, Try.ntmps17
      go_wp2
      go_ret
      exact ⟨ret_int (by unfold ring; rw [if_neg (by omega)]), rfl⟩

/-- The size of a number, without its sign. -/
theorem size_any (n : Int) (w : World) (hn : -9223372036854775808 ≤ n) (hn' : n ≤ 9223372036854775807) :
    Calls Try.prog 22 #[.int .i64 n] w fun e w' => e = .returned (.int .u64 (n.natAbs : Int)) ∧ w = w' := by
  go_enter Try.func22, Try.ntmps22
  go_wp2
  all_goals
    go_ret
    exact ⟨ret_int (by omega), rfl⟩

theorem greatest_any (w : World) : Calls Try.prog 19 #[] w fun e w' => e = .returned (.int .i64 9223372036854775807) ∧ w = w' := by
  go_enter Try.func19, Try.ntmps19
  go_wp2
  go_ret
  exact ⟨rfl, rfl⟩

theorem least_any (w : World) : Calls Try.prog 20 #[] w fun e w' => e = .returned (.int .i64 (-9223372036854775808)) ∧ w = w' := by
  go_enter Try.func20, Try.ntmps20
  go_wp2
  go_ret
  exact ⟨rfl, rfl⟩

theorem size_mul (a b : Int) : (a.natAbs : Int) * (b.natAbs : Int) = (a * b).natAbs := by rw [Int.natAbs_mul]; rfl

theorem over_iff (x y M : Int) (hx : 1 ≤ x) : M / x < y ↔ M < x * y := by
  rw [Int.ediv_lt_iff_lt_mul (by omega), Int.mul_comm]

theorem prod_minus (a b : Int) (h : (!decide (a < 0) == decide (b < 0)) = true) : a * b = -((a.natAbs : Int) * (b.natAbs : Int)) := by
  rw [Bool.not_eq_true', beq_eq_false_iff_ne, ne_eq, decide_eq_decide] at h
  by_cases sa : a < 0
  · have := Int.ofNat_natAbs_of_nonpos (a := a) (by omega)
    rw [this, Int.natAbs_of_nonneg (by omega), Int.neg_mul, Int.neg_neg]
  · have := Int.ofNat_natAbs_of_nonpos (a := b) (by omega)
    rw [this, Int.natAbs_of_nonneg (by omega), Int.mul_neg, Int.neg_neg]

theorem prod_plus (a b : Int) (h : (!decide (a < 0) == decide (b < 0)) = false) : a * b = (a.natAbs : Int) * (b.natAbs : Int) := by
  rw [Bool.not_eq_false', beq_iff_eq, decide_eq_decide] at h
  by_cases sa : a < 0
  · have h1 := Int.ofNat_natAbs_of_nonpos (a := a) (by omega)
    have h2 := Int.ofNat_natAbs_of_nonpos (a := b) (by omega)
    rw [h1, h2, Int.neg_mul_neg]
  · rw [Int.natAbs_of_nonneg (by omega), Int.natAbs_of_nonneg (by omega)]

/-- The product by sizes. -/
theorem rmul_any (a b : Int) (w : World) (ha : -9223372036854775808 ≤ a) (ha' : a ≤ 9223372036854775807) (hb : -9223372036854775808 ≤ b) (hb' : b ≤ 9223372036854775807) :
    Calls Try.prog 11 #[.int .i64 a, .int .i64 b] w fun e w' => e = .returned (.int .i64 (sat (a * b))) ∧ w = w' := by
  by_cases a0 : a = 0
  · subst a0
    have HZ : Hid (sat (0 * b) = 0) := Lib.hid (by rw [Int.zero_mul]; rfl)
    go_enter Try.func11, Try.ntmps11
    go_wp2_with (first | (go_at_call 22; refine (size_any _ _ (by omega) (by omega)).mono ?_; rintro e w' ⟨rfl, rfl⟩) | (go_at_call 19; refine (greatest_any _).mono ?_; rintro e w' ⟨rfl, rfl⟩) | (go_at_call 20; refine (least_any _).mono ?_; rintro e w' ⟨rfl, rfl⟩))
    all_goals
      go_ret
      exact ⟨ret_int (by first | rfl | exact HZ.out.symm), rfl⟩
  · have h0 : 0 ≤ (a.natAbs : Int) * (b.natAbs : Int) := Int.mul_nonneg (by omega) (by omega)
    have na : ((a.natAbs : Int) != 0) = true := by rw [bne_iff_ne]; omega
    by_cases sd : (!decide (a < 0) == decide (b < 0)) = true
    · have HP := Lib.hid (prod_minus a b sd)
      by_cases hin : (a.natAbs : Int) * (b.natAbs : Int) ≤ 9223372036854775808
      · have h1 : (b.natAbs : Int) ≤ 9223372036854775808 / (a.natAbs : Int) := Int.not_lt.1 fun h => absurd ((over_iff _ _ _ (by omega)).1 h) (by omega)
        go_enter Try.func11, Try.ntmps11
        go_wp2_with (first | (go_at_call 22; refine (size_any _ _ (by omega) (by omega)).mono ?_; rintro e w' ⟨rfl, rfl⟩) | (go_at_call 19; refine (greatest_any _).mono ?_; rintro e w' ⟨rfl, rfl⟩) | (go_at_call 20; refine (least_any _).mono ?_; rintro e w' ⟨rfl, rfl⟩))
        all_goals
          go_ret
          exact ⟨ret_int (by rw [HP.out]; unfold sat; rw [if_neg (by omega), if_neg (by omega)]; omega), rfl⟩
      · have h1 : 9223372036854775808 / (a.natAbs : Int) < (b.natAbs : Int) := (over_iff _ _ _ (by omega)).2 (by omega)
        go_enter Try.func11, Try.ntmps11
        go_wp2_with (first | (go_at_call 22; refine (size_any _ _ (by omega) (by omega)).mono ?_; rintro e w' ⟨rfl, rfl⟩) | (go_at_call 19; refine (greatest_any _).mono ?_; rintro e w' ⟨rfl, rfl⟩) | (go_at_call 20; refine (least_any _).mono ?_; rintro e w' ⟨rfl, rfl⟩))
        all_goals
          go_ret
          exact ⟨ret_int (by rw [HP.out]; unfold sat; rw [if_neg (by omega), if_pos (by omega)]), rfl⟩
    · have sd := Bool.eq_false_iff.2 sd
      have HP := Lib.hid (prod_plus a b sd)
      by_cases hin : (a.natAbs : Int) * (b.natAbs : Int) ≤ 9223372036854775807
      · have h1 : (b.natAbs : Int) ≤ 9223372036854775807 / (a.natAbs : Int) := Int.not_lt.1 fun h => absurd ((over_iff _ _ _ (by omega)).1 h) (by omega)
        go_enter Try.func11, Try.ntmps11
        go_wp2_with (first | (go_at_call 22; refine (size_any _ _ (by omega) (by omega)).mono ?_; rintro e w' ⟨rfl, rfl⟩) | (go_at_call 19; refine (greatest_any _).mono ?_; rintro e w' ⟨rfl, rfl⟩) | (go_at_call 20; refine (least_any _).mono ?_; rintro e w' ⟨rfl, rfl⟩))
        all_goals
          go_ret
          exact ⟨ret_int (by rw [HP.out]; unfold sat; rw [if_neg (by omega), if_neg (by omega)]), rfl⟩
      · have h1 : 9223372036854775807 / (a.natAbs : Int) < (b.natAbs : Int) := (over_iff _ _ _ (by omega)).2 (by omega)
        go_enter Try.func11, Try.ntmps11
        go_wp2_with (first | (go_at_call 22; refine (size_any _ _ (by omega) (by omega)).mono ?_; rintro e w' ⟨rfl, rfl⟩) | (go_at_call 19; refine (greatest_any _).mono ?_; rintro e w' ⟨rfl, rfl⟩) | (go_at_call 20; refine (least_any _).mono ?_; rintro e w' ⟨rfl, rfl⟩))
        all_goals
          go_ret
          exact ⟨ret_int (by rw [HP.out]; unfold sat; rw [if_pos (by omega)]), rfl⟩
end Go.Proofs.Ytkbnhkopjiocdaa.Nums
