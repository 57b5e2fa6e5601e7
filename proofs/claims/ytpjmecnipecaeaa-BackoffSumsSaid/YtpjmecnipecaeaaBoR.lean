/-
  Gaps and their sums as numbers; contracts of the document's answer (fairwayref06): Gap, Sum. Conditions: none.
-/
import Derived.Test.YtpjmecnipecaeaaProg
import Derived.WalkKit
import Derived.Lib.Hide
import Derived.Deep.LoopGhost
namespace Go.Proofs.Ytpjmecnipecaeaa.Bo
open Go.RowKit

theorem ret_int {a b : Int} (h : a = b) : Ending.returned (.int .i64 a) = .returned (.int .i64 b) := by rw [h]
def cl (m : Int) : Int := min (max m 0) 64
def pw (k : Int) : Int := if k ≤ 1 then 1 else if k = 2 then 2 else if k = 3 then 4 else if k = 4 then 8 else if k = 5 then 16 else if k = 6 then 32 else 64
/-- How long is waited behind k tries. -/
def gap (k m : Int) : Int := if k < 1 then 0 else min (pw k) (cl m)
def sumN : Nat → Int → Int
  | 0, _ => 0
  | n + 1, m => sumN n m + gap ((n : Int) + 1) m
/-- All of them together. -/
def sum (k m : Int) : Int := if k ≤ 8 then sumN k.toNat m else sumN 8 m + (min k 1099511627776 - 8) * cl m

theorem cl_ge (m : Int) : 0 ≤ cl m := by unfold cl; omega
theorem cl_le (m : Int) : cl m ≤ 64 := by unfold cl; omega
theorem pw_mono {a b : Int} (h : a ≤ b) : pw a ≤ pw b := by unfold pw; omega
theorem pw_le (a : Int) : 1 ≤ pw a ∧ pw a ≤ 64 := by unfold pw; omega
theorem pw_next {a : Int} (h1 : 1 ≤ a) (h6 : a ≤ 6) : pw (a + 1) = 2 * pw a := by unfold pw; omega
theorem pw_top {a : Int} (h : 7 ≤ a) : pw a = 64 := by unfold pw; omega
theorem gap_ge (k m : Int) : 0 ≤ gap k m := by have := cl_ge m; have := pw_le k; unfold gap; omega
theorem gap_le (k m : Int) : gap k m ≤ 64 := by have := cl_le m; have := pw_le k; unfold gap; omega
theorem gap_top {k m : Int} (h : 7 ≤ k) : gap k m = cl m := by have := cl_le m; have := pw_top h; unfold gap; omega
theorem sumN_ge (m : Int) : ∀ n, 0 ≤ sumN n m
  | 0 => Int.le_refl _
  | n + 1 => by have := sumN_ge m n; have := gap_ge ((n : Int) + 1) m; show 0 ≤ sumN n m + _; omega
theorem sumN_le (m : Int) : ∀ n, sumN n m ≤ 64 * n
  | 0 => by simp [sumN]
  | n + 1 => by have := sumN_le m n; have := gap_le ((n : Int) + 1) m; show sumN n m + _ ≤ _; omega
theorem sum_none {k m : Int} (h : k ≤ 0) : sum k m = 0 := by unfold sum; rw [if_pos (by omega), show k.toNat = 0 by omega]; rfl

theorem sum_le8 (k m : Int) (j : Nat) (h : j = k.toNat ∧ k ≤ 8) : sum k m = sumN j m := by
  obtain ⟨rfl, h⟩ := h
  exact if_pos h
theorem sum_gt8 (k m K : Int) (h : K = min k 1099511627776) (h8 : 8 < K) : sum k m = sumN 8 m + (K - 8) * cl m := by
  subst h
  exact if_neg (by omega)

theorem rgap_any (w : World) (k m : Int) : Calls Try.prog 6 #[.int .i64 k, .int .i64 m] w fun e w' => e = .returned (.int .i64 (gap k m)) ∧ w' = w := by
  by_cases h0 : k < 1
  · have hg : gap k m = 0 := if_pos h0
    rw [hg]
    clear hg
    go_enter Try.func6, Try.ntmps6
    go_wp2_with fail
    all_goals (go_ret; exact ⟨rfl, rfl⟩)
  · by_cases h1 : m < 0
    · have hg : gap k m = 0 := by have := pw_le k; unfold gap cl; omega
      rw [hg]
      clear hg
      go_enter Try.func6, Try.ntmps6
      go_wp2_with fail
      all_goals (go_ret; exact ⟨rfl, rfl⟩)
    · by_cases h2 : 64 < m
      · have hlo : ∀ j : Int, 1 ≤ j → j ≤ k → 64 ≤ pw j → min (pw j) 64 = gap k m := fun j _ hj hp => by have := pw_mono hj; unfold gap; rw [if_neg (by omega)]; unfold cl; omega
        have hend : ∀ j : Int, j = k → min (pw j) 64 = gap k m := fun j hj => by subst hj; unfold gap; rw [if_neg (by omega)]; unfold cl; omega
        replace hlo := Lib.hid hlo
        replace hend := Lib.hid hend
        go_enter Try.func6, Try.ntmps6
        go_wp2_with fail
        go_loopg [5, 6] 6 (fun g gs i wr => ∃ j : Nat, g = 7 - j ∧ 1 ≤ j ∧ j ≤ 7 ∧ (j : Int) ≤ k ∧ i = .int .i64 (j : Int) ∧ gs = .int .i64 (pw j) ∧ wr = w)
        case atStart => exact ⟨1, rfl, by omega, by omega, by omega, rfl, rfl, rfl⟩
        case round =>
          obtain ⟨j, hg, j1, j7, jk, rfl, rfl, rfl⟩ := hrel
          replace hg := Lib.hid hg
          have hp := pw_le j
          by_cases ha : (j : Int) < k
          · by_cases hb : pw j < 64
            · have j6 : (j : Int) ≤ 6 := by
                have := fun h => pw_top (a := j) h
                omega
              have hx := Lib.hid (pw_next (a := j) (by omega) j6)
              have t1 : decide (pw j < 64) = true := decide_eq_true hb
              go_wp2_with fail
              go_roundg (7 - (j + 1))
              case measure => have := hg.out; omega
              case rel => exact ⟨j + 1, rfl, by omega, by omega, by omega, by go_num, by rw [show ((j + 1 : Nat) : Int) = (j : Int) + 1 by omega, hx.out], rfl⟩
            · have t1 : decide (pw j < 64) = false := decide_eq_false hb
              have e := Lib.hid (hlo.out j (by omega) jk (by omega))
              go_wp2_with fail
              all_goals (go_ret; exact ⟨ret_int (by have := e.out; omega), rfl⟩)
          · have e := Lib.hid (hend.out j (by omega))
            go_wp2_with fail
            all_goals (go_ret; exact ⟨ret_int (by have := e.out; omega), rfl⟩)
      · have hlo : ∀ j : Int, 1 ≤ j → j ≤ k → m ≤ pw j → min (pw j) m = gap k m := fun j _ hj hp => by have := pw_mono hj; unfold gap; rw [if_neg (by omega)]; unfold cl; omega
        have hend : ∀ j : Int, j = k → min (pw j) m = gap k m := fun j hj => by subst hj; unfold gap; rw [if_neg (by omega)]; unfold cl; omega
        replace hlo := Lib.hid hlo
        replace hend := Lib.hid hend
        go_enter Try.func6, Try.ntmps6
        go_wp2_with fail
        go_loopg [5, 6] 6 (fun g gs i wr => ∃ j : Nat, g = 7 - j ∧ 1 ≤ j ∧ j ≤ 7 ∧ (j : Int) ≤ k ∧ i = .int .i64 (j : Int) ∧ gs = .int .i64 (pw j) ∧ wr = w)
        case atStart => exact ⟨1, rfl, by omega, by omega, by omega, rfl, rfl, rfl⟩
        case round =>
          obtain ⟨j, hg, j1, j7, jk, rfl, rfl, rfl⟩ := hrel
          replace hg := Lib.hid hg
          have hp := pw_le j
          by_cases ha : (j : Int) < k
          · by_cases hb : pw j < m
            · have j6 : (j : Int) ≤ 6 := by
                have := fun h => pw_top (a := j) h
                omega
              have hx := Lib.hid (pw_next (a := j) (by omega) j6)
              have t1 : decide (pw j < m) = true := decide_eq_true hb
              go_wp2_with fail
              go_roundg (7 - (j + 1))
              case measure => have := hg.out; omega
              case rel => exact ⟨j + 1, rfl, by omega, by omega, by omega, by go_num, by rw [show ((j + 1 : Nat) : Int) = (j : Int) + 1 by omega, hx.out], rfl⟩
            · have t1 : decide (pw j < m) = false := decide_eq_false hb
              have e := Lib.hid (hlo.out j (by omega) jk (by omega))
              go_wp2_with fail
              all_goals (go_ret; exact ⟨ret_int (by have := e.out; omega), rfl⟩)
          · have e := Lib.hid (hend.out j (by omega))
            go_wp2_with fail
            all_goals (go_ret; exact ⟨ret_int (by have := e.out; omega), rfl⟩)
theorem rsum_any (w : World) (k m : Int) : Calls Try.prog 8 #[.int .i64 k, .int .i64 m] w fun e w' => e = .returned (.int .i64 (sum k m)) ∧ w' = w := by
  have hcl := cl_le m
  have hcg := cl_ge m
  by_cases h0 : 1099511627776 < k
  · have hsum := sum_le8 k m
    have hsum9 := sum_gt8 k m
    replace hsum := Lib.hid hsum
    replace hsum9 := Lib.hid hsum9
    go_enter Try.func8, Try.ntmps8
    go_wp2_with fail
    go_loopg [5, 6] 8 (fun g n i wr => ∃ j : Nat, g = 8 - j ∧ j ≤ 8 ∧ ((j : Int) ≤ 1099511627776 ∨ j = 0) ∧ i = .int .i64 ((j : Int) + 1) ∧ n = .int .i64 (sumN j m) ∧ wr = w)
    case atStart => exact ⟨0, rfl, by omega, .inr rfl, rfl, rfl, rfl⟩
    case round =>
      obtain ⟨j, hg, j8, jk, rfl, rfl, rfl⟩ := hrel
      replace hg := Lib.hid hg
      have hp := sumN_ge m j
      have hq := sumN_le m j
      have hr := gap_ge ((j : Int) + 1) m
      have hs := gap_le ((j : Int) + 1) m
      by_cases ha : (j : Int) + 1 ≤ 1099511627776
      · by_cases hb : (j : Int) + 1 ≤ 8
        · go_wp2_with (go_at_call 6; refine (rgap_any _ _ m).mono ?_; rintro e w2 ⟨rfl, rfl⟩)
          go_roundg (8 - (j + 1))
          case measure => have := hg.out; omega
          case rel => exact ⟨j + 1, rfl, by omega, .inl (by omega), by go_num, rfl, rfl⟩
        · obtain rfl : j = 8 := by omega
          have h9 : gap 9 m = cl m := gap_top (by omega)
          have hpb : 0 ≤ (1099511627776 - 8) * cl m ∧ (1099511627776 - 8) * cl m ≤ 70368744177664 := ⟨Int.mul_nonneg (by omega) hcg, by have := Int.mul_le_mul (show 1099511627776 - 8 ≤ 1099511627776 by omega) hcl hcg (by omega); omega⟩
          replace h9 := Lib.hid h9
          have G := rgap_any wr 9 m
          rw [h9.out] at G
          replace G := Lib.hid G
          go_wp2_with (go_at_call 6; refine G.out.mono ?_; rintro e w2 ⟨rfl, rfl⟩)
          go_ret
          exact ⟨ret_int (hsum9.out 1099511627776 (by omega) (by omega)).symm, rfl⟩
      · exfalso; omega
  · have hsum := sum_le8 k m
    have hsum9 := sum_gt8 k m
    replace hsum := Lib.hid hsum
    replace hsum9 := Lib.hid hsum9
    go_enter Try.func8, Try.ntmps8
    go_wp2_with fail
    go_loopg [5, 6] 8 (fun g n i wr => ∃ j : Nat, g = 8 - j ∧ j ≤ 8 ∧ ((j : Int) ≤ k ∨ j = 0) ∧ i = .int .i64 ((j : Int) + 1) ∧ n = .int .i64 (sumN j m) ∧ wr = w)
    case atStart => exact ⟨0, rfl, by omega, .inr rfl, rfl, rfl, rfl⟩
    case round =>
      obtain ⟨j, hg, j8, jk, rfl, rfl, rfl⟩ := hrel
      replace hg := Lib.hid hg
      have hp := sumN_ge m j
      have hq := sumN_le m j
      have hr := gap_ge ((j : Int) + 1) m
      have hs := gap_le ((j : Int) + 1) m
      by_cases ha : (j : Int) + 1 ≤ k
      · by_cases hb : (j : Int) + 1 ≤ 8
        · go_wp2_with (go_at_call 6; refine (rgap_any _ _ m).mono ?_; rintro e w2 ⟨rfl, rfl⟩)
          go_roundg (8 - (j + 1))
          case measure => have := hg.out; omega
          case rel => exact ⟨j + 1, rfl, by omega, .inl (by omega), by go_num, rfl, rfl⟩
        · obtain rfl : j = 8 := by omega
          have h9 : gap 9 m = cl m := gap_top (by omega)
          have hpb : 0 ≤ (k - 8) * cl m ∧ (k - 8) * cl m ≤ 70368744177664 := ⟨Int.mul_nonneg (by omega) hcg, by have := Int.mul_le_mul (show k - 8 ≤ 1099511627776 by omega) hcl hcg (by omega); omega⟩
          replace h9 := Lib.hid h9
          have G := rgap_any wr 9 m
          rw [h9.out] at G
          replace G := Lib.hid G
          go_wp2_with (go_at_call 6; refine G.out.mono ?_; rintro e w2 ⟨rfl, rfl⟩)
          go_ret
          exact ⟨ret_int (hsum9.out k (by omega) (by omega)).symm, rfl⟩
      · have hz := hsum.out j (by omega)
        replace hz := Lib.hid hz
        go_wp2_with fail
        go_ret
        exact ⟨ret_int hz.out.symm, rfl⟩
end Go.Proofs.Ytpjmecnipecaeaa.Bo
