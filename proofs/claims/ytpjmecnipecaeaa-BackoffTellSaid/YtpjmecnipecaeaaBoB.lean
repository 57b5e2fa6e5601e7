/-
  The chapter's examples (gaps of fairwaylaw06); what follows of gaps and sums. Conditions: none.
-/
import Derived.Test.YtpjmecnipecaeaaBoA
namespace Go.Proofs.Ytpjmecnipecaeaa.Bo
open Go.RowKit

theorem gaps_any (w : World) : Calls Try.prog 9 #[] w fun e w' => e = .returned (.bool true) ∧ w' = w := by
  have g1 : gap 1 5 = 1 := by decide
  have g2 : gap 2 5 = 2 := by decide
  have g3 : gap 4 5 = 5 := by decide
  have g4 : gap 9 100 = 64 := by decide
  have g5 : sum 4 5 = 12 := by decide
  have g6 : sum 3 0 = 0 := by decide
  go_enter Try.func9, Try.ntmps9
  go_wp2_with (first
    | (go_at_call 5; refine (gap_any _ _ _).mono ?_; rintro e w2 ⟨rfl, rfl⟩)
    | (go_at_call 7; refine (sum_any _ _ _).mono ?_; rintro e w2 ⟨rfl, rfl⟩))
  go_ret
  exact ⟨rfl, rfl⟩

theorem gap_mono (k m : Int) : gap k m ≤ gap (k + 1) m := by
  have := cl_ge m
  have := pw_le (k + 1)
  have := pw_mono (show k ≤ k + 1 by omega)
  unfold gap
  omega
theorem gap_most (k : Int) {m : Int} (h : 0 ≤ m) : gap k m ≤ m := by
  have := pw_le k
  unfold gap cl
  omega
theorem sum_next {k : Int} (m : Int) (h1 : 0 ≤ k) (h2 : k < 1099511627776) : sum (k + 1) m = sum k m + gap (k + 1) m := by
  obtain ⟨n, rfl⟩ := Int.eq_ofNat_of_zero_le h1
  unfold sum
  by_cases h : (n : Int) + 1 ≤ 8
  · rw [if_pos h, if_pos (by omega), show ((n : Int) + 1).toNat = n + 1 by omega, show (n : Int).toNat = n by omega]
    rfl
  · rw [if_neg h, gap_top (by omega)]
    by_cases h8 : (n : Int) ≤ 8
    · obtain rfl : n = 8 := by omega
      rw [if_pos h8]
      rw [show min (((8 : Nat) : Int) + 1) 1099511627776 - 8 = 1 by omega, Int.one_mul]
      rfl
    · rw [if_neg h8, show min ((n : Int) + 1) 1099511627776 - 8 = (min (n : Int) 1099511627776 - 8) + 1 by omega, Int.add_mul]
      omega
theorem sum_gap {k : Int} (m : Int) (h1 : 1 ≤ k) (h2 : k ≤ 1099511627776) : gap k m ≤ sum k m := by
  have h := sum_next (k := k - 1) m (by omega) (by omega)
  rw [show k - 1 + 1 = k by omega] at h
  have : 0 ≤ sum (k - 1) m := by
    unfold sum
    split
    · exact sumN_ge m _
    · have := sumN_ge m 8
      have := Int.mul_nonneg (show 0 ≤ min (k - 1) 1099511627776 - 8 by omega) (cl_ge m)
      omega
  omega
theorem gap_twice {k m : Int} (h1 : 1 ≤ k) (h : gap (k + 1) m < min m 64) : gap (k + 1) m = 2 * gap k m := by
  have hp := pw_le k
  by_cases h6 : k ≤ 6
  · have := pw_next h1 h6
    unfold gap cl at *
    omega
  · rw [gap_top (by omega)] at h
    unfold cl at h
    omega
theorem gap_zero {k m : Int} (h1 : 1 ≤ k) (h0 : 0 ≤ m) : gap k m = 0 ↔ m = 0 := by
  have hp := pw_le k
  unfold gap cl
  omega
theorem sum_le (k m : Int) (h : k ≤ 1000000) : 0 ≤ sum k m ∧ sum k m ≤ 64000512 := by
  unfold sum
  split
  · have := sumN_ge m k.toNat
    have := sumN_le m k.toNat
    omega
  · have h1 := sumN_ge m 8
    have h2 := sumN_le m 8
    have h3 := Int.mul_nonneg (show 0 ≤ min k 1099511627776 - 8 by omega) (cl_ge m)
    have h4 := Int.mul_le_mul (show min k 1099511627776 - 8 ≤ 1000000 by omega) (cl_le m) (cl_ge m) (by omega)
    omega
end Go.Proofs.Ytpjmecnipecaeaa.Bo
