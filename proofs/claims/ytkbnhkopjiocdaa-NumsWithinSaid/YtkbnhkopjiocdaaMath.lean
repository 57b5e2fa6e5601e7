/-
  Plain facts on integers that the contracts of package nums use: when a wrapped product shows that it was wrapped; the remainder's sign. Conditions: the numbers lie within 64 bits, where a lemma says so. No program is named here.
-/
import Derived.WalkKit
namespace Go.Proofs.Ytkbnhkopjiocdaa.Nums
open Go.RowKit

theorem tmod_bd (n s : Int) (hs : 1 ≤ s) : -s < n.tmod s ∧ n.tmod s < s := by
  have h0 := Int.emod_nonneg n (show s ≠ 0 by omega)
  have h1 := Int.emod_lt_of_pos n (show 0 < s by omega)
  have e := Int.tmod_eq_emod (a := n) (b := s)
  split at e
  · omega
  · rename_i h
    have : n % s ≠ 0 := fun h' => h (Or.inr (Int.dvd_of_emod_eq_zero h'))
    omega

theorem ring_of (n s : Int) (hs : 1 ≤ s) : (n.tmod s < 0 → n % s = n.tmod s + s) ∧ (0 ≤ n.tmod s → n % s = n.tmod s) := by
  have h0 := Int.emod_nonneg n (show s ≠ 0 by omega)
  have h1 := Int.emod_lt_of_pos n (show 0 < s by omega)
  have e := Int.tmod_eq_emod (a := n) (b := s)
  split at e
  · omega
  · rename_i h
    have : n % s ≠ 0 := fun h' => h (Or.inr (Int.dvd_of_emod_eq_zero h'))
    omega

theorem wrap_far (x : Int) : ∃ k : Int, wrap64 x = x + 18446744073709551616 * k := by
  unfold wrap64
  exact ⟨-((x + 9223372036854775808) / 18446744073709551616), by omega⟩

theorem wrap_bd (x : Int) : -9223372036854775808 ≤ wrap64 x ∧ wrap64 x ≤ 9223372036854775807 := by unfold wrap64; omega

theorem wrap_in (x : Int) (h : -9223372036854775808 ≤ x) (h' : x ≤ 9223372036854775807) : wrap64 x = x := by unfold wrap64; omega

theorem tdiv_bd (p b : Int) (hp : -9223372036854775808 ≤ p) (hp' : p ≤ 9223372036854775807) (b0 : b ≠ 0) :
    -9223372036854775808 ≤ p.tdiv b ∧ p.tdiv b ≤ 9223372036854775808 ∧ (p.tdiv b = 9223372036854775808 → b = -1) := by
  have e : (p.tdiv b).natAbs = p.natAbs / b.natAbs := Int.natAbs_tdiv p b
  have hb : 0 < b.natAbs := by omega
  have hle : p.natAbs / b.natAbs ≤ p.natAbs := Nat.div_le_self _ _
  refine ⟨by omega, by omega, fun ht => ?_⟩
  by_cases b1 : b = 1
  · subst b1; rw [Int.tdiv_one] at ht; omega
  · by_cases b2 : b = -1
    · exact b2
    · exfalso
      have h2 : p.natAbs / b.natAbs ≤ p.natAbs / 2 := Nat.div_le_div_left (by omega) (by omega)
      omega

/-- The test of 'fits': the wrapped product, divided, is the first factor again just if the product is within. -/
theorem fits_iff (a b : Int) (ha : -9223372036854775808 ≤ a) (ha' : a ≤ 9223372036854775807) (hb : -9223372036854775808 ≤ b) (hb' : b ≤ 9223372036854775807) (b0 : b ≠ 0) (hn : ¬ (a = -9223372036854775808 ∧ b = -1)) :
    (wrap64 ((wrap64 (a * b)).tdiv b) = a) ↔ (-9223372036854775808 ≤ a * b ∧ a * b ≤ 9223372036854775807) := by
  constructor
  · intro h
    obtain ⟨k, hk⟩ := wrap_far (a * b)
    have hp := wrap_bd (a * b)
    generalize hpp : wrap64 (a * b) = p at *
    obtain ⟨t1, t2, t3⟩ := tdiv_bd p b hp.1 hp.2 b0
    have ht : p.tdiv b = a := by
      by_cases e : p.tdiv b = 9223372036854775808
      · have := t3 e
        rw [e] at h
        unfold wrap64 at h
        omega
      · rw [wrap_in _ t1 (by omega)] at h; exact h
    have e := Int.mul_tdiv_add_tmod p b
    rw [ht, Int.mul_comm b a] at e
    have r1 : (p.tmod b).natAbs < b.natAbs := by rw [Int.natAbs_tmod]; exact Nat.mod_lt _ (by omega)
    omega
  · intro h
    rw [wrap_in _ h.1 h.2, Int.mul_tdiv_cancel _ b0, wrap_in _ ha ha']

theorem sign_same (a b : Int) (a0 : a ≠ 0) (b0 : b ≠ 0) (h : (decide (a < 0) == decide (b < 0)) = true) : 0 < a * b := by
  rw [beq_iff_eq, decide_eq_decide] at h
  by_cases sa : a < 0
  · exact Int.mul_pos_of_neg_of_neg sa (h.1 sa)
  · exact Int.mul_pos (by omega) (by omega)

theorem sign_other (a b : Int) (a0 : a ≠ 0) (b0 : b ≠ 0) (h : (decide (a < 0) == decide (b < 0)) = false) : a * b < 0 := by
  rw [beq_eq_false_iff_ne, ne_eq, decide_eq_decide] at h
  by_cases sa : a < 0
  · exact Int.mul_neg_of_neg_of_pos sa (by omega)
  · exact Int.mul_neg_of_pos_of_neg (by omega) (by omega)
end Go.Proofs.Ytkbnhkopjiocdaa.Nums
