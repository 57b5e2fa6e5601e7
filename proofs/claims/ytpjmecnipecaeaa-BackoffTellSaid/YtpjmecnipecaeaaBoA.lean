/-
  Contracts of package backoff (layer 6): Gap and Sum answer, for all ints, the document's numbers gap and sum. Conditions: none.
-/
import Derived.Test.YtpjmecnipecaeaaBoR
namespace Go.Proofs.Ytpjmecnipecaeaa.Bo
open Go.RowKit

theorem cl_cl (m : Int) : cl (cl m) = cl m := by unfold cl; omega
theorem gap_cl (k m : Int) : gap k (cl m) = gap k m := by unfold gap; rw [cl_cl]
theorem gap_le_cl (k m : Int) : gap k m ≤ cl m := by have := cl_ge m; have := pw_le k; unfold gap; omega
theorem gap_le_gap {a b : Int} (m : Int) (h : a ≤ b) : gap a m ≤ gap b m := by
  have := cl_ge m
  have := pw_le b
  have := pw_mono h
  unfold gap
  omega
theorem sumN_rest (m : Int) (j : Nat) (hg : gap ((j : Int) + 1) m = cl m) : ∀ d : Nat, sumN (j + d) m = sumN j m + (d : Int) * cl m
  | 0 => by simp
  | d + 1 => by
    have h1 := sumN_rest m j hg d
    have h2 := gap_le_cl (((j + d : Nat) : Int) + 1) m
    have h3 := gap_le_gap m (show (j : Int) + 1 ≤ ((j + d : Nat) : Int) + 1 by omega)
    show sumN (j + d) m + gap (((j + d : Nat) : Int) + 1) m = _
    rw [show ((d + 1 : Nat) : Int) = (d : Int) + 1 by omega, Int.add_mul]
    omega
theorem sum_rest (k m K : Int) (j : Nat) (h : K = min k 1099511627776) (hj : (j : Int) < K) (h8 : j ≤ 8) (hg : gap ((j : Int) + 1) m = cl m) :
    sum k m = sumN j m + cl m * (K - ((j : Int) + 1) + 1) := by
  subst h
  rw [Int.mul_comm]
  by_cases hk : k ≤ 8
  · rw [sum_le8 k m k.toNat ⟨rfl, hk⟩]
    have e := sumN_rest m j hg (k.toNat - j)
    rw [show j + (k.toNat - j) = k.toNat by omega] at e
    rw [e, show ((k.toNat - j : Nat) : Int) = min k 1099511627776 - ((j : Int) + 1) + 1 by omega]
  · rw [sum_gt8 k m _ rfl (by omega)]
    have e := sumN_rest m j hg (8 - j)
    rw [show j + (8 - j) = 8 by omega] at e
    rw [e, Int.add_assoc, ← Int.add_mul, show ((8 - j : Nat) : Int) + (min k 1099511627776 - 8) = min k 1099511627776 - ((j : Int) + 1) + 1 by omega]

theorem within_any (w : World) (m : Int) : Calls Try.prog 10 #[.int .i64 m] w fun e w' => e = .returned (.int .i64 (cl m)) ∧ w' = w := by
  go_enter Try.func10, Try.ntmps10
  go_wp2_with fail
  all_goals
    go_ret
    exact ⟨ret_int (by unfold cl; omega), rfl⟩

theorem gap_any (w : World) (k m : Int) : Calls Try.prog 5 #[.int .i64 k, .int .i64 m] w fun e w' => e = .returned (.int .i64 (gap k m)) ∧ w' = w := by
  by_cases h0 : k < 1
  · have hg : gap k m = 0 := if_pos h0
    rw [hg]
    clear hg
    go_enter Try.func5, Try.ntmps5
    go_wp2_with fail
    all_goals (go_ret; exact ⟨rfl, rfl⟩)
  · have hcl := cl_le m
    have hcg := cl_ge m
    have hlo : ∀ j : Int, 1 ≤ j → j ≤ k → cl m ≤ pw j → min (pw j) (cl m) = gap k m := fun j _ hj hp => by have := pw_mono hj; unfold gap; rw [if_neg (by omega)]; omega
    have hend : ∀ j : Int, j = k → min (pw j) (cl m) = gap k m := fun j hj => by subst hj; unfold gap; rw [if_neg (by omega)]
    replace hlo := Lib.hid hlo
    replace hend := Lib.hid hend
    have W := fun w => within_any w m
    generalize cl m = c at *
    replace W := Lib.hid W
    go_enter Try.func5, Try.ntmps5
    go_wp2_with (go_at_call 10; refine (W.out _).mono ?_; rintro e w2 ⟨rfl, rfl⟩)
    go_loopg [5, 6] 6 (fun g gs i wr => ∃ j : Nat, g = 7 - j ∧ 1 ≤ j ∧ j ≤ 7 ∧ (j : Int) ≤ k ∧ i = .int .i64 (j : Int) ∧ gs = .int .i64 (pw j) ∧ wr = w2)
    case atStart => exact ⟨1, rfl, by omega, by omega, by omega, rfl, rfl, rfl⟩
    case round =>
      obtain ⟨j, hg, j1, j7, jk, rfl, rfl, rfl⟩ := hrel
      replace hg := Lib.hid hg
      have hp := pw_le j
      by_cases ha : (j : Int) < k
      · by_cases hb : pw j < c
        · have j6 : (j : Int) ≤ 6 := by
            have := fun h => pw_top (a := j) h
            omega
          have hx := Lib.hid (pw_next (a := j) (by omega) j6)
          have t1 : decide (pw j < c) = true := decide_eq_true hb
          go_wp2_with fail
          go_roundg (7 - (j + 1))
          case measure => have := hg.out; omega
          case rel => exact ⟨j + 1, rfl, by omega, by omega, by omega, by go_num, by rw [show ((j + 1 : Nat) : Int) = (j : Int) + 1 by omega, hx.out, Int.mul_comm], rfl⟩
        · have t1 : decide (pw j < c) = false := decide_eq_false hb
          have e := Lib.hid (hlo.out j (by omega) jk (by omega))
          go_wp2_with fail
          all_goals (go_ret; exact ⟨ret_int (by have := e.out; omega), rfl⟩)
      · have e := Lib.hid (hend.out j (by omega))
        go_wp2_with fail
        all_goals (go_ret; exact ⟨ret_int (by have := e.out; omega), rfl⟩)

theorem sum_any (w : World) (k m : Int) : Calls Try.prog 7 #[.int .i64 k, .int .i64 m] w fun e w' => e = .returned (.int .i64 (sum k m)) ∧ w' = w := by
  have hcl := cl_le m
  have hcg := cl_ge m
  obtain ⟨K, hK⟩ : ∃ K : Int, K = min k 1099511627776 := ⟨_, rfl⟩
  have hK' : K ≤ 1099511627776 := by omega
  have hend : ∀ j : Nat, j ≤ 8 → ((j : Int) ≤ K ∨ j = 0) → K < (j : Int) + 1 → sumN j m = sum k m := fun j h8 hj hk => by
    rw [sum_le8 k m j ⟨by omega, by omega⟩]
  have hrest : ∀ j : Nat, j ≤ 8 → (j : Int) < K → gap ((j : Int) + 1) m = cl m → sumN j m + cl m * (K - ((j : Int) + 1) + 1) = sum k m := fun j h8 hj hg => (sum_rest k m K j hK hj h8 hg).symm
  have htop : ∀ j : Nat, j = 8 → gap ((j : Int) + 1) m = cl m := fun j hj => gap_top (by omega)
  have hmul : ∀ x : Int, 0 ≤ x → x ≤ 1099511627776 → 0 ≤ cl m * x ∧ cl m * x ≤ 70368744177664 := fun x h0 h1 => ⟨Int.mul_nonneg hcg h0, by have := Int.mul_le_mul hcl h1 h0 (by omega : (0 : Int) ≤ 64); omega⟩
  have W := fun w => within_any w m
  have G := fun w k => gap_any w k (cl m)
  simp only [gap_cl] at G
  have hgl := fun k => gap_le_cl k m
  generalize cl m = c at *
  replace W := Lib.hid W
  replace G := Lib.hid G
  replace hend := Lib.hid hend
  replace hrest := Lib.hid hrest
  replace htop := Lib.hid htop
  replace hmul := Lib.hid hmul
  replace hgl := Lib.hid hgl
  by_cases hk : 1099511627776 < k
  · obtain rfl : K = 1099511627776 := by omega
    clear hK hK'
    go_enter Try.func7, Try.ntmps7
    go_wp2_with (go_at_call 10; refine (W.out _).mono ?_; rintro e w2 ⟨rfl, rfl⟩)
    go_loopg [5, 6] 8 (fun g n i wr => ∃ j : Nat, g = 8 - j ∧ j ≤ 8 ∧ ((j : Int) ≤ 1099511627776 ∨ j = 0) ∧ i = .int .i64 ((j : Int) + 1) ∧ n = .int .i64 (sumN j m) ∧ wr = w2)
    case atStart => exact ⟨0, rfl, by omega, .inr rfl, rfl, rfl, rfl⟩
    case round =>
      obtain ⟨j, hg, j8, jk, rfl, rfl, rfl⟩ := hrel
      replace hg := Lib.hid hg
      have hp := sumN_ge m j
      have hq := sumN_le m j
      have hr := gap_ge ((j : Int) + 1) m
      have hs := gap_le ((j : Int) + 1) m
      by_cases ha : (j : Int) + 1 ≤ 1099511627776
      · by_cases hb : gap ((j : Int) + 1) m = c
        · have e := Lib.hid (hrest.out j j8 (by omega) hb)
          have hm := hmul.out (1099511627776 - ((j : Int) + 1) + 1) (by omega) (by omega)
          have t1 : (gap ((j : Int) + 1) m == c) = true := beq_iff_eq.mpr hb
          go_wp2_with (go_at_call 5; refine (G.out _ _).mono ?_; rintro e w2 ⟨rfl, rfl⟩)
          go_ret
          exact ⟨ret_int e.out, rfl⟩
        · have j7 : j ≠ 8 := fun h => hb (htop.out j h)
          have t1 : (gap ((j : Int) + 1) m == c) = false := by simpa using hb
          go_wp2_with (go_at_call 5; refine (G.out _ _).mono ?_; rintro e w2 ⟨rfl, rfl⟩)
          go_roundg (8 - (j + 1))
          case measure => have := hg.out; omega
          case rel => exact ⟨j + 1, rfl, by omega, .inl (by omega), by go_num, rfl, rfl⟩
      · have e := Lib.hid (hend.out j j8 jk (by omega))
        go_wp2_with fail
        go_ret
        exact ⟨ret_int e.out, rfl⟩
  · obtain rfl : K = k := by omega
    clear hK hK'
    go_enter Try.func7, Try.ntmps7
    go_wp2_with (go_at_call 10; refine (W.out _).mono ?_; rintro e w2 ⟨rfl, rfl⟩)
    go_loopg [5, 6] 8 (fun g n i wr => ∃ j : Nat, g = 8 - j ∧ j ≤ 8 ∧ ((j : Int) ≤ K ∨ j = 0) ∧ i = .int .i64 ((j : Int) + 1) ∧ n = .int .i64 (sumN j m) ∧ wr = w2)
    case atStart => exact ⟨0, rfl, by omega, .inr rfl, rfl, rfl, rfl⟩
    case round =>
      obtain ⟨j, hg, j8, jk, rfl, rfl, rfl⟩ := hrel
      replace hg := Lib.hid hg
      have hp := sumN_ge m j
      have hq := sumN_le m j
      have hr := gap_ge ((j : Int) + 1) m
      have hs := gap_le ((j : Int) + 1) m
      by_cases ha : (j : Int) + 1 ≤ K
      · by_cases hb : gap ((j : Int) + 1) m = c
        · have e := Lib.hid (hrest.out j j8 (by omega) hb)
          have hm := hmul.out (K - ((j : Int) + 1) + 1) (by omega) (by omega)
          have t1 : (gap ((j : Int) + 1) m == c) = true := beq_iff_eq.mpr hb
          go_wp2_with (go_at_call 5; refine (G.out _ _).mono ?_; rintro e w2 ⟨rfl, rfl⟩)
          go_ret
          exact ⟨ret_int e.out, rfl⟩
        · have j7 : j ≠ 8 := fun h => hb (htop.out j h)
          have t1 : (gap ((j : Int) + 1) m == c) = false := by simpa using hb
          go_wp2_with (go_at_call 5; refine (G.out _ _).mono ?_; rintro e w2 ⟨rfl, rfl⟩)
          go_roundg (8 - (j + 1))
          case measure => have := hg.out; omega
          case rel => exact ⟨j + 1, rfl, by omega, .inl (by omega), by go_num, rfl, rfl⟩
      · have e := Lib.hid (hend.out j j8 jk (by omega))
        go_wp2_with fail
        go_ret
        exact ⟨ret_int e.out, rfl⟩
end Go.Proofs.Ytpjmecnipecaeaa.Bo
