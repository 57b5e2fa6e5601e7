/-
  In which order is added makes no difference: sums over acts, turned round. Conditions: those that each lemma names.
-/
import Derived.Test.YtfobljmkckclgaaCtC
namespace Go.Proofs.Ytfobljmkckclgaa.Ct
open Go.RowKit Go.Proofs.Ytfobljmkckclgaa.Mem

/-- How much the act x adds to the counter j. -/
def part (x : Int × Int) (j : Int) : Int := if x.1 = j ∧ 0 ≤ x.2 then x.2 else 0
theorem part_ge (x : Int × Int) (j : Int) : 0 ≤ part x j := by unfold part; split <;> omega
/-- .. the acts f a, f (a + 1) .., m of them. -/
def cnt (f : Nat → Int × Int) (j : Int) (a : Nat) : Nat → Int
  | 0 => 0
  | m + 1 => cnt f j a m + part (f (a + m)) j
theorem cnt_ge (f : Nat → Int × Int) (j : Int) (a : Nat) : ∀ m, 0 ≤ cnt f j a m
  | 0 => Int.le_refl _
  | m + 1 => by have := cnt_ge f j a m; have := part_ge (f (a + m)) j; show 0 ≤ cnt f j a m + _; omega
theorem cnt_front (f : Nat → Int × Int) (j : Int) (a : Nat) : ∀ m, cnt f j a (m + 1) = part (f a) j + cnt f j (a + 1) m
  | 0 => by show 0 + part (f (a + 0)) j = part (f a) j + 0; rw [Nat.add_zero]; omega
  | m + 1 => by
    show cnt f j a (m + 1) + part (f (a + (m + 1))) j = part (f a) j + (cnt f j (a + 1) m + part (f (a + 1 + m)) j)
    rw [cnt_front f j a m, show a + (m + 1) = a + 1 + m by omega]
    omega
theorem cnt_turn (f : Nat → Int × Int) (j : Int) (n : Nat) (h : ∀ m, f (m + n) = f m) : ∀ a, cnt f j a n = cnt f j 0 n
  | 0 => rfl
  | a + 1 => by
    have h1 := cnt_front f j a n
    have h2 : cnt f j a (n + 1) = cnt f j a n + part (f (a + n)) j := rfl
    rw [h a] at h2
    have := cnt_turn f j n h a
    omega
/-- The four counters. -/
def lst (f : Nat → Int × Int) (a m : Nat) : List Int := [min (cnt f 0 a m) 4611686018427387904, min (cnt f 1 a m) 4611686018427387904, min (cnt f 2 a m) 4611686018427387904, min (cnt f 3 a m) 4611686018427387904]
theorem lst_zero (f : Nat → Int × Int) (a : Nat) : lst f a 0 = zeros 4 := rfl
theorem lst_turn (f : Nat → Int × Int) (n : Nat) (h : ∀ m, f (m + n) = f m) (a : Nat) : lst f a n = lst f 0 n := by
  unfold lst
  rw [cnt_turn f 0 n h a, cnt_turn f 1 n h a, cnt_turn f 2 n h a, cnt_turn f 3 n h a]
theorem lst_step (f : Nat → Int × Int) (a m : Nat) (i d : Int) (h : f (a + m) = (i, d)) (h0 : 0 ≤ i) (h4 : i < 4) : addL (lst f a m) i d = lst f a (m + 1) := by
  have c0 := cnt_ge f 0 a m
  have c1 := cnt_ge f 1 a m
  have c2 := cnt_ge f 2 a m
  have c3 := cnt_ge f 3 a m
  have e : ∀ j, cnt f j a (m + 1) = cnt f j a m + part (i, d) j := fun j => by show cnt f j a m + part (f (a + m)) j = _; rw [h]
  unfold lst
  rw [e, e, e, e]
  generalize cnt f 0 a m = C0 at *
  generalize cnt f 1 a m = C1 at *
  generalize cnt f 2 a m = C2 at *
  generalize cnt f 3 a m = C3 at *
  unfold addL part
  by_cases hd : d < 0
  · rw [if_pos (.inl hd)]
    simp only [show ¬ (0 ≤ d) by omega, and_false, if_false, Int.add_zero]
  · have hb : ¬ bad [min C0 4611686018427387904, min C1 4611686018427387904, min C2 4611686018427387904, min C3 4611686018427387904] i d := by unfold bad; simp; omega
    rw [if_neg hb]
    have hi : i = 0 ∨ i = 1 ∨ i = 2 ∨ i = 3 := by omega
    unfold val
    rcases hi with rfl | rfl | rfl | rfl
    · simp [show 0 ≤ d by omega]; omega
    · simp [show 0 ≤ d by omega]; omega
    · simp [show 0 ≤ d by omega]; omega
    · simp [show 0 ≤ d by omega]; omega
theorem lst_err (f : Nat → Int × Int) (a m : Nat) (i d : Int) (h0 : 0 ≤ i) (h4 : i < 4) : err (lst f a m) i d = if d < 0 then 2 else 0 := by
  unfold err
  split
  · rfl
  · rw [if_neg (by simp [lst]; omega)]
end Go.Proofs.Ytfobljmkckclgaa.Ct
