/-
  Plain facts on the bytes of a number: the number's bytes, what stands ahead of a list of bytes, there and back. Conditions: the numbers lie below two to the power of 64, where a lemma says so. No program is named here.
-/
import Derived.WalkKit
namespace Go.Proofs.Ytbmepaglhkndpaa.Codec
open Go.RowKit

/-- The k lowest bytes of a number, the highest first. -/
def be : Nat → Nat → List UInt8
  | 0, _ => []
  | k + 1, n => be k (n / 256) ++ [UInt8.ofNat n]

/-- How many bytes a number has (1 at least; at most f + 1). -/
def szF : Nat → Nat → Nat
  | 0, _ => 1
  | f + 1, n => if n < 256 then 1 else szF f (n / 256) + 1
def sz (n : Nat) : Nat := szF 7 n

/-- A number's bytes. -/
def numB (n : Nat) : List UInt8 := if n < 248 then [UInt8.ofNat n] else UInt8.ofNat (247 + sz n) :: be (sz n) n

/-- The number that bytes say. -/
def val (l : List UInt8) : Nat := l.foldl (fun n b => n * 256 + b.toNat) 0

/-- What stands ahead of bytes, as a number. -/
def readS : List UInt8 → Option (Nat × List UInt8)
  | [] => none
  | b :: t => if b.toNat < 248 then some (b.toNat, t) else
      if t.length < b.toNat - 247 then none else
        if numB (val (t.take (b.toNat - 247))) = b :: t.take (b.toNat - 247) then some (val (t.take (b.toNat - 247)), t.drop (b.toNat - 247)) else none

theorem be_len (k n : Nat) : (be k n).length = k := by
  induction k generalizing n with
  | zero => rfl
  | succ k ih => simp [be, ih]

theorem szF_bd (f n : Nat) : 1 ≤ szF f n ∧ szF f n ≤ f + 1 := by
  induction f generalizing n with
  | zero => simp [szF]
  | succ f ih => have := ih (n / 256); simp only [szF]; split <;> omega
theorem sz_bd (n : Nat) : 1 ≤ sz n ∧ sz n ≤ 8 := szF_bd 7 n

theorem szF_hi (f n : Nat) (h : n < 256 ^ (f + 1)) : n < 256 ^ szF f n := by
  induction f generalizing n with
  | zero => simpa [szF] using h
  | succ f ih =>
    simp only [szF]
    split
    · omega
    · have := ih (n / 256) (by rw [Nat.div_lt_iff_lt_mul (by omega)]; rw [Nat.pow_succ] at h; exact h)
      rw [Nat.pow_succ]
      exact (Nat.div_lt_iff_lt_mul (by omega)).1 this
theorem szF_lo (f n : Nat) (h : 256 ≤ n) : 256 ^ (szF f n - 1) ≤ n := by
  induction f generalizing n with
  | zero => simp [szF]; omega
  | succ f ih =>
    simp only [szF]
    split
    · omega
    · have b := szF_bd f (n / 256)
      rw [Nat.add_sub_cancel]
      by_cases h2 : 256 ≤ n / 256
      · have i := ih (n / 256) h2
        have e : szF f (n / 256) = (szF f (n / 256) - 1) + 1 := by omega
        rw [e, Nat.pow_succ]
        exact Nat.le_trans (Nat.mul_le_mul_right _ i) (Nat.div_mul_le_self n 256)
      · have e : szF f (n / 256) = 1 := by
          cases f with
          | zero => rfl
          | succ f => simp only [szF]; rw [if_pos (by omega)]
        rw [e]; omega

theorem sz_hi (n : Nat) (h : n < 18446744073709551616) : n < 256 ^ sz n := szF_hi 7 n (by simpa using h)
theorem sz_lo (n : Nat) (h : 256 ≤ n) : 256 ^ (sz n - 1) ≤ n := szF_lo 7 n h
theorem sz_one (n : Nat) (h : n < 256) : sz n = 1 := by unfold sz szF; rw [if_pos h]
/-- The number of bytes is the only one with these two. -/
theorem sz_is (n k : Nat) (h : n < 18446744073709551616) (h0 : 256 ≤ n) (hi : n < 256 ^ k) (lo : 256 ^ (k - 1) ≤ n) : sz n = k := by
  have a := sz_hi n h
  have b := sz_lo n h0
  have c := sz_bd n
  rcases Nat.lt_trichotomy (sz n) k with hlt | he | hgt
  · have : 256 ^ sz n ≤ 256 ^ (k - 1) := Nat.pow_le_pow_right (by omega) (by omega)
    omega
  · exact he
  · have : 256 ^ k ≤ 256 ^ (sz n - 1) := Nat.pow_le_pow_right (by omega) (by omega)
    omega

theorem val_snoc (l : List UInt8) (b : UInt8) : val (l ++ [b]) = val l * 256 + b.toNat := by simp [val]
theorem val_lt (l : List UInt8) : val l < 256 ^ l.length := by
  suffices h : ∀ m : List UInt8, val m.reverse < 256 ^ m.length by simpa using h l.reverse
  intro m
  induction m with
  | nil => simp [val]
  | cons b m ih => rw [List.reverse_cons, val_snoc, List.length_cons, Nat.pow_succ]; have := b.toNat_lt; omega
theorem val_be (k n : Nat) (h : n < 256 ^ k) : val (be k n) = n := by
  induction k generalizing n with
  | zero => simp [be, val]; simp at h; omega
  | succ k ih =>
    rw [be, val_snoc, ih (n / 256) (by rw [Nat.div_lt_iff_lt_mul (by omega)]; rw [Nat.pow_succ] at h; exact h)]
    simp
    omega

theorem numB_len (n : Nat) : 1 ≤ (numB n).length ∧ (numB n).length ≤ 9 := by
  unfold numB
  have := sz_bd n
  split <;> simp [be_len] <;> omega

theorem toNat_ofNat_lt (n : Nat) (h : n < 256) : (UInt8.ofNat n).toNat = n := by simp; omega
theorem ofNat_toNat (b : UInt8) : UInt8.ofNat b.toNat = b := by simp

theorem read_put (n : Nat) (h : n < 18446744073709551616) (r : List UInt8) : readS (numB n ++ r) = some (n, r) := by
  unfold numB
  have b := sz_bd n
  split
  · rename_i hn
    simp only [List.cons_append, List.nil_append, readS]
    rw [toNat_ofNat_lt n (by omega), if_pos hn]
  · rename_i hn
    simp only [List.cons_append, readS]
    rw [toNat_ofNat_lt _ (by omega), if_neg (by omega), Nat.add_sub_cancel_left]
    have hl : (be (sz n) n).length = sz n := be_len _ _
    have ht : (be (sz n) n ++ r).take (sz n) = be (sz n) n := by rw [← hl]; simp [hl]
    have hd : (be (sz n) n ++ r).drop (sz n) = r := by
      have : (be (sz n) n ++ r).drop (be (sz n) n).length = r := List.drop_left
      rwa [hl] at this
    rw [ht, hd, if_neg (by simp [hl]), val_be _ _ (sz_hi n h)]
    rw [if_pos]
    unfold numB
    rw [if_neg hn]

theorem read_form {s : List UInt8} {n : Nat} {r : List UInt8} (h : readS s = some (n, r)) : numB n ++ r = s ∧ n < 18446744073709551616 := by
  cases s with
  | nil => simp [readS] at h
  | cons b t =>
    have hb := b.toNat_lt
    simp only [readS] at h
    split at h
    · rename_i hlt
      simp only [Option.some.injEq, Prod.mk.injEq] at h
      obtain ⟨rfl, rfl⟩ := h
      refine ⟨?_, by omega⟩
      unfold numB
      rw [if_pos hlt]; simp
    · split at h
      · cases h
      · split at h
        · rename_i h1 h2 h3
          simp only [Option.some.injEq, Prod.mk.injEq] at h
          obtain ⟨rfl, rfl⟩ := h
          refine ⟨by rw [h3]; simp, ?_⟩
          have v := val_lt (t.take (b.toNat - 247))
          have : 256 ^ (t.take (b.toNat - 247)).length ≤ 256 ^ 8 := Nat.pow_le_pow_right (by omega) (by simp; omega)
          omega
        · cases h

/-- Of what is cut off nothing is told. -/
theorem read_cut (n : Nat) (h : n < 18446744073709551616) (p q : List UInt8) (e : p ++ q = numB n) (hq : q ≠ []) : readS p = none := by
  cases hr : readS p with
  | none => rfl
  | some x =>
    obtain ⟨m, r⟩ := x
    obtain ⟨e1, h1⟩ := read_form hr
    have a := read_put m h1 (r ++ q)
    rw [← List.append_assoc, e1, e] at a
    have b := read_put n h []
    rw [List.append_nil] at b
    rw [a] at b
    simp only [Option.some.injEq, Prod.mk.injEq, List.append_eq_nil_iff] at b
    exact absurd b.2.2 hq

/-! ### A number from -1 on, and a text -/
def intB (k : Int) : List UInt8 := if k < -1 ∨ 1099511627776 < k then [] else numB (k + 1).toNat
def unintS (s : List UInt8) : Option (Int × List UInt8) := match readS s with
  | none => none
  | some (n, r) => if 1099511627777 < n then none else some ((n : Int) - 1, r)
def textB (t : List UInt8) : List UInt8 := numB t.length ++ t
def cutS (s : List UInt8) : Option (List UInt8 × List UInt8) := match readS s with
  | none => none
  | some (n, r) => if r.length < n then none else some (r.take n, r.drop n)

theorem unint_put (k : Int) (h : -1 ≤ k) (h' : k ≤ 1099511627776) (r : List UInt8) : unintS (intB k ++ r) = some (k, r) := by
  unfold intB unintS
  rw [if_neg (by omega), read_put _ (by omega)]
  simp only
  rw [if_neg (by omega)]
  simp only [Option.some.injEq, Prod.mk.injEq, and_true]
  omega
theorem unint_form {s : List UInt8} {k : Int} {r : List UInt8} (h : unintS s = some (k, r)) : intB k ++ r = s ∧ -1 ≤ k ∧ k ≤ 1099511627776 := by
  unfold unintS at h
  split at h
  · cases h
  · rename_i n r' hr
    split at h
    · cases h
    · simp only [Option.some.injEq, Prod.mk.injEq] at h
      obtain ⟨rfl, rfl⟩ := h
      obtain ⟨e, _⟩ := read_form hr
      refine ⟨?_, by omega, by omega⟩
      unfold intB
      rw [if_neg (by omega), show ((n : Int) - 1 + 1).toNat = n by omega, e]
theorem unint_cut (k : Int) (h : -1 ≤ k) (h' : k ≤ 1099511627776) (p q : List UInt8) (e : p ++ q = intB k) (hq : q ≠ []) : unintS p = none := by
  unfold intB at e
  rw [if_neg (by omega)] at e
  unfold unintS
  rw [read_cut _ (by omega) p q e hq]

theorem cut_put (t : List UInt8) (h : t.length < 18446744073709551616) (r : List UInt8) : cutS (textB t ++ r) = some (t, r) := by
  unfold textB cutS
  rw [List.append_assoc, read_put _ h]
  simp
theorem cut_form {s t r : List UInt8} (h : cutS s = some (t, r)) : textB t ++ r = s ∧ t.length < 18446744073709551616 := by
  unfold cutS at h
  split at h
  · cases h
  · rename_i n r' hr
    split at h
    · cases h
    · simp only [Option.some.injEq, Prod.mk.injEq] at h
      obtain ⟨rfl, rfl⟩ := h
      obtain ⟨e, hn⟩ := read_form hr
      refine ⟨?_, by simp only [List.length_take]; omega⟩
      unfold textB
      rw [List.length_take_of_le (by omega), List.append_assoc, List.take_append_drop, e]
theorem cut_cut (t : List UInt8) (h : t.length < 18446744073709551616) (p q : List UInt8) (e : p ++ q = textB t) (hq : q ≠ []) : cutS p = none := by
  cases hr : cutS p with
  | none => rfl
  | some x =>
    obtain ⟨m, r⟩ := x
    obtain ⟨e1, hm⟩ := cut_form hr
    have a := cut_put m hm (r ++ q)
    rw [← List.append_assoc, e1, e] at a
    have b := cut_put t h []
    rw [List.append_nil] at b
    rw [a] at b
    simp only [Option.some.injEq, Prod.mk.injEq, List.append_eq_nil_iff] at b
    exact absurd b.2.2 hq
end Go.Proofs.Ytbmepaglhkndpaa.Codec
