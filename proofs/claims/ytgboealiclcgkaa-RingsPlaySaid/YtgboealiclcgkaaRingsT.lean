/-
  The document's answer for layer 3 (fairwayref03): Same of two frames that are the same.
-/
import Derived.Test.YtgboealiclcgkaaRingsF
namespace Go.Proofs.Ytgboealiclcgkaa.Rings
open Go.RowKit Go.Proofs.Ytgboealiclcgkaa.Mem

theorem memC_get (ms : List (Int × Int)) (k : Nat) (hk : k < ms.length) : (memC ms)[k * 2]? = some (nI ms[k].1) ∧ (memC ms)[k * 2 + 1]? = some (nI ms[k].2) := by
  induction ms generalizing k with
  | nil => simp at hk
  | cons m r ih =>
    cases k with
    | zero => simp [memC]
    | succ k =>
      have := ih k (by simpa using hk)
      have e : memC (m :: r) = nI m.1 :: nI m.2 :: memC r := rfl
      rw [e, show (k + 1) * 2 = k * 2 + 1 + 1 by omega]
      simpa using this

/-- The cells of a frame, one by one. -/
structure Cells (W : World) (b : Nat) (x : FrV) (a : Option Addr) (p : Nat) : Prop where
  c0 : W.cell? ⟨b, 0, none⟩ = some (.int .i64 x.i0)
  c1 : W.cell? ⟨b, 1, none⟩ = some (.int .i64 x.i1)
  c2 : W.cell? ⟨b, 2, none⟩ = some (.int .i64 x.i2)
  c3 : W.cell? ⟨b, 3, none⟩ = some (.int .i64 x.i3)
  c4 : W.cell? ⟨b, 4, none⟩ = some (.int .i64 x.i4)
  c5 : W.cell? ⟨b, 5, none⟩ = some (.int .i64 x.i5)
  c6 : W.cell? ⟨b, 6, none⟩ = some (.int .i64 x.i6)
  c7 : W.cell? ⟨b, 7, none⟩ = some (.int .i64 x.o0)
  c8 : W.cell? ⟨b, 8, none⟩ = some (.string x.o1)
  c9 : W.cell? ⟨b, 9, none⟩ = some (.string x.o2)
  c10 : W.cell? ⟨b, 10, none⟩ = some (.int .i64 x.o3)
  c11 : W.cell? ⟨b, 11, none⟩ = some (.int .i64 x.r0)
  c12 : W.cell? ⟨b, 12, none⟩ = some (.string x.r1)
  c13 : W.cell? ⟨b, 13, none⟩ = some (.int .i64 x.r2)
  c14 : W.cell? ⟨b, 14, none⟩ = some (.int .i64 x.r3)
  c15 : W.cell? ⟨b, 15, none⟩ = some (.int .i64 x.rs)
  c16 : W.cell? ⟨b, 16, none⟩ = some (.int .i64 x.e0)
  c17 : W.cell? ⟨b, 17, none⟩ = some (.int .i64 x.e1)
  c18 : W.cell? ⟨b, 18, none⟩ = some (.int .i64 x.e2)
  c19 : W.cell? ⟨b, 19, none⟩ = some (.int .i64 x.p0)
  c20 : W.cell? ⟨b, 20, none⟩ = some (.string x.p1)
  c21 : W.cell? ⟨b, 21, none⟩ = some (.string x.p2)
  c22 : W.cell? ⟨b, 22, none⟩ = some (.int .i64 x.p3)
  c23 : W.cell? ⟨b, 23, none⟩ = some (.int .i64 x.c0)
  c24 : W.cell? ⟨b, 24, none⟩ = some (.slice a x.ms.length p)
  c25 : W.cell? ⟨b, 25, none⟩ = some (.int .i64 x.c2)
  c26 : W.cell? ⟨b, 26, none⟩ = some (.int .i64 x.x0)
  c27 : W.cell? ⟨b, 27, none⟩ = some (.int .i64 x.x1)
  c28 : W.cell? ⟨b, 28, none⟩ = some (.int .i64 x.x2)
theorem cells_of {W : World} {b : Nat} {x : FrV} {a : Option Addr} {p : Nat} {cs : List Value} (h : Blk W b 42 cs) (e : cs = x.fr.pre ++ .slice a x.ms.length p :: x.fr.post) : Cells W b x a p := by
  subst e
  exact ⟨h.cell 0, h.cell 1, h.cell 2, h.cell 3, h.cell 4, h.cell 5, h.cell 6, h.cell 7, h.cell 8, h.cell 9, h.cell 10, h.cell 11, h.cell 12, h.cell 13, h.cell 14, h.cell 15, h.cell 16, h.cell 17, h.cell 18, h.cell 19, h.cell 20, h.cell 21, h.cell 22, h.cell 23, h.cell 24, h.cell 25, h.cell 26, h.cell 27, h.cell 28⟩

set_option maxRecDepth 100000 in
set_option maxHeartbeats 2000000 in
theorem same_yes (w : World) (c1 c2 : List Value) (x : FrV) (I1 I2 : List Nat) (h1 : FrAt w c1 x.fr x.fr.n I1) (h2 : FrAt w c2 x.fr x.fr.n I2) (hI1 : ∀ b ∈ I1, b < w.heap.size) (hI2 : ∀ b ∈ I2, b < w.heap.size) (hms : x.ms.length ≤ 1000000) :
    Calls Try.prog 19 #[.agg c1.toArray, .agg c2.toArray] w fun e w' => e = .returned (.bool true) ∧ Below w.heap.size w w' := by
  obtain ⟨v1, e1, s1⟩ := h1
  obtain ⟨v2, e2, s2⟩ := h2
  rw [FrV.n_eq] at s1 s2
  obtain ⟨a1, p1, rfl, g1, g2, g3, g4⟩ := s1
  obtain ⟨a2, p2, rfl, g5, g6, g7, g8⟩ := s2
  obtain ⟨i0, hi, hz0, hz1, hz2⟩ := info_parts info_mem
  clear hi hz0 hz1 hz2
  replace e1 := Lib.hid e1
  replace e2 := Lib.hid e2
  replace g4 := Lib.hid g4
  replace g8 := Lib.hid g8
  have g3' := fun h => (g3 h).1
  have g7' := fun h => (g7 h).1
  clear g3 g7
  unfold maxLen at g2 g6
  go_enter Try.func19, Try.ntmps19
  go_wp2_with (first
    | ((with_reducible show wpList _ _ _ (⟨some 2, .box _ _, _, _, _, _⟩ :: _) _ _); refine wpList_box_blk rfl 42 _ rfl c1 rfl ?_; intro W1 B1 K1 S1; clear S1; have l1 := K1.lt)
    | ((with_reducible show wpList _ _ _ (⟨some 3, .box _ _, _, _, _, _⟩ :: _) _ _); refine wpList_box_blk rfl 42 _ rfl c2 rfl ?_; intro W2 B2 K2 S2; clear S2; have K1' := K1.below B2 l1; obtain ⟨q0, q1, q2, q3, q4, q5, q6, q7, q8, q9, q10, q11, q12, q13, q14, q15, q16, q17, q18, q19, q20, q21, q22, q23, q24, q25, q26, q27, q28⟩ := cells_of K1' e1.out; obtain ⟨r0, r1, r2, r3, r4, r5, r6, r7, r8, r9, r10, r11, r12, r13, r14, r15, r16, r17, r18, r19, r20, r21, r22, r23, r24, r25, r26, r27, r28⟩ := cells_of K2 e2.out))
  have B02 : Below w.heap.size w W2 := B1.trans (B2.mono B1.size)
  have hms' : (x.ms.length : Int) ≤ 1000000 := by omega
  have hmem : ∀ (a : Option Addr) (I : List Nat), (∀ b ∈ I, b < w.heap.size) → (∀ a', a = some a' → (0 < x.ms.length → a'.spot = none ∧ a'.block ∈ I) ∧ w.rangeAt a'.block a'.off x.fr.mem) → (a = none → x.ms.length = 0) → ∀ k, (hk : k < x.ms.length) → ∃ b o, a = some ⟨b, o, none⟩ ∧
      W2.cell? ⟨b, o + k * 2, none⟩ = some (.int .i64 x.ms[k].1) ∧ W2.cell? ⟨b, o + k * 2 + 1, none⟩ = some (.int .i64 x.ms[k].2) := by
    intro a I hI h hn k hk
    cases a with
    | none => have := hn rfl; omega
    | some a =>
      obtain ⟨b, o, sp⟩ := a
      obtain ⟨h1, h2⟩ := h _ rfl
      obtain ⟨rfl, hb⟩ := h1 (by omega)
      obtain ⟨m1, m2⟩ := memC_get x.ms k hk
      exact ⟨b, o, rfl, (B02.cell (hI b hb)).trans (h2 (k * 2) _ m1), by
        have := (B02.cell (p := ⟨b, o + (k * 2 + 1), none⟩) (hI b hb)).trans (h2 (k * 2 + 1) _ m2)
        rwa [show o + k * 2 + 1 = o + (k * 2 + 1) by omega]⟩
  have M1 := Lib.hid (hmem a1 I1 hI1 g4.out g3')
  have M2 := Lib.hid (hmem a2 I2 hI2 g8.out g7')
  clear hmem g3' g7'
  go_loopw [5] (fun i wr => ∃ k m : Nat, k ≤ x.ms.length ∧ i = .int .i64 (k : Int) ∧ wr = W2.drewN m) (fun i _ => x.ms.length - (intOf i).toNat)
  case atStart => exact ⟨0, 0, Nat.zero_le _, rfl, rfl⟩
  case round =>
    obtain ⟨k, m, hk, rfl, rfl⟩ := hrel
    by_cases hlt : k < x.ms.length
    · obtain ⟨b1, o1, rfl, y1, y2⟩ := M1.out k hlt
      obtain ⟨b2, o2, rfl, y3, y4⟩ := M2.out k hlt
      generalize x.ms[k] = mk at *
      have k0 : (0 : Int) ≤ (k : Int) := by omega
      have k1 : (k : Int) < (x.ms.length : Int) := by omega
      go_wp2_with fail
      go_quiet (fail)
      go_wp2
      go_roundw
      case rel => exact ⟨k + 1, m + nq, by omega, by go_num, rfl⟩
      case measure => simp [intOf]; omega
    · have hkk : k = x.ms.length := by omega
      subst hkk
      go_wp2
      go_ret
      exact ⟨rfl, below_drewN B02 _⟩
end Go.Proofs.Ytgboealiclcgkaa.Rings
