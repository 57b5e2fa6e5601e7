/-
  The chapter's bucket (filled of fairwaylaw05), and acts as arguments. Conditions: none.
-/
import Derived.Test.YthncfpgmgpnclaaBucB
namespace Go.Proofs.Ythncfpgmgpnclaa.Buc
open Go.RowKit Go.Proofs.Ythncfpgmgpnclaa.Mem

theorem filled_any (w : World) : Calls Try.prog 6 #[] w fun e w' => e = .returned (.bool true) ∧ Below w.heap.size w w' := by
  go_enter Try.func6, Try.ntmps6
  go_wp2_with fail
  refine (show Calls _ _ _ w (NewP w ⟨2, 10, 2, 0, 0⟩) from new_good w 2 10 (by decide)).mono ?_
  rintro e w1 ⟨p, rfl, W1, hp, B1⟩
  go_wp2_with fail
  refine (show Calls _ _ _ w1 (BMut p w1 (.bool true) ⟨2, 10, 1, 0, 0⟩) from take_at w1 p ⟨2, 10, 2, 0, 0⟩ W1 0).mono ?_
  rintro e w2 ⟨rfl, W2, T2⟩
  have B2 : Below w.heap.size w w2 := B1.trans (T2.below B1.size (by simpa using hp))
  clear W1 B1 T2
  go_wp2_with fail
  refine (show Calls _ _ _ w2 (BMut p w2 (.bool true) ⟨2, 10, 0, 0, 0⟩) from take_at w2 p ⟨2, 10, 1, 0, 0⟩ W2 0).mono ?_
  rintro e w3 ⟨rfl, W3, T3⟩
  have B3 : Below w.heap.size w w3 := B2.trans (T3.below B2.size (by simpa using hp))
  clear W2 B2 T3
  go_wp2_with fail
  refine (show Calls _ _ _ w3 (BMut p w3 (.bool false) ⟨2, 10, 0, 0, 0⟩) from take_at w3 p ⟨2, 10, 0, 0, 0⟩ W3 0).mono ?_
  rintro e w4 ⟨rfl, W4, T4⟩
  have B4 : Below w.heap.size w w4 := B3.trans (T4.below B3.size (by simpa using hp))
  clear W3 B3 T4
  go_wp2_with fail
  refine (show Calls _ _ _ w4 (BMut p w4 (.int .i64 0) ⟨2, 10, 0, 0, 9⟩) from left_at w4 p ⟨2, 10, 0, 0, 0⟩ W4 9).mono ?_
  rintro e w5 ⟨rfl, W5, T5⟩
  have B5 : Below w.heap.size w w5 := B4.trans (T5.below B4.size (by simpa using hp))
  clear W4 B4 T5
  go_wp2_with fail
  refine (show Calls _ _ _ w5 (BMut p w5 (.int .i64 1) ⟨2, 10, 1, 10, 10⟩) from left_at w5 p ⟨2, 10, 0, 0, 9⟩ W5 10).mono ?_
  rintro e w6 ⟨rfl, W6, T6⟩
  have B6 : Below w.heap.size w w6 := B5.trans (T6.below B5.size (by simpa using hp))
  clear W5 B5 T6
  go_wp2_with fail
  refine (show Calls _ _ _ w6 (BMut p w6 (.bool true) ⟨2, 10, 0, 10, 15⟩) from take_at w6 p ⟨2, 10, 1, 10, 10⟩ W6 15).mono ?_
  rintro e w7 ⟨rfl, W7, T7⟩
  have B7 : Below w.heap.size w w7 := B6.trans (T7.below B6.size (by simpa using hp))
  clear W6 B6 T7
  go_wp2_with fail
  refine (show Calls _ _ _ w7 (BMut p w7 (.int .i64 0) ⟨2, 10, 0, 10, 19⟩) from left_at w7 p ⟨2, 10, 0, 10, 15⟩ W7 19).mono ?_
  rintro e w8 ⟨rfl, W8, T8⟩
  have B8 : Below w.heap.size w w8 := B7.trans (T8.below B7.size (by simpa using hp))
  clear W7 B7 T8
  go_wp2_with fail
  refine (show Calls _ _ _ w8 (BMut p w8 (.int .i64 1) ⟨2, 10, 1, 20, 20⟩) from left_at w8 p ⟨2, 10, 0, 10, 19⟩ W8 20).mono ?_
  rintro e w9 ⟨rfl, W9, T9⟩
  have B9 : Below w.heap.size w w9 := B8.trans (T9.below B8.size (by simpa using hp))
  clear W8 B8 T9
  go_wp2_with fail
  refine (show Calls _ _ _ w9 (BMut p w9 (.int .i64 1) ⟨2, 10, 1, 20, 20⟩) from left_at w9 p ⟨2, 10, 1, 20, 20⟩ W9 3).mono ?_
  rintro e w10 ⟨rfl, W10, T10⟩
  have B10 : Below w.heap.size w w10 := B9.trans (T10.below B9.size (by simpa using hp))
  clear W9 B9 T10
  go_wp2_with fail
  refine (show Calls _ _ _ w10 (BMut p w10 (.int .i64 2) ⟨2, 10, 2, 30, 30⟩) from left_at w10 p ⟨2, 10, 1, 20, 20⟩ W10 30).mono ?_
  rintro e w11 ⟨rfl, W11, T11⟩
  have B11 : Below w.heap.size w w11 := B10.trans (T11.below B10.size (by simpa using hp))
  clear W10 B10 T11
  go_wp2_with fail
  go_ret
  exact ⟨rfl, B11⟩

def actTy : Ty := .pair (.int .u8) (.pair (.int .i64) .unit)
def actC (k n : Int) : List Value := [.int .u8 k, .int .i64 n]
def actZ : List Value := actC 0 0
theorem zero_act : ∀ w, (zeroValue 32).run Try.prog w = .ok (.agg actZ.toArray) w := fun w => by kernel_rfl
theorem size_act : (Try.prog.info? 32).map (·.size) = some 2 := by kernel_rfl
theorem row_act : ∃ d, Try.prog.underlying 32 = some d ∧ d.isRow = true := ⟨_, Try.underlying32, rfl⟩
theorem act_cellsN (k n : Int) : CellsN 2 (actC k n).toArray := ⟨rfl, all_oneCell_toArray (by simp [actC, Value.oneCell'])⟩
/-- The act number i, in memory. -/
theorem act_at {w : World} {ao : Option Addr} {ln cp : Nat} (f : Fits w (.slice actTy) [.slice ao ln cp]) (i : Nat) (hi : i < ln) :
    ∃ (b o : Nat) (k n : Int), ao = some ⟨b, o, none⟩ ∧ w.rangeAt b (o + i * 2) (actC k n) ∧ (0 ≤ k ∧ k ≤ 255) ∧ (Lit.int .i64 n).wf = true ∧ b < w.heap.size := by
  rcases f with f | ⟨a, len, cap, f, h1, h2, h3⟩
  · simp at f; omega
  · simp at f
    obtain ⟨rfl, rfl, rfl⟩ := f
    obtain ⟨b, o, sp⟩ := a
    obtain ⟨hs, es, hl, hr, hf⟩ := h3 i hi
    simp only at hs hr
    subst hs
    obtain ⟨x, y, rfl, ⟨k, rfl, hk⟩, z, t, rfl, ⟨n, rfl, hn⟩, ht⟩ := hf
    subst ht
    exact ⟨b, o, k, n, rfl, hr, by have := bounds_u8 hk; omega, hn, World.block_lt_of_cell? w _ (hr 0 _ rfl)⟩
theorem len_le {w : World} {e : Ty} {ao : Option Addr} {ln cp : Nat} (f : Fits w (.slice e) [.slice ao ln cp]) : (ln : Int) ≤ 9223372036854775807 := by
  rcases f with f | ⟨a, len, cap, f, h1, h2, _⟩
  · simp at f; omega
  · simp at f; unfold maxLen at h2; omega

end Go.Proofs.Ythncfpgmgpnclaa.Buc
