/-
  Acts of fairwaylaw07 as arguments: by their shape. Conditions: none.
-/
import Derived.Test.YtfobljmkckclgaaCtB
namespace Go.Proofs.Ytfobljmkckclgaa.Ct
open Go.RowKit Go.Proofs.Ytfobljmkckclgaa.Mem

def actTy : Ty := .pair (.int .i64) (.pair (.int .i64) .unit)
def actC (i d : Int) : List Value := [.int .i64 i, .int .i64 d]
def actZ : List Value := actC 0 0
theorem zero_act : ∀ w, (zeroValue 35).run Try.prog w = .ok (.agg actZ.toArray) w := fun w => by kernel_rfl
theorem size_act : (Try.prog.info? 35).map (·.size) = some 2 := by kernel_rfl
theorem row_act : ∃ d, Try.prog.underlying 35 = some d ∧ d.isRow = true := ⟨_, Try.underlying35, rfl⟩
theorem act_cellsN (i d : Int) : CellsN 2 (actC i d).toArray := ⟨rfl, all_oneCell_toArray (by simp [actC, Value.oneCell'])⟩
theorem act_fits {w : World} {cs : List Value} (f : Fits w actTy cs) : ∃ i d : Int, cs = actC i d ∧ (-9223372036854775808 ≤ i ∧ i ≤ 9223372036854775807) ∧ (-9223372036854775808 ≤ d ∧ d ≤ 9223372036854775807) := by
  obtain ⟨x, y, rfl, ⟨k, rfl, hk⟩, z, t, rfl, ⟨n, rfl, hn⟩, ht⟩ := f
  subst ht
  exact ⟨k, n, rfl, by have := bounds_i64 hk; omega, by have := bounds_i64 hn; omega⟩
/-- The act number i, in memory. -/
theorem act_at {w : World} {ao : Option Addr} {ln cp : Nat} (f : Fits w (.slice actTy) [.slice ao ln cp]) (i : Nat) (hi : i < ln) :
    ∃ (b o : Nat) (k n : Int), ao = some ⟨b, o, none⟩ ∧ w.rangeAt b (o + i * 2) (actC k n) ∧ (-9223372036854775808 ≤ k ∧ k ≤ 9223372036854775807) ∧ (-9223372036854775808 ≤ n ∧ n ≤ 9223372036854775807) ∧ b < w.heap.size := by
  rcases f with f | ⟨a, len, cap, f, h1, h2, h3⟩
  · simp at f; omega
  · simp at f
    obtain ⟨rfl, rfl, rfl⟩ := f
    obtain ⟨b, o, sp⟩ := a
    obtain ⟨hs, es, hl, hr, hf⟩ := h3 i hi
    simp only at hs hr
    subst hs
    obtain ⟨k, n, rfl, hk, hn⟩ := act_fits hf
    exact ⟨b, o, k, n, rfl, hr, hk, hn, World.block_lt_of_cell? w _ (hr 0 _ rfl)⟩
theorem len_le {w : World} {e : Ty} {ao : Option Addr} {ln cp : Nat} (f : Fits w (.slice e) [.slice ao ln cp]) : (ln : Int) ≤ 9223372036854775807 := by
  rcases f with f | ⟨a, len, cap, f, h1, h2, _⟩
  · simp at f; omega
  · simp at f; unfold maxLen at h2; omega
end Go.Proofs.Ytfobljmkckclgaa.Ct
