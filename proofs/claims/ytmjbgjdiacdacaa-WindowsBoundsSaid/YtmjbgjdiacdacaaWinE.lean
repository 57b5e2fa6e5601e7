/-
  Acts of fairwaylaw04 as arguments: by their shape. Conditions: none.
-/
import Derived.Test.YtmjbgjdiacdacaaWinD
namespace Go.Proofs.Ytmjbgjdiacdacaa.Win
open Go.RowKit Go.Proofs.Ytmjbgjdiacdacaa.Mem

def actTy : Ty := .pair (.int .u8) (.pair (.int .i64) .unit)
def actC (k n : Int) : List Value := [.int .u8 k, .int .i64 n]
def actZ : List Value := actC 0 0
theorem zero_act : ∀ w, (zeroValue 33).run Try.prog w = .ok (.agg actZ.toArray) w := fun w => by kernel_rfl
theorem size_act : (Try.prog.info? 33).map (·.size) = some 2 := by kernel_rfl
theorem row_act : ∃ d, Try.prog.underlying 33 = some d ∧ d.isRow = true := ⟨_, Try.underlying33, rfl⟩
theorem act_cellsN (k n : Int) : CellsN 2 (actC k n).toArray := ⟨rfl, all_oneCell_toArray (by simp [actC, Value.oneCell'])⟩

/-- The act number i, in memory. -/
theorem act_at {w : World} {ao : Option Addr} {ln cp : Nat} (f : Fits w (.slice actTy) [.slice ao ln cp]) (i : Nat) (hi : i < ln) :
    ∃ (b o : Nat) (k n : Int), ao = some ⟨b, o, none⟩ ∧ w.rangeAt b (o + i * 2) (actC k n) ∧ (0 ≤ k ∧ k ≤ 255) ∧ (Lit.int .i64 n).wf = true ∧ b < w.heap.size := by
  rcases f with f | ⟨a, len, cap, f, h1, h2, h3⟩
  · simp at f; omega
  · simp at f
    obtain ⟨rfl, rfl, rfl⟩ := f
    obtain ⟨b, o, sp⟩ := a
    obtain ⟨hs, es, hl, hr, hf⟩ := h3 i hi
    simp only at hs hr
    subst hs
    obtain ⟨x, y, rfl, ⟨k, rfl, hk⟩, z, t, rfl, ⟨n, rfl, hn⟩, ht⟩ := hf
    subst ht
    exact ⟨b, o, k, n, rfl, hr, by have := bounds_u8 hk; omega, hn, World.block_lt_of_cell? w _ (hr 0 _ rfl)⟩
theorem len_le {w : World} {e : Ty} {ao : Option Addr} {ln cp : Nat} (f : Fits w (.slice e) [.slice ao ln cp]) : (ln : Int) ≤ 9223372036854775807 := by
  rcases f with f | ⟨a, len, cap, f, h1, h2, _⟩
  · simp at f; omega
  · simp at f; unfold maxLen at h2; omega

theorem free_within {v : V} (h : v.Ok) (h1 : v.l - v.d ≤ v.c) (h2 : v.l ≤ 4000) : v.free = v.c - (v.l - v.d) := by
  obtain ⟨a, b, c, d, e, f, g, i, j⟩ := h
  unfold V.free
  omega
theorem ack_c (v : V) (i : Int) : (v.ack i).c = v.c := by unfold V.ack; split <;> rfl
theorem ack_l (v : V) (i : Int) : (v.ack i).l = v.l := by unfold V.ack; split <;> rfl
theorem V.ack_d (v : V) (i : Int) : v.d ≤ (v.ack i).d := by
  unfold V.ack
  split
  · show v.d ≤ i; omega
  · exact Int.le_refl _
end Go.Proofs.Ytmjbgjdiacdacaa.Win
