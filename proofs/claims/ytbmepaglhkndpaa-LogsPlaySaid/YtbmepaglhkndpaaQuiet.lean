/-
  A region that draws its order and holds calls that make memory of their own, walked once in the text's order: each operation yields one value in every world of a class S. Which blocks stay as they are (Kept). No program's text is named here. Conditions: those that each lemma names.
-/
import Derived.Test.YtbmepaglhkndpaaBlk
namespace Go.Proofs.Ytbmepaglhkndpaa.Mem
open Go.RowKit

/-- A world of the class S. -/
structure Wd (S : World → Prop) where
  w : World
  h : S w
/-- A region that draws its order, every operation quiet in the class S: one walk. Ahead of the steps: 'haveI : Nonempty (Wd S) := ⟨⟨_, h0⟩⟩'. -/
theorem wp_region_wd {P : Program} {id : Nat} {Q : Exit → Act → World → Prop} {a : Act} {w : World} {l : List Oper} (S : World → Prop) (h0 : S w.drew) (hm : P.follows .mixedOrders = true) (hB : Region.lexB .any l.toArray = true)
    (h : wpQuiet P l.toArray (fun w' => ∃ p : Wd S, w' = p.w) (fun a' => ∀ w', (∃ p : Wd S, w' = p.w) → Q .normal a' w') l a) : (Code.region id l.toArray true).wp P Q a w :=
  wp_region_quiet (C := fun w' => ∃ p : Wd S, w' = p.w) hm hB ⟨⟨_, h0⟩, rfl⟩ (by simpa using h)
/-- A call whose contract leaves the class alone. -/
theorem Wd.call {P : Program} {f : FuncId} {args : Array Value} {S : World → Prop} {p : Wd S} {v : Value} (h : Calls P f args p.w fun e w' => e = .returned v ∧ Below p.w.heap.size p.w w') (hS : ∀ W W', S W → Below W.heap.size W W' → S W') :
    Calls P f args p.w fun e w'' => e = .returned v ∧ ∃ q : Wd S, w'' = q.w :=
  h.mono fun _ w' ⟨he, hb⟩ => ⟨he, ⟨w', hS _ _ p.h hb⟩, rfl⟩
theorem Wd.same {P : Program} {f : FuncId} {args : Array Value} {S : World → Prop} {p : Wd S} {v : Value} (h : Calls P f args p.w fun e w' => e = .returned v ∧ w' = p.w) :
    Calls P f args p.w fun e w'' => e = .returned v ∧ ∃ q : Wd S, w'' = q.w :=
  h.mono fun _ _ ⟨he, hb⟩ => ⟨he, p, hb⟩

/-- Since w0 nothing that was there has turned; these blocks hold these cells. -/
def Kept (w0 : World) (L : List (Nat × TypeId × List Value)) (W : World) : Prop := Turned [] w0 W ∧ ∀ x ∈ L, Blk W x.1 x.2.1 x.2.2
theorem Kept.start (w : World) : Kept w [] w := ⟨Turned.of_below (Below.refl _ _), by simp⟩
theorem Kept.drew {w0 W : World} {L} (h : Kept w0 L W) : Kept w0 L W.drew := ⟨⟨h.1.os, h.1.tape, h.1.output, h.1.size, h.1.block⟩, h.2⟩
theorem Kept.below {w0 W W' : World} {L} (h : Kept w0 L W) (hb : Below W.heap.size W W') : Kept w0 L W' := ⟨h.1.trans (Turned.of_below hb) (by simp), fun x hx => (h.2 x hx).below hb (h.2 x hx).lt⟩
theorem Kept.blk {w0 W : World} {L} (h : Kept w0 L W) {b : Nat} {T : TypeId} {cs : List Value} (hx : (b, T, cs) ∈ L) : Blk W b T cs := h.2 _ hx
theorem Kept.lt {w0 W : World} {L} (h : Kept w0 L W) {b : Nat} {T : TypeId} {cs : List Value} (hx : (b, T, cs) ∈ L) : b < W.heap.size := (h.2 _ hx).lt
theorem Kept.add {w0 W : World} {L} (h : Kept w0 L W) {b : Nat} {T : TypeId} {cs : List Value} (hb : Blk W b T cs) : Kept w0 ((b, T, cs) :: L) W := ⟨h.1, fun x hx => by
  rcases List.mem_cons.1 hx with rfl | hx
  · exact hb
  · exact h.2 x hx⟩
theorem Kept.less {w0 W : World} {L L'} (h : Kept w0 L W) (hs : ∀ x ∈ L', x ∈ L) : Kept w0 L' W := ⟨h.1, fun x hx => h.2 x (hs x hx)⟩
/-- A block of the call's own has turned. -/
theorem Kept.turned {w0 W W' : World} {L} (h : Kept w0 L W) {b : Nat} (ht : Turned [b] W W') (hb : w0.heap.size ≤ b) (hL : ∀ x ∈ L, x.1 ≠ b) : Kept w0 L W' :=
  ⟨h.1.trans ht (fun k hk hm => by simp at hm; omega), fun x hx => ht.blk (h.2 x hx) (by simp; exact hL x hx)⟩
theorem Kept.ends {w0 W : World} {L} (h : Kept w0 L W) : Below w0.heap.size w0 W := h.1.below (Nat.le_refl _) (by simp)
end Go.Proofs.Ytbmepaglhkndpaa.Mem
