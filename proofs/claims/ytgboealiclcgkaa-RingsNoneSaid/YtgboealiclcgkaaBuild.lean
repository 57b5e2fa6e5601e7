/-
  A slice literal of one struct ([]T{x}): its one element's cells are x's. No program's text is named here.
-/
import Derived.Test.YtgboealiclcgkaaBlk
import Derived.Great.BuildSlice
namespace Go.Proofs.Ytgboealiclcgkaa.Mem
open Go.RowKit

theorem foldl_set (l : List Value) : ∀ (k : Nat) (B : Array Value), k + l.length ≤ B.size → ((l.zipIdx k).foldl (fun cs (x : Value × Nat) => cs.setIfInBounds x.2 x.1) B).toList = B.toList.take k ++ (l ++ B.toList.drop (k + l.length)) := by
  induction l with
  | nil => intro k B _; simp
  | cons v r ih =>
    intro k B h
    simp only [List.zipIdx_cons, List.foldl_cons, List.length_cons] at h ⊢
    rw [ih (k + 1) _ (by simp; omega)]
    have e := splice_cons B.toList k v r (by simpa using h)
    unfold splice at e
    rw [Array.toList_setIfInBounds, e]
    simp

theorem fill_one (n : Nat) (B : Array Value) (cs : Array Value) (hB : B.size = n) (hc : cs.size = n) : Instr.fill (fun i => some (i * n, n)) B [(0, .agg cs)] = some cs := by
  have e := foldl_set cs.toList 0 B (by simp; omega)
  simp only [List.take_zero, List.nil_append, Nat.zero_add] at e
  rw [List.drop_of_length_le (by simp; omega), List.append_nil] at e
  have hz : (Value.agg cs).cells = cs := rfl
  have hfold : Array.foldl (fun cs (x : Value × Nat) => cs.setIfInBounds x.2 x.1) B cs.zipIdx 0 n = cs := by
    rw [show n = cs.zipIdx.size by simp [hc]]
    apply Array.toList_inj.1
    rw [← e, ← Array.foldl_toList]
    simp
  simp [Instr.fill, hz, hB, hc, hfold]

theorem wpList_slice1_blk {P : Program} {ops : Array Oper} {rest : List Oper} {op : Oper} {a : Act} {w : World} {Q : Exit → Act → World → Prop} (hg : op.guard = none) (t e : TypeId) (x : Operand) (ho : op.op = .buildSlice t 1 #[(0, x)])
    (cs : List Value) (ie : TypeInfo) (z : Value) (hx : a.eval x = .agg cs.toArray)
    (hu : P.underlying t = some (.slice e)) (hie : P.info? e = some ie) (hz : ie.zero = some z) (hsz : ie.size = cs.length) (h0 : 0 < cs.length) (hb : cs.length ≤ 16777216)
    (h : ∀ W, Below w.heap.size w W → Blk W w.heap.size e cs → W.heap.size = w.heap.size + 1 → wpList P ops Q rest (a.put op.dst (.slice (some ⟨w.heap.size, 0, none⟩) 1 1)) W) : wpList P ops Q (op :: rest) a w := by
  refine wpList_buildSlice hg t e 1 _ ho cs.toArray ie z hu hie hz (by rw [hsz]; simpa using hb) (by rw [hsz]; omega) ?_ (h _ ((Below.refl _ _).alloc (Nat.le_refl _) _) (Blk.new w e cs) (by simp))
  simp only [Array.toList_map, List.map_cons, List.map_nil, hx]
  exact fill_one _ _ _ (by simp) (by simpa using hsz.symm)
end Go.Proofs.Ytgboealiclcgkaa.Mem
