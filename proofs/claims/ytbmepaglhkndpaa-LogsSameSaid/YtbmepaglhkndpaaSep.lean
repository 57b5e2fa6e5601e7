/-
  Objects that lie apart: each with its blocks and with what holds of it; what a call leaves of the others. No program's text is named here. Conditions: those that each lemma names.
-/
import Derived.Test.YtbmepaglhkndpaaBlk
namespace Go.Proofs.Ytbmepaglhkndpaa.Mem
open Go.RowKit

/-- An object: its blocks; what holds of it, as long as none of these turns. -/
structure Ob where
  S : List Nat
  I : World → Prop
  keep : ∀ {S' : List Nat} {W W' : World}, I W → Turned S' W W' → (∀ b ∈ S, b ∉ S') → I W'
  lt : ∀ {W : World}, I W → ∀ b ∈ S, b < W.heap.size
/-- A block that holds these cells. -/
def blkOb (b : Nat) (T : TypeId) (cs : List Value) : Ob := ⟨[b], fun W => Blk W b T cs, fun h t hd => t.blk h (hd b (by simp)), fun h x hx => by simp at hx; subst hx; exact h.lt⟩
/-- Since w0 nothing that was there has turned; these objects lie in new blocks, each apart from the others. -/
structure Sep (w0 : World) (obs : List Ob) (W : World) : Prop where
  old : Turned [] w0 W
  has : ∀ o ∈ obs, o.I W
  new : ∀ o ∈ obs, ∀ b ∈ o.S, w0.heap.size ≤ b
  apart : obs.Pairwise (fun a b => ∀ x ∈ a.S, x ∉ b.S)
namespace Sep
variable {w0 W W' : World} {obs : List Ob}
theorem start (w : World) : Sep w [] w := ⟨Turned.of_below (Below.refl _ _), by simp, by simp, List.Pairwise.nil⟩
theorem size (h : Sep w0 obs W) : w0.heap.size ≤ W.heap.size := h.old.size
theorem below (h : Sep w0 obs W) (hb : Below W.heap.size W W') : Sep w0 obs W' :=
  ⟨h.old.trans (Turned.of_below hb) (by simp), fun o ho => o.keep (h.has o ho) (Turned.of_below hb) (by simp), h.new, h.apart⟩
theorem drew (h : Sep w0 obs W) : Sep w0 obs W.drew := h.below ⟨rfl, rfl, rfl, Nat.le_refl _, fun _ _ => rfl⟩
theorem ends (h : Sep w0 obs W) : Below w0.heap.size w0 W := h.old.below (Nat.le_refl _) (by simp)
theorem get (h : Sep w0 obs W) {o : Ob} (ho : o ∈ obs) : o.I W := h.has o ho
theorem blk (h : Sep w0 obs W) {b : Nat} {T : TypeId} {cs : List Value} (ho : blkOb b T cs ∈ obs) : Blk W b T cs := h.has _ ho
theorem less (h : Sep w0 obs W) {obs' : List Ob} (hs : obs'.Sublist obs) : Sep w0 obs' W :=
  ⟨h.old, fun o ho => h.has o (hs.subset ho), fun o ho => h.new o (hs.subset ho), h.apart.sublist hs⟩
theorem perm (h : Sep w0 obs W) {obs' : List Ob} (hp : obs.Perm obs') : Sep w0 obs' W :=
  ⟨h.old, fun o ho => h.has o (hp.mem_iff.2 ho), fun o ho => h.new o (hp.mem_iff.2 ho), hp.pairwise h.apart (fun hab x hx hx' => hab x hx' hx)⟩
/-- A new object. -/
theorem push (h : Sep w0 obs W) (hb : Below W.heap.size W W') (o : Ob) (hI : o.I W') (hS : ∀ b ∈ o.S, W.heap.size ≤ b) : Sep w0 (o :: obs) W' := by
  have hk := h.below hb
  refine ⟨hk.old, fun x hx => ?_, fun x hx => ?_, List.pairwise_cons.2 ⟨fun x hx b hb hb' => ?_, h.apart⟩⟩
  · rcases List.mem_cons.1 hx with rfl | hx
    · exact hI
    · exact hk.has x hx
  · rcases List.mem_cons.1 hx with rfl | hx
    · exact fun b hb => Nat.le_trans h.size (hS b hb)
    · exact h.new x hx
  · have h1 := hS b hb
    have h2 := x.lt (h.has x hx) b hb'
    omega
/-- A new block. -/
theorem pushBlk (h : Sep w0 obs W) (hb : Below W.heap.size W W') {T : TypeId} {cs : List Value} (hK : Blk W' W.heap.size T cs) : Sep w0 (blkOb W.heap.size T cs :: obs) W' :=
  h.push hb (blkOb W.heap.size T cs) hK (fun b hb => by simp [blkOb] at hb; omega)
/-- One object has turned; what is new of it lies in new blocks. -/
theorem act (pre : List Ob) {o : Ob} {post : List Ob} (h : Sep w0 (pre ++ o :: post) W) (t : Turned o.S W W') (o' : Ob) (hI : o'.I W') (hS : ∀ b ∈ o'.S, b ∈ o.S ∨ W.heap.size ≤ b) : Sep w0 (pre ++ o' :: post) W' := by
  obtain ⟨a1, a2, a3⟩ := List.pairwise_append.1 h.apart
  obtain ⟨a4, a5⟩ := List.pairwise_cons.1 a2
  have hno : ∀ x, x ∈ pre ∨ x ∈ post → ∀ b ∈ x.S, b ∉ o.S := fun x hx b hb hb' => by
    rcases hx with hx | hx
    · exact a3 x hx o (by simp) b hb hb'
    · exact a4 x hx b hb' hb
  have hmem : ∀ x, x ∈ pre ∨ x ∈ post → x ∈ pre ++ o :: post := fun x hx => by simp; rcases hx with hx | hx <;> simp [hx]
  have hlt : ∀ x, x ∈ pre ∨ x ∈ post → ∀ b ∈ x.S, b ∉ o'.S := fun x hx b hb hb' => by
    rcases hS b hb' with h1 | h1
    · exact hno x hx b hb h1
    · have := x.lt (h.has x (hmem x hx)) b hb
      omega
  refine ⟨h.old.trans t (fun k hk hm => ?_), fun x hx => ?_, fun x hx => ?_, List.pairwise_append.2 ⟨a1, List.pairwise_cons.2 ⟨fun x hx b hb hb' => hlt x (.inr hx) b hb' hb, a5⟩, fun x hx z hz b hb hb' => ?_⟩⟩
  · have := h.new o (by simp) k hm
    omega
  · simp at hx
    rcases hx with hx | rfl | hx
    · exact x.keep (h.has x (hmem x (.inl hx))) t (hno x (.inl hx))
    · exact hI
    · exact x.keep (h.has x (hmem x (.inr hx))) t (hno x (.inr hx))
  · simp at hx
    rcases hx with hx | rfl | hx
    · exact h.new x (hmem x (.inl hx))
    · exact fun b hb => by
        rcases hS b hb with h1 | h1
        · exact h.new o (by simp) b h1
        · exact Nat.le_trans h.size h1
    · exact h.new x (hmem x (.inr hx))
  · rcases List.mem_cons.1 hz with rfl | hz
    · exact hlt x (.inl hx) b hb hb'
    · exact a3 x hx z (by simp [hz]) b hb hb'
/-- A block has turned. -/
theorem turn (pre : List Ob) {b : Nat} {T : TypeId} {cs cs' : List Value} {post : List Ob} (h : Sep w0 (pre ++ blkOb b T cs :: post) W) (t : Turned [b] W W') (hK : Blk W' b T cs') : Sep w0 (pre ++ blkOb b T cs' :: post) W' :=
  h.act pre t (blkOb b T cs') hK (fun _ hx => .inl hx)
theorem act0 {o : Ob} {post : List Ob} (h : Sep w0 (o :: post) W) (t : Turned o.S W W') (o' : Ob) (hI : o'.I W') (hS : ∀ b ∈ o'.S, b ∈ o.S ∨ W.heap.size ≤ b) : Sep w0 (o' :: post) W' := act [] h t o' hI hS
theorem turn0 {k : Nat} {T : TypeId} {cs cs' : List Value} {post : List Ob} (h : Sep w0 (blkOb k T cs :: post) W) (t : Turned [k] W W') (hK : Blk W' k T cs') : Sep w0 (blkOb k T cs' :: post) W' := turn [] h t hK
theorem act1 {a : Ob} {o : Ob} {post : List Ob} (h : Sep w0 (a :: o :: post) W) (t : Turned o.S W W') (o' : Ob) (hI : o'.I W') (hS : ∀ b ∈ o'.S, b ∈ o.S ∨ W.heap.size ≤ b) : Sep w0 (a :: o' :: post) W' := act [a] h t o' hI hS
theorem turn1 {a : Ob} {k : Nat} {T : TypeId} {cs cs' : List Value} {post : List Ob} (h : Sep w0 (a :: blkOb k T cs :: post) W) (t : Turned [k] W W') (hK : Blk W' k T cs') : Sep w0 (a :: blkOb k T cs' :: post) W' := turn [a] h t hK
theorem act2 {a b : Ob} {o : Ob} {post : List Ob} (h : Sep w0 (a :: b :: o :: post) W) (t : Turned o.S W W') (o' : Ob) (hI : o'.I W') (hS : ∀ b ∈ o'.S, b ∈ o.S ∨ W.heap.size ≤ b) : Sep w0 (a :: b :: o' :: post) W' := act [a, b] h t o' hI hS
theorem turn2 {a b : Ob} {k : Nat} {T : TypeId} {cs cs' : List Value} {post : List Ob} (h : Sep w0 (a :: b :: blkOb k T cs :: post) W) (t : Turned [k] W W') (hK : Blk W' k T cs') : Sep w0 (a :: b :: blkOb k T cs' :: post) W' := turn [a, b] h t hK
theorem act3 {a b c : Ob} {o : Ob} {post : List Ob} (h : Sep w0 (a :: b :: c :: o :: post) W) (t : Turned o.S W W') (o' : Ob) (hI : o'.I W') (hS : ∀ b ∈ o'.S, b ∈ o.S ∨ W.heap.size ≤ b) : Sep w0 (a :: b :: c :: o' :: post) W' := act [a, b, c] h t o' hI hS
theorem turn3 {a b c : Ob} {k : Nat} {T : TypeId} {cs cs' : List Value} {post : List Ob} (h : Sep w0 (a :: b :: c :: blkOb k T cs :: post) W) (t : Turned [k] W W') (hK : Blk W' k T cs') : Sep w0 (a :: b :: c :: blkOb k T cs' :: post) W' := turn [a, b, c] h t hK
end Sep
end Go.Proofs.Ytbmepaglhkndpaa.Mem
