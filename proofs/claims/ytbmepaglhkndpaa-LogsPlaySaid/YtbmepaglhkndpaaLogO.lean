/-
  Logs as objects that lie apart (Sep): what a call on one of them leaves. Conditions: those that each lemma names.
-/
import Derived.Test.YtbmepaglhkndpaaLogB
import Derived.Test.YtbmepaglhkndpaaSep
namespace Go.Proofs.Ytbmepaglhkndpaa.Logs
open Go.RowKit Go.Proofs.Ytbmepaglhkndpaa.Mem Go.Proofs.Ytbmepaglhkndpaa.Ops Go.Proofs.Ytbmepaglhkndpaa.Kv
variable {w0 W W' : World} {obs post : List Ob} {a b c : Ob} {p q base x : Nat} {S S' : List Nat} {v v' : Value} {L L' : List E} {T : TypeId} {cs cs' : List Value}
theorem sepLg (h : Hid (Sep w0 obs W)) (ho : lgOb p S L ∈ obs) : LgAt W p S L := h.out.has _ ho
theorem sepRf (h : Hid (Sep w0 obs W)) (ho : refOb q base v L ∈ obs) : RefAt W q base v L := h.out.has _ ho
theorem sepBlk (h : Hid (Sep w0 obs W)) (ho : blkOb x T cs ∈ obs) : Blk W x T cs := h.out.has _ ho
theorem sepBelow (h : Hid (Sep w0 obs W)) (hb : Below W.heap.size W W') : Hid (Sep w0 obs W') := Lib.hid (h.out.below hb)
theorem sepLg0 (h : Hid (Sep w0 (lgOb p S L :: post) W)) (t : Turned S W W') (hI : LgAt W' p S' L') (hS : ∀ b ∈ S', b ∈ S ∨ W.heap.size ≤ b) : Hid (Sep w0 (lgOb p S' L' :: post) W') := Lib.hid (Sep.act [] h.out t (lgOb p S' L') hI hS)
theorem sepLg1 (h : Hid (Sep w0 (a :: lgOb p S L :: post) W)) (t : Turned S W W') (hI : LgAt W' p S' L') (hS : ∀ b ∈ S', b ∈ S ∨ W.heap.size ≤ b) : Hid (Sep w0 (a :: lgOb p S' L' :: post) W') := Lib.hid (Sep.act [a] h.out t (lgOb p S' L') hI hS)
theorem sepLg2 (h : Hid (Sep w0 (a :: b :: lgOb p S L :: post) W)) (t : Turned S W W') (hI : LgAt W' p S' L') (hS : ∀ b ∈ S', b ∈ S ∨ W.heap.size ≤ b) : Hid (Sep w0 (a :: b :: lgOb p S' L' :: post) W') := Lib.hid (Sep.act [a, b] h.out t (lgOb p S' L') hI hS)
theorem sepLg3 (h : Hid (Sep w0 (a :: b :: c :: lgOb p S L :: post) W)) (t : Turned S W W') (hI : LgAt W' p S' L') (hS : ∀ b ∈ S', b ∈ S ∨ W.heap.size ≤ b) : Hid (Sep w0 (a :: b :: c :: lgOb p S' L' :: post) W') := Lib.hid (Sep.act [a, b, c] h.out t (lgOb p S' L') hI hS)
theorem sepRf2 (h : Hid (Sep w0 (a :: b :: refOb q base v L :: post) W)) (t : Turned [q] W W') (hI : RefAt W' q base v' L') (hv : v' = v ∨ ∀ k, v'.ownBlock = some k → W.heap.size ≤ k) : Hid (Sep w0 (a :: b :: refOb q base v' L' :: post) W') := by
  refine Lib.hid (Sep.act [a, b] h.out (t.mono ?_) (refOb q base v' L') hI ?_)
  · intro k _ hk; simp at hk; simp [refOb, hk]
  · intro y hy
    rcases List.mem_cons.1 hy with rfl | hy
    · exact .inl (by simp [refOb])
    · rcases hv with rfl | hv
      · exact .inl (List.mem_cons_of_mem _ hy)
      · exact .inr (hv y (by simpa using hy))
theorem sepEnd (obs : List Ob) (h : Hid (Sep w0 obs W)) (hb : Below W.heap.size W W') (hK : Blk W' x T cs) (hx : W.heap.size ≤ x) : Hid (Sep w0 (obs ++ [blkOb x T cs]) W') :=
  Lib.hid ((h.out.push hb (blkOb x T cs) hK (fun y hy => by simp [blkOb] at hy; omega)).perm (by have := (List.perm_append_comm (l₁ := [blkOb x T cs]) (l₂ := obs)); simpa using this))
theorem sepEnd4 {o1 o2 o3 o4 : Ob} (h : Hid (Sep w0 [o1, o2, o3, o4] W)) (hb : Below W.heap.size W W') (hK : Blk W' x T cs) (hx : W.heap.size ≤ x) : Hid (Sep w0 [o1, o2, o3, o4, blkOb x T cs] W') := sepEnd [o1, o2, o3, o4] h hb hK hx
theorem sepEnd5 {o1 o2 o3 o4 o5 : Ob} (h : Hid (Sep w0 [o1, o2, o3, o4, o5] W)) (hb : Below W.heap.size W W') (hK : Blk W' x T cs) (hx : W.heap.size ≤ x) : Hid (Sep w0 [o1, o2, o3, o4, o5, blkOb x T cs] W') := sepEnd [o1, o2, o3, o4, o5] h hb hK hx
theorem sepBlk4 {o1 o2 o3 o4 : Ob} (h : Hid (Sep w0 (o1 :: o2 :: o3 :: o4 :: blkOb x T cs :: post) W)) (t : Turned [x] W W') (hI : Blk W' x T cs') : Hid (Sep w0 (o1 :: o2 :: o3 :: o4 :: blkOb x T cs' :: post) W') := Lib.hid (Sep.turn [o1, o2, o3, o4] h.out t hI)
theorem sepBlk5 {o1 o2 o3 o4 o5 : Ob} (h : Hid (Sep w0 (o1 :: o2 :: o3 :: o4 :: o5 :: blkOb x T cs :: post) W)) (t : Turned [x] W W') (hI : Blk W' x T cs') : Hid (Sep w0 (o1 :: o2 :: o3 :: o4 :: o5 :: blkOb x T cs' :: post) W') := Lib.hid (Sep.turn [o1, o2, o3, o4, o5] h.out t hI)
theorem sepAlloc4 {o1 o2 o3 o4 : Ob} (h : Hid (Sep w0 [o1, o2, o3, o4] W)) : Hid (Sep w0 [o1, o2, o3, o4, blkOb W.heap.size T cs] (W.alloc (.cells cs.toArray T))) := sepEnd4 h ((Below.refl _ _).alloc (Nat.le_refl _) _) (Blk.new W T cs) (Nat.le_refl _)
theorem sepAlloc5 {o1 o2 o3 o4 o5 : Ob} (h : Hid (Sep w0 [o1, o2, o3, o4, o5] W)) : Hid (Sep w0 [o1, o2, o3, o4, o5, blkOb W.heap.size T cs] (W.alloc (.cells cs.toArray T))) := sepEnd5 h ((Below.refl _ _).alloc (Nat.le_refl _) _) (Blk.new W T cs) (Nat.le_refl _)
theorem turnedSets {W : World} {x : Nat} (o : Nat) (cs : List Value) : Turned [x] W (W.setCells x o cs) := (⟨rfl, rfl, rfl, Nat.le_refl _, fun _ _ _ => rfl⟩ : Turned [x] W W).setCells (.inl (by simp)) o _
theorem blkSets (h : Blk W x T cs) (hl : cs.length = cs'.length) : Blk (W.setCells x 0 cs') x T cs' := by
  have := h.sets cs' 0 (by omega)
  rwa [show splice cs 0 cs' = cs' by unfold splice; rw [List.drop_of_length_le (by omega)]; simp] at this
theorem sepSet4 {o1 o2 o3 o4 : Ob} (h : Hid (Sep w0 (o1 :: o2 :: o3 :: o4 :: blkOb x T cs :: post) W)) (hl : cs.length = cs'.length) : Hid (Sep w0 (o1 :: o2 :: o3 :: o4 :: blkOb x T cs' :: post) (W.setCells x 0 cs')) :=
  sepBlk4 h (turnedSets 0 cs') (blkSets (h.out.blk (by simp)) hl)
theorem sepSet5 {o1 o2 o3 o4 o5 : Ob} (h : Hid (Sep w0 (o1 :: o2 :: o3 :: o4 :: o5 :: blkOb x T cs :: post) W)) (hl : cs.length = cs'.length) : Hid (Sep w0 (o1 :: o2 :: o3 :: o4 :: o5 :: blkOb x T cs' :: post) (W.setCells x 0 cs')) :=
  sepBlk5 h (turnedSets 0 cs') (blkSets (h.out.blk (by simp)) hl)
theorem sepDrew (h : Hid (Sep w0 obs W)) : Hid (Sep w0 obs W.drew) := Lib.hid h.out.drew
theorem sepMid {o1 o2 o3 o4 : Ob} (h : Hid (Sep w0 (o1 :: o2 :: o3 :: o4 :: post) W)) : Sep w0 [o3, o4] W := h.out.less ((List.sublist_append_right [o1, o2] [o3, o4]).trans (List.sublist_append_left [o1, o2, o3, o4] post))
theorem sepBlk1 (h : Hid (Sep w0 (a :: blkOb x T cs :: post) W)) (t : Turned [x] W W') (hI : Blk W' x T cs') : Hid (Sep w0 (a :: blkOb x T cs' :: post) W') := Lib.hid (Sep.turn [a] h.out t hI)
theorem sepTail2 (h : Hid (Sep w0 (a :: b :: post) W)) : Sep w0 post W := h.out.less (List.sublist_append_right [a, b] post)
theorem memS0 {α : Type} (a : α) (l : List α) : a ∈ a :: l := List.mem_cons_self
theorem memS1 {α : Type} (b a : α) (l : List α) : a ∈ b :: a :: l := List.mem_cons_of_mem _ List.mem_cons_self
theorem memS2 {α : Type} (c b a : α) (l : List α) : a ∈ c :: b :: a :: l := List.mem_cons_of_mem _ (memS1 _ _ _)
theorem memS3 {α : Type} (d c b a : α) (l : List α) : a ∈ d :: c :: b :: a :: l := List.mem_cons_of_mem _ (memS2 _ _ _ _)
theorem memS4 {α : Type} (e d c b a : α) (l : List α) : a ∈ e :: d :: c :: b :: a :: l := List.mem_cons_of_mem _ (memS3 _ _ _ _ _)
theorem memS5 {α : Type} (f e d c b a : α) (l : List α) : a ∈ f :: e :: d :: c :: b :: a :: l := List.mem_cons_of_mem _ (memS4 _ _ _ _ _ _)

theorem memS6 {α : Type} (g f e d c b a : α) (l : List α) : a ∈ g :: f :: e :: d :: c :: b :: a :: l := List.mem_cons_of_mem _ (memS5 _ _ _ _ _ _ _)
/-- An alloc, a store of a whole struct, in a region that draws its order. -/
theorem step_alloc_blk {P : Program} {ops : Array Oper} {o : Oper} {a : Act} {w : World} {K : Act → World → Prop} {Q : Exit → Act → World → Prop} {E : Prop} (hg : o.guard = none) (ty : TypeId) (ho : o.op = .alloc ty) (z : List Value)
    (hz : ∀ w, (zeroValue ty).run P w = .ok (.agg z.toArray) w)
    (h : ∀ W b, Below w.heap.size w W → Blk W b ty z → w.heap.size ≤ b → K (a.put o.dst (.pointer (some ⟨b, 0, none⟩))) W) : if Region.wanted o (yielded ops a.tmps) = true then Oper.wp P o a w K Q else E := by
  have hw : Region.wanted o (yielded ops a.tmps) = true := by simp [Region.wanted, hg]
  rw [if_pos hw]
  have hr := run_alloc_zero (P := P) w ty _ hz
  unfold Oper.wp execOp
  simp only [ho, Sem.run_bind, Sem.run_pure, Result.andThen_ok, hr]
  exact h _ _ ((Below.refl _ _).alloc (Nat.le_refl _) _) (Blk.new w ty z) (Nat.le_refl _)
theorem step_store_blk {P : Program} {ops : Array Oper} {o : Oper} {a : Act} {w : World} {K : Act → World → Prop} {Q : Exit → Act → World → Prop} {E : Prop} (hg : o.guard = none) (ty : TypeId) (x y : Operand) (ho : o.op = .store ty x y)
    (b : Nat) (T : TypeId) (zs cs : List Value) (n : Nat) (hx : a.eval x = .pointer (some ⟨b, 0, none⟩)) (hy : a.eval y = .agg cs.toArray) (hb : Blk w b T zs) (hz : zs.length = n) (hc : CellsN n cs.toArray) (hi : (P.info? ty).map (·.size) = some n)
    (h : ∀ W, Turned [b] w W → Blk W b T cs → K (a.put o.dst undef) W) : if Region.wanted o (yielded ops a.tmps) = true then Oper.wp P o a w K Q else E := by
  have hw : Region.wanted o (yielded ops a.tmps) = true := by simp [Region.wanted, hg]
  rw [if_pos hw]
  have hcl : cs.length = n := by simpa using hc.1
  refine wp_store_mid _ _ _ ho b 0 cs.toArray hx hy (by rw [hc.1]; exact hb.there 0 n (by omega)) (by rw [hc.1]; exact hi) hc.2 (h _ ?_ ?_)
  · exact (⟨rfl, rfl, rfl, Nat.le_refl _, fun _ _ _ => rfl⟩ : Turned [b] w w).setCells (.inl (by simp)) 0 _
  · have := hb.sets cs 0 (by omega)
    rw [show splice zs 0 cs = cs by unfold splice; rw [List.drop_of_length_le (by omega)]; simp] at this
    exact this
end Go.Proofs.Ytbmepaglhkndpaa.Logs
