/-
  Words and lemmas on memory: a block that is known whole; a range stored into it; a slice value and the cells it leads to; results that stand in cells; which blocks a call has turned. No program's text is named here. Conditions: those that each lemma names.
-/
import Derived.Test.YtbmepaglhkndpaaMem
import Derived.BigQuiet
import Derived.Deep.QuietTactic
import Derived.WalkSpells
import Derived.Deep.RegionHeld3
import Derived.Deep.MidRow
import Derived.Laws.AppendOwnNone
import Derived.Laws.CopyOwn
namespace Go.Proofs.Ytbmepaglhkndpaa.Mem
open Go.RowKit

theorem ret_bool {a b : Bool} (h : a = b) : Ending.returned (.bool a) = .returned (.bool b) := by rw [h]

/-- The block b holds these cells, and may be written. -/
def Blk (w : World) (b : Nat) (T : TypeId) (cs : List Value) : Prop := w.heap[b]? = some (.cells cs.toArray T (0, 0))
section
variable {w w' : World} {b : Nat} {T : TypeId} {cs : List Value}
theorem Blk.cell (h : Blk w b T cs) (i : Nat) : w.cell? ⟨b, i, none⟩ = cs[i]? := by unfold Blk at h; simp [World.cell?, h]
theorem Blk.free (h : Blk w b T cs) (i : Nat) : w.frozen? ⟨b, i, none⟩ = false := by unfold Blk at h; simp [World.frozen?, h]
theorem Blk.lt (h : Blk w b T cs) : b < w.heap.size := lt_of_block h
theorem Blk.of_same (h : Blk w b T cs) (e : w'.heap[b]? = w.heap[b]?) : Blk w' b T cs := e.trans h
theorem Blk.below (h : Blk w b T cs) {B : Nat} (hb : Below B w w') (hB : b < B) : Blk w' b T cs := h.of_same (hb.block b hB)
theorem Blk.new (w : World) (T : TypeId) (cs : List Value) : Blk (w.alloc (.cells cs.toArray T)) w.heap.size T cs := heap_alloc_new w _
theorem Blk.alloc (h : Blk w b T cs) (o : Obj) : Blk (w.alloc o) b T cs := h.of_same (Below.heap_alloc w o b h.lt)
theorem Blk.drewN (h : Blk w b T cs) (n : Nat) : Blk (w.drewN n) b T cs := h
theorem Blk.setOther (h : Blk w b T cs) {a : Addr} (ha : b ≠ a.block) (u : Value) : Blk (w.setCell a u) b T cs := h.of_same (Below.heap_setCell w a u b ha)
theorem Blk.set (h : Blk w b T cs) (i : Nat) (u : Value) : Blk (w.setCell ⟨b, i, none⟩ u) b T (cs.set i u) := by
  unfold Blk at *
  obtain ⟨hb, hx⟩ := Array.getElem?_eq_some_iff.1 h
  simp [World.setCell, Array.getElem?_modify, h]
theorem heap_setCells (b : Nat) (k : Nat) (hk : k ≠ b) : ∀ (vs : List Value) (o : Nat) (w : World), (w.setCells b o vs).heap[k]? = w.heap[k]?
  | [], _, _ => rfl
  | v :: r, o, w => by rw [World.setCells, heap_setCells b k hk r]; exact Below.heap_setCell w _ v k hk
theorem size_setCells (b : Nat) : ∀ (vs : List Value) (o : Nat) (w : World), (w.setCells b o vs).heap.size = w.heap.size
  | [], _, _ => rfl
  | v :: r, o, w => by rw [World.setCells, size_setCells b r]; simp [World.setCell]
theorem Blk.setsOther (h : Blk w b T cs) {k : Nat} (hk : b ≠ k) (o : Nat) (vs : List Value) : Blk (w.setCells k o vs) b T cs := h.of_same (heap_setCells k b hk vs o w)
theorem splice_cons (L : List Value) (o : Nat) (v : Value) (r : List Value) (h : o + (r.length + 1) ≤ L.length) : splice (L.set o v) (o + 1) r = splice L o (v :: r) := by
  unfold splice
  rw [List.take_set, List.drop_set]
  simp only [List.length_cons]
  rw [if_pos (by omega), show o + 1 + r.length = o + (r.length + 1) by omega]
  have e : (L.take (o + 1)).set o v = L.take o ++ [v] := by
    rw [List.take_succ_eq_append_getElem (by omega), List.set_append_right _ _ (by simp; omega)]
    simp [Nat.min_eq_left (show o ≤ L.length by omega)]
  rw [e]
  simp
theorem Blk.sets : ∀ (vs : List Value) (o : Nat) {w : World} {cs : List Value}, Blk w b T cs → o + vs.length ≤ cs.length → Blk (w.setCells b o vs) b T (splice cs o vs)
  | [], o, w, cs, h, _ => by
    rw [World.setCells, show splice cs o [] = cs by simp [splice]]
    exact h
  | v :: r, o, w, cs, h, hl => by
    rw [World.setCells, ← splice_cons cs o v r (by simpa using hl)]
    exact Blk.sets r (o + 1) (h.set o v) (by simp at hl ⊢; omega)
theorem Blk.range (h : Blk w b T cs) (o n : Nat) : w.rangeAt b o ((cs.drop o).take n) := fun j v hv => by
  rw [h.cell]
  rw [List.getElem?_take] at hv
  split at hv
  · rwa [List.getElem?_drop] at hv
  · cases hv
theorem Blk.rangeAll (h : Blk w b T cs) : w.rangeAt b 0 cs := fun j v hv => by rw [h.cell, Nat.zero_add]; exact hv
theorem Blk.there (h : Blk w b T cs) (o n : Nat) (hn : o + n ≤ cs.length) : w.there b o n := fun j hj => by
  rw [h.cell, h.free]
  exact ⟨by simp; omega, rfl⟩
end

/-- A slice value of n elements, whose cells are cs; they lie in the block I. -/
def SlAt (w : World) (v : Value) (n : Nat) (cs : List Value) (I : List Nat) : Prop :=
  ∃ ao cap, v = .slice ao n cap ∧ n ≤ cap ∧ cap ≤ maxLen ∧ (ao = none → n = 0 ∧ cap = 0 ∧ cs = []) ∧ ∀ a, ao = some a → (0 < n → a.spot = none ∧ a.block ∈ I) ∧ w.rangeAt a.block a.off cs

theorem cellsAt_of_range {w : World} {b o : Nat} {cs : List Value} (h : w.rangeAt b o cs) : ∀ j u, cs[j]? = some u → w.cell? ((⟨b, o, none⟩ : Addr).add j) = some u := fun j u hu => by rw [Addr.add_mid]; exact h j u hu

theorem rangeAt_alloc {w : World} {b o : Nat} {cs : List Value} (h : w.rangeAt b o cs) (x : Obj) : (w.alloc x).rangeAt b o cs := fun j v hv => by
  have hc := h j v hv
  rw [World.cell?_alloc_lt _ _ _ (World.block_lt_of_cell? w _ hc), hc]

theorem owns_newN (w : World) (e : TypeId) (xs : List Value) (size n : Nat) (hn : xs.length = n * size) (h0 : n ≤ maxLen) : (w.alloc (.cells xs.toArray e)).ownsRow w.heap.size e size (.slice (some ⟨w.heap.size, 0, none⟩) n n) n xs :=
  ⟨hn, .inr ⟨w.heap.size, n, xs.toArray, rfl, Nat.le_refl _, heap_alloc_new w _, Nat.le_refl _, h0, by simpa using hn, by simpa using List.take_of_length_le (by omega)⟩⟩

theorem owns_slice {w : World} {base : Nat} {e : TypeId} {size : Nat} {v : Value} {n : Nat} {xs : List Value} (h : w.ownsRow base e size v n xs) : ∃ ao m cap, v = .slice ao m cap := by
  rcases h.2 with ⟨rfl, _⟩ | ⟨g, cap, _, rfl, _⟩
  · exact ⟨_, _, _, rfl⟩
  · exact ⟨_, _, _, rfl⟩
theorem rangeAt_below {w w' : World} {B b o : Nat} {cs : List Value} (h : w.rangeAt b o cs) (hb : Below B w w') (hB : cs ≠ [] → b < B) : w'.rangeAt b o cs := fun j v hv => by
  have hne : cs ≠ [] := by rintro rfl; cases hv
  rw [hb.cell (p := ⟨b, o + j, none⟩) (hB hne), h j v hv]
theorem SlAt.alloc {w : World} {v : Value} {n : Nat} {cs : List Value} {I : List Nat} (h : SlAt w v n cs I) (x : Obj) : SlAt (w.alloc x) v n cs I := by
  obtain ⟨ao, cap, e, h1, h2, h3, h4⟩ := h
  exact ⟨ao, cap, e, h1, h2, h3, fun a ha => ⟨(h4 a ha).1, rangeAt_alloc (h4 a ha).2 x⟩⟩


/-! ### Rules for a struct of many cells in a region that draws its order ('attribute [local go_sem ↓]') -/
def World.row (w : World) (b o n : Nat) : List Value := (List.range n).map fun j => (w.cell? ⟨b, o + j, none⟩).getD undef
def World.hasRow (w : World) (b o n : Nat) : Prop := ∀ j, j < n → (w.cell? ⟨b, o + j, none⟩).isSome = true
def CellsN (n : Nat) (cells : Array Value) : Prop := cells.size = n ∧ cells.all (·.oneCell') = true
theorem row_of_range {w : World} {b o n : Nat} {cs : List Value} (h : w.rangeAt b o cs) (hn : cs.length = n) : World.row w b o n = cs := by
  subst hn
  apply List.ext_getElem
  · simp [World.row]
  · intro i h1 h2
    simp [World.row, h i _ (List.getElem?_eq_getElem h2)]
theorem hasRow_of_range {w : World} {b o n : Nat} {cs : List Value} (h : w.rangeAt b o cs) (hn : cs.length = n) : World.hasRow w b o n := fun j hj => h.isSome j (by omega)
theorem run_loadAt_row {P : Program} (w : World) (b o : Nat) (ty : TypeId) (n : Nat) (d : TypeDesc) (hu : P.underlying ty = some d) (hd : d.isRow = true) (hi : (P.info? ty).map (·.size) = some n) (h : World.hasRow w b o n) :
    (Instr.loadAt ty (.pointer (some ⟨b, o, none⟩))).run P w = .ok (.agg (World.row w b o n).toArray) w :=
  run_loadAt_mid w b o ty (World.row w b o n) d (fun j v hv => by
    obtain ⟨hj, hv⟩ := List.getElem?_eq_some_iff.1 hv
    have hj' : j < n := by simpa [World.row] using hj
    obtain ⟨u, hu⟩ := Option.isSome_iff_exists.1 (h j hj')
    simp [World.row, hu] at hv
    rw [hu, hv]) hu hd (by simpa [World.row] using hi)
theorem run_storeAt_row {P : Program} (w : World) (b o : Nat) (ty : TypeId) (n : Nat) (cells : Array Value) (hi : (P.info? ty).map (·.size) = some n) (ht : w.there b o n) (hc : CellsN n cells) :
    (Instr.storeAt ty (.pointer (some ⟨b, o, none⟩)) (.agg cells)).run P w = .ok () (w.setCells b o cells.toList) :=
  run_storeAt_mid w b o ty cells (by rw [hc.1]; exact ht) (by rw [hc.1]; exact hi) hc.2

theorem Blk.rows {w : World} {b n : Nat} {T : TypeId} {cs : List Value} (h : Blk w b T cs) (hn : cs.length = n) : World.hasRow w b 0 n ∧ World.row w b 0 n = cs := ⟨hasRow_of_range h.rangeAll hn, row_of_range h.rangeAll hn⟩
/-- A load, and a store, of a struct, as the walk's rules meet them at the whole operation. -/
def ldRun (P : Program) (ty : TypeId) (w : World) (v : Value) : Result Next := ((Instr.loadAt ty v).run P w).andThen fun x w' => .ok (.value x) w'
def stRun (P : Program) (ty : TypeId) (w : World) (a v : Value) : Result Next := ((Instr.storeAt ty a v).run P w).andThen fun _ w' => .ok .skip w'
theorem exec_load {P : Program} (ty : TypeId) (ρ : Operand → Value) (dst : Option Tmp) (x : Operand) (tt : TypeId) (pos : String) (af : Array Edge) (g : Option (Nat × Bool)) (w : World) :
    (execOp ρ ⟨dst, .load ty x, tt, pos, af, g⟩).run P w = ldRun P ty w (ρ x) := by
  simp [execOp, ldRun]
theorem exec_store {P : Program} (ty : TypeId) (ρ : Operand → Value) (dst : Option Tmp) (x y : Operand) (tt : TypeId) (pos : String) (af : Array Edge) (g : Option (Nat × Bool)) (w : World) :
    (execOp ρ ⟨dst, .store ty x y, tt, pos, af, g⟩).run P w = stRun P ty w (ρ x) (ρ y) := by
  simp [execOp, stRun]
theorem ldRun_row {P : Program} (w : World) (b o : Nat) (ty : TypeId) (n : Nat) (d : TypeDesc) (hu : P.underlying ty = some d) (hd : d.isRow = true) (hi : (P.info? ty).map (·.size) = some n) (h : World.hasRow w b o n) :
    ldRun P ty w (.pointer (some ⟨b, o, none⟩)) = .ok (.value (.agg (World.row w b o n).toArray)) w := by
  rw [ldRun, run_loadAt_row w b o ty n d hu hd hi h]; rfl
theorem stRun_row {P : Program} (w : World) (b o : Nat) (ty : TypeId) (n : Nat) (cells : Array Value) (hi : (P.info? ty).map (·.size) = some n) (ht : w.there b o n) (hc : CellsN n cells) :
    stRun P ty w (.pointer (some ⟨b, o, none⟩)) (.agg cells) = .ok .skip (w.setCells b o cells.toList) := by
  rw [stRun, run_storeAt_row w b o ty n cells hi ht hc]; rfl

/-! ### Which blocks a call has turned -/
/-- Of the blocks that were there none has turned but those of S. -/
structure Turned (S : List Nat) (w w' : World) : Prop where
  os : w'.os = w.os
  tape : w'.tape = w.tape
  output : w'.output = w.output
  size : w.heap.size ≤ w'.heap.size
  block : ∀ k, k < w.heap.size → k ∉ S → w'.heap[k]? = w.heap[k]?
theorem Turned.of_below {w w' : World} (h : Below w.heap.size w w') : Turned [] w w' := ⟨h.os, h.tape, h.output, h.size, fun k hk _ => h.block k hk⟩
theorem Turned.mono {S S' : List Nat} {w w' : World} (h : Turned S w w') (hs : ∀ k, k < w.heap.size → k ∈ S → k ∈ S') : Turned S' w w' := ⟨h.os, h.tape, h.output, h.size, fun k hk hn => h.block k hk (fun hm => hn (hs k hk hm))⟩
theorem Turned.trans {S : List Nat} {a b c : World} (h : Turned S a b) {S' : List Nat} (k : Turned S' b c) (hs : ∀ k, k < a.heap.size → k ∈ S' → k ∈ S) : Turned S a c :=
  ⟨k.os.trans h.os, k.tape.trans h.tape, k.output.trans h.output, Nat.le_trans h.size k.size, fun i hi hn => (k.block i (Nat.lt_of_lt_of_le hi h.size) (fun hm => hn (hs i hi hm))).trans (h.block i hi hn)⟩
theorem Turned.below {S : List Nat} {w w' : World} (h : Turned S w w') {B : Nat} (hB : B ≤ w.heap.size) (hs : ∀ k ∈ S, B ≤ k) : Below B w w' := ⟨h.os, h.tape, h.output, h.size, fun k hk => h.block k (by omega) (fun hm => by have := hs k hm; omega)⟩
theorem Turned.setCells {S : List Nat} {a w : World} (h : Turned S a w) {b : Nat} (hb : b ∈ S ∨ a.heap.size ≤ b) (o : Nat) (vs : List Value) : Turned S a (w.setCells b o vs) := by
  induction vs generalizing o w with
  | nil => exact h
  | cons v r ih =>
    rw [World.setCells]
    refine ih (w := w.setCell ⟨b, o, none⟩ v) ⟨h.os, h.tape, h.output, by simpa [World.setCell] using h.size, fun k hk hn => (Below.heap_setCell w ⟨b, o, none⟩ v k (fun e => ?_)).trans (h.block k hk hn)⟩ (o + 1)
    have e' : k = b := e
    subst e'
    rcases hb with hb | hb
    · exact hn hb
    · omega
theorem Turned.setCell {S : List Nat} {a w : World} (h : Turned S a w) {p : Addr} (hb : p.block ∈ S ∨ a.heap.size ≤ p.block) (v : Value) : Turned S a (w.setCell p v) :=
  ⟨h.os, h.tape, h.output, by simpa [World.setCell] using h.size, fun k hk hn => (Below.heap_setCell w p v k (fun e => by
    subst e
    rcases hb with hb | hb
    · exact hn hb
    · omega)).trans (h.block k hk hn)⟩
theorem Turned.drewN {S : List Nat} {a w : World} (h : Turned S a w) (n : Nat) : Turned S a (w.drewN n) := ⟨h.os, h.tape, h.output, h.size, h.block⟩
theorem Turned.alloc {S : List Nat} {a w : World} (h : Turned S a w) (o : Obj) : Turned S a (w.alloc o) :=
  ⟨h.os, h.tape, h.output, Nat.le_trans h.size (by simp), fun k hk hn => (Below.heap_alloc w o k (Nat.lt_of_lt_of_le hk h.size)).trans (h.block k hk hn)⟩

/-- But for the cells of the blocks S nothing has turned since W; no cell has gone. The condition of a region that draws its order ('go_region_held3 (Held S W)'). -/
structure Held (S : List Nat) (W w' : World) : Prop where
  turned : Turned S W w'
  ex : ∀ a, (W.cell? a).isSome = true → (w'.cell? a).isSome = true
  fz : ∀ a, a.block < W.heap.size → w'.frozen? a = W.frozen? a
theorem Held.refl (S : List Nat) (W : World) : Held S W W := ⟨⟨rfl, rfl, rfl, Nat.le_refl _, fun _ _ _ => rfl⟩, fun _ h => h, fun _ _ => rfl⟩
theorem Held.drewN {S : List Nat} {W w : World} (h : Held S W w) (n : Nat) : Held S W (w.drewN n) := ⟨h.turned.drewN n, h.ex, h.fz⟩
theorem Held.drew {S : List Nat} {W w : World} (h : Held S W w) : Held S W w.drew := h.drewN 1
theorem Held.below {S : List Nat} {W w w' : World} (h : Held S W w) (hb : Below w.heap.size w w') : Held S W w' :=
  ⟨h.turned.trans (Turned.of_below hb) (by simp), fun a ha => by
    have h1 := h.ex a ha
    obtain ⟨u, hu⟩ := Option.isSome_iff_exists.1 h1
    rw [hb.cell (World.block_lt_of_cell? w _ hu)]
    exact h1, fun a ha => by rw [hb.frozen (Nat.lt_of_lt_of_le ha h.turned.size), h.fz a ha]⟩
theorem Held.alloc {S : List Nat} {W w : World} (h : Held S W w) (o : Obj) : Held S W (w.alloc o) := h.below ((Below.refl _ _).alloc (Nat.le_refl _) _)
theorem Held.setCells {S : List Nat} {W w : World} (h : Held S W w) {b : Nat} (hb : b ∈ S) (o : Nat) (vs : List Value) : Held S W (w.setCells b o vs) :=
  ⟨h.turned.setCells (.inl hb) o vs, fun a ha => World.isSome_setCells b vs o w a (h.ex a ha), fun a ha => by rw [World.frozen?_setCells, h.fz a ha]⟩
theorem Held.setCell {S : List Nat} {W w : World} (h : Held S W w) {p : Addr} (hb : p.block ∈ S) (v : Value) : Held S W (w.setCell p v) :=
  ⟨h.turned.setCell (.inl hb) v, fun a ha => by
    have := h.ex a ha
    by_cases e : p = a
    · subst e
      obtain ⟨u, hu⟩ := Option.isSome_iff_exists.1 this
      rw [World.cell?_setCell_same _ _ _ hu]; rfl
    · rw [World.cell?_setCell_other _ _ _ _ e]; exact this, fun a ha => by rw [World.frozen?_setCell, h.fz a ha]⟩
theorem Held.cell {S : List Nat} {W w' : World} (h : Held S W w') {b o : Nat} {v : Value} (hc : W.cell? ⟨b, o, none⟩ = some v) (hb : b ∉ S) : w'.cell? ⟨b, o, none⟩ = some v := by
  rw [← hc]; exact World.cell?_of_block (w := W) (h.turned.block b (World.block_lt_of_cell? W _ hc) hb)
theorem Held.blk {S : List Nat} {W w' : World} (h : Held S W w') {b : Nat} {T : TypeId} {cs : List Value} (hc : Blk W b T cs) (hb : b ∉ S) : Blk w' b T cs := hc.of_same (h.turned.block b hc.lt hb)
theorem Held.range {S : List Nat} {W w' : World} (h : Held S W w') {b o : Nat} {cs : List Value} (hc : W.rangeAt b o cs) (hb : b ∉ S) : w'.rangeAt b o cs := fun j v hv => h.cell (hc j v hv) hb
theorem Held.there {S : List Nat} {W w' : World} (h : Held S W w') {b o n : Nat} (hc : W.there b o n) : w'.there b o n := fun j hj => by
  obtain ⟨h1, h2⟩ := hc j hj
  obtain ⟨u, hu⟩ := Option.isSome_iff_exists.1 h1
  exact ⟨h.ex _ h1, by rw [h.fz _ (World.block_lt_of_cell? W _ hu)]; exact h2⟩

/-- A slice value stays what it is where its block has not turned. -/
theorem SlAt.same {w w' : World} {v : Value} {n : Nat} {cs : List Value} {I : List Nat} (h : SlAt w v n cs I) (hl : n = 0 → cs = []) (hs : ∀ b ∈ I, w'.heap[b]? = w.heap[b]?) : SlAt w' v n cs I := by
  obtain ⟨ao, cap, e, h1, h2, h3, h4⟩ := h
  refine ⟨ao, cap, e, h1, h2, h3, fun a ha => ⟨(h4 a ha).1, fun j u hu => ?_⟩⟩
  have hn : 0 < n := by
    rcases Nat.eq_zero_or_pos n with rfl | h0
    · rw [hl rfl] at hu; cases hu
    · exact h0
  have := (h4 a ha).2 j u hu
  rw [← this]
  exact World.cell?_of_block (w := w) (hs _ ((h4 a ha).1 hn).2)
/-- What the call owns is a slice value in that block. -/
theorem SlAt.of_own {w : World} {base : Nat} {e : TypeId} {size : Nat} {v : Value} {n : Nat} {xs : List Value} (h : w.ownsRow base e size v n xs) : ∃ I, SlAt w v n xs I ∧ (∀ b ∈ I, base ≤ b ∧ b < w.heap.size ∧ ∀ o, w.frozen? ⟨b, o, none⟩ = false) := by
  have h0 := h
  rcases h with ⟨hl, ⟨rfl, rfl⟩ | ⟨g, cap, cur, rfl, hg, hh, hn, hm, hc, ht⟩⟩
  · exact ⟨[], ⟨none, 0, rfl, Nat.le_refl _, by simp [maxLen], fun _ => ⟨rfl, rfl, by simpa using hl⟩, fun _ h => by cases h⟩, by simp⟩
  · refine ⟨[g], ⟨some ⟨g, 0, none⟩, cap, rfl, hn, hm, (fun h => by cases h), fun a ha => ?_⟩, by simpa using ⟨hg, lt_of_block hh, fun o => by simp [World.frozen?, hh]⟩⟩
    cases ha
    refine ⟨fun _ => ⟨rfl, by simp⟩, fun j u hu => ?_⟩
    have := h0.cells (g := g) rfl j u hu
    rwa [Addr.add_mid] at this
theorem below_set {B : Nat} {a w : World} (h : Below B a w) {b : Nat} (hb : B ≤ b) (o : Nat) (vs : List Value) : Below B a (w.setCells b o vs) :=
  h.trans ⟨by induction vs generalizing o w with | nil => rfl | cons v r ih => rw [World.setCells, ih (w := w.setCell ⟨b, o, none⟩ v) (h.setCell hb v)]; rfl,
    by induction vs generalizing o w with | nil => rfl | cons v r ih => rw [World.setCells, ih (w := w.setCell ⟨b, o, none⟩ v) (h.setCell hb v)]; rfl,
    by induction vs generalizing o w with | nil => rfl | cons v r ih => rw [World.setCells, ih (w := w.setCell ⟨b, o, none⟩ v) (h.setCell hb v)]; rfl,
    by induction vs generalizing o w with | nil => exact Nat.le_refl _ | cons v r ih => rw [World.setCells]; exact Nat.le_trans (by simp [World.setCell]) (ih (w := w.setCell ⟨b, o, none⟩ v) (h.setCell hb v) (o + 1)),
    fun k hk => heap_setCells b k (by omega) vs o w⟩

/-! ### make and clear of elements of many cells -/
theorem run_make_rowN {P : Program} (t e : TypeId) (i : TypeInfo) (z : Value) (ht : P.underlying t = some (.slice e)) (hi : P.info? e = some i) (hz : i.zero = some z)
    (kl kc : IntKind) (n c : Nat) (hnc : n ≤ c) (hbytes : i.bytes * c ≤ 281474976710656) (h63 : c ≤ 9223372036854775807) (w : World) :
    (Instr.makeSlice t (.int kl (n : Int)) (.int kc (c : Int))).run P w = .ok (.slice (some ⟨w.heap.size, 0, none⟩) n c) (w.alloc (.cells (madeCells z.cells (c * i.size)) e)) := by
  have hb : (i.bytes : Int) * (c : Int) ≤ 281474976710656 := by
    have h : ((i.bytes * c : Nat) : Int) ≤ 281474976710656 := by omega
    rwa [Int.natCast_mul] at h
  have hr := run_make (P := P) w t e i z ht hi hz kl kc n c (by omega) (by omega) hb (by omega)
  simp only [Int.toNat_natCast] at hr
  exact hr
theorem made_one {z : Array Value} (h : ∀ u ∈ z.toList, u.oneCell' = true) (h0 : 0 < z.size) (n : Nat) : ∀ u ∈ (madeCells z n).toList, u.oneCell' = true := by
  intro u hu
  simp [madeCells] at hu
  obtain ⟨a, _, rfl⟩ := hu
  have ha : a % z.size < z.size := Nat.mod_lt _ h0
  rw [getElem!_pos z _ ha]
  exact h _ (by simp)
theorem zeroCells_one {z : Array Value} (h : ∀ u ∈ z.toList, u.oneCell' = true) (h0 : 0 < z.size) (n : Nat) : ∀ u ∈ (Builtin.zeroCells z n).toList, u.oneCell' = true := by
  intro u hu
  simp [Builtin.zeroCells] at hu
  obtain ⟨a, _, rfl⟩ := hu
  have ha : a % z.size < z.size := Nat.mod_lt _ h0
  rw [getElem!_pos z _ ha]
  exact h _ (by simp)
theorem run_clear_rows {P : Program} (w : World) (t e ty : TypeId) (z : Value) (ht : P.underlying t = some (.slice e)) (hv : ∀ w, (zeroValue e).run P w = .ok z w) (h1 : ∀ u ∈ z.cells.toList, u.oneCell' = true) (h0 : 0 < z.cells.size) (b o n c : Nat) (hn : 0 < n)
    (hw : w.there b o (n * z.cells.size)) : (Builtin.clear_ #[t] ty #[.slice (some ⟨b, o, none⟩) n c]).run P w = .ok (.tuple #[]) (w.setCells b o (Builtin.zeroCells z.cells n).toList) := by
  obtain ⟨m, rfl⟩ : ∃ m, n = m + 1 := ⟨n - 1, by omega⟩
  have hl : (Builtin.zeroCells z.cells (m + 1)).toList.length = (m + 1) * z.cells.size := by rw [Array.length_toList, size_zeroCells]
  have hst := run_storeCells_cells (P := P) b o (Builtin.zeroCells z.cells (m + 1)).toList 0 w (fun j hj => by simpa using (hw j (by omega)).1) (fun j hj => by simpa using (hw j (by omega)).2) (zeroCells_one h1 h0 _)
  simp only [Nat.add_zero] at hst
  simp [Builtin.clear_, run_underlying ht, hv, hst]

/-! ### Steps of a plain region that leave the world a letter: an alloc, a box, a load, a store of a whole block -/
theorem run_alloc_zero {P : Program} (w : World) (ty : TypeId) (z : Value) (hz : ∀ w, (zeroValue ty).run P w = .ok z w) : (Instr.alloc ty true (.tuple #[])).run P w = .ok (.pointer (some ⟨w.heap.size, 0, none⟩)) (w.alloc (.cells z.cells ty)) := by
  simp [Instr.alloc, hz, newVar, newRow]
theorem wpList_alloc_blk {P : Program} {ops : Array Oper} {rest : List Oper} {op : Oper} {a : Act} {w : World} {Q : Exit → Act → World → Prop} (hgd : op.guard = none) (ty : TypeId) (ho : op.op = .alloc ty) (z : List Value)
    (hz : ∀ w, (zeroValue ty).run P w = .ok (.agg z.toArray) w)
    (h : ∀ W, Below w.heap.size w W → Blk W w.heap.size ty z → W.heap.size = w.heap.size + 1 → wpList P ops Q rest (a.put op.dst (.pointer (some ⟨w.heap.size, 0, none⟩))) W) : wpList P ops Q (op :: rest) a w := by
  refine wpList_plain hgd fun K hK => ?_
  have hr := run_alloc_zero (P := P) w ty _ hz
  unfold Oper.wp execOp
  simp only [ho, Sem.run_bind, Sem.run_pure, Result.andThen_ok, hr]
  exact hK _ _ (h _ ((Below.refl _ _).alloc (Nat.le_refl _) _) (Blk.new w ty z) (by simp))
theorem wpList_box_blk {P : Program} {ops : Array Oper} {rest : List Oper} {op : Oper} {a : Act} {w : World} {Q : Exit → Act → World → Prop} (hgd : op.guard = none) (ty : TypeId) (x : Operand) (ho : op.op = .box ty x) (cs : List Value)
    (hx : a.eval x = .agg cs.toArray)
    (h : ∀ W, Below w.heap.size w W → Blk W w.heap.size ty cs → W.heap.size = w.heap.size + 1 → wpList P ops Q rest (a.put op.dst (.pointer (some ⟨w.heap.size, 0, none⟩))) W) : wpList P ops Q (op :: rest) a w := by
  refine wpList_plain hgd fun K hK => ?_
  unfold Oper.wp execOp
  have hr : (Instr.box ty (.agg cs.toArray)).run P w = .ok (.pointer (some ⟨w.heap.size, 0, none⟩)) (w.alloc (.cells cs.toArray ty)) := by
    simp [Instr.box, newVar, newRow, Value.cells]
  simp only [ho, hx, Sem.run_bind, Sem.run_pure, Result.andThen_ok, hr]
  exact hK _ _ (h _ ((Below.refl _ _).alloc (Nat.le_refl _) _) (Blk.new w ty cs) (by simp))
theorem wpList_store_blk {P : Program} {ops : Array Oper} {rest : List Oper} {op : Oper} {a : Act} {w : World} {Q : Exit → Act → World → Prop} (hgd : op.guard = none) (ty : TypeId) (x y : Operand) (ho : op.op = .store ty x y)
    (b : Nat) (T : TypeId) (zs cs : List Value) (n : Nat) (hx : a.eval x = .pointer (some ⟨b, 0, none⟩)) (hy : a.eval y = .agg cs.toArray) (hb : Blk w b T zs) (hz : zs.length = n) (hc : CellsN n cs.toArray) (hi : (P.info? ty).map (·.size) = some n)
    (h : ∀ W, Turned [b] w W → Blk W b T cs → W.heap.size = w.heap.size → wpList P ops Q rest (a.put op.dst undef) W) : wpList P ops Q (op :: rest) a w := by
  have hcl : cs.length = n := by simpa using hc.1
  refine wpList_store_mid hgd ty x y ho b 0 cs.toArray hx hy (by rw [hc.1]; exact hb.there 0 n (by omega)) (by rw [hc.1]; exact hi) hc.2 (h _ ?_ ?_ ?_)
  · exact (⟨rfl, rfl, rfl, Nat.le_refl _, fun _ _ _ => rfl⟩ : Turned [b] w w).setCells (.inl (by simp)) 0 _
  · have := hb.sets cs 0 (by omega)
    rw [show splice zs 0 cs = cs by unfold splice; rw [List.drop_of_length_le (by omega)]; simp] at this
    exact this
  · exact size_setCells _ _ _ _
theorem wpList_load_blk {P : Program} {ops : Array Oper} {rest : List Oper} {op : Oper} {a : Act} {w : World} {Q : Exit → Act → World → Prop} (hgd : op.guard = none) (ty : TypeId) (x : Operand) (ho : op.op = .load ty x)
    (b : Nat) (T : TypeId) (cs : List Value) (d : TypeDesc) (hx : a.eval x = .pointer (some ⟨b, 0, none⟩)) (hb : Blk w b T cs) (hu : P.underlying ty = some d) (hd : d.isRow = true) (hi : (P.info? ty).map (·.size) = some cs.length)
    (h : wpList P ops Q rest (a.put op.dst (.agg cs.toArray)) w) : wpList P ops Q (op :: rest) a w :=
  wpList_load_mid hgd ty x ho b 0 hx cs d hb.rangeAll hu hd hi h
theorem Turned.blk {S : List Nat} {w w' : World} (h : Turned S w w') {b : Nat} {T : TypeId} {cs : List Value} (hb : Blk w b T cs) (hn : b ∉ S) : Blk w' b T cs := hb.of_same (h.block b hb.lt hn)

/-! ### Results that stand in cells -/
theorem results_cell1 {P : Program} {fn : Func} {p : Tmp} {ty : TypeId} {tmps : Array Value} {w : World} {b o : Nat} {cs : List Value} {d : TypeDesc} (h : fn.results = #[.cell p ty]) (hp : tmps.getD p undef = .pointer (some ⟨b, o, none⟩))
    (hc : w.rangeAt b o cs) (hu : P.underlying ty = some d) (hd : d.isRow = true) (hi : (P.info? ty).map (·.size) = some cs.length) : (results fn tmps).run P w = .ok (.agg cs.toArray) w := by
  have hl := run_loadVar_mid w b o ty cs d hc hu hd hi
  simp only [results, h]
  simp only [Array.getD_eq_getD_getElem?] at hp
  simp [hp, asAddr, hl]
theorem results_cell2 {P : Program} {fn : Func} {p u : Tmp} {ty : TypeId} {tmps : Array Value} {w : World} {b o : Nat} {cs : List Value} {d : TypeDesc} (h : fn.results = #[.cell p ty, .tmp u]) (hp : tmps.getD p undef = .pointer (some ⟨b, o, none⟩))
    (hc : w.rangeAt b o cs) (hu : P.underlying ty = some d) (hd : d.isRow = true) (hi : (P.info? ty).map (·.size) = some cs.length) : (results fn tmps).run P w = .ok (.tuple #[.agg cs.toArray, tmps.getD u undef]) w := by
  have hl := run_loadVar_mid w b o ty cs d hc hu hd hi
  rw [results_cell_tmp h, hp]
  simp [Result.andThen, asAddr, hl]
end Go.Proofs.Ytbmepaglhkndpaa.Mem
