/-
  What an argument that can be read looks like in memory: by the shape of its type (bools, integers, strings, slices, structs). No program's text is named here.
-/
import Derived.Test.YtbmepaglhkndpaaBlk
import Derived.ChangeArms
import Derived.DataReads
import Derived.OpenShut
import Derived.WideShapes
namespace Go.Proofs.Ytbmepaglhkndpaa.Mem
open Go.RowKit

inductive Ty where
  | bool
  | int (k : IntKind)
  | str
  | slice (e : Ty)
  | pair (a b : Ty)
  | unit

def Ty.size : Ty → Nat
  | .bool | .int _ | .str | .slice _ => 1
  | .pair a b => a.size + b.size
  | .unit => 0

/-- The cells cs are a value of that shape, in the world w. -/
def Fits (w : World) : Ty → List Value → Prop
  | .bool, cs => ∃ b, cs = [.bool b]
  | .int k, cs => ∃ n, cs = [.int k n] ∧ (Lit.int k n).wf = true
  | .str, cs => ∃ s : ByteArray, cs = [.string s] ∧ s.size ≤ maxLen
  | .slice e, cs => cs = [.slice none 0 0] ∨ ∃ (a : Addr) (len cap : Nat), cs = [.slice (some a) len cap] ∧ len ≤ cap ∧ cap ≤ maxLen ∧
      ∀ i, i < len → a.spot = none ∧ ∃ es, es.length = e.size ∧ w.rangeAt a.block (a.off + i * e.size) es ∧ Fits w e es
  | .pair a b, cs => ∃ x y, cs = x ++ y ∧ Fits w a x ∧ Fits w b y
  | .unit, cs => cs = []

def tyOfFields (P : Program) (g : TypeId → Option Ty) : List Field → Nat → Option Ty
  | [], _ => some .unit
  | f :: r, off => if f.offset = off then (match g f.type with | some t => if t.size = P.cellsOf f.type then (tyOfFields P g r (off + t.size)).map (.pair t) else none | none => none) else none

/-- n elements of one shape, one after another: an array. -/
def tyArr (t : Ty) : Nat → Ty
  | 0 => .unit
  | n + 1 => .pair t (tyArr t n)
theorem tyArr_size (t : Ty) : ∀ n, (tyArr t n).size = n * t.size
  | 0 => by simp [tyArr, Ty.size]
  | n + 1 => by simp only [tyArr, Ty.size, tyArr_size t n]; rw [Nat.add_mul]; omega

def tyOf (P : Program) : Nat → TypeId → Option Ty
  | 0, _ => none
  | n + 1, t =>
    match P.underlying t with
    | some .bool => some .bool
    | some (.int k) => some (.int k)
    | some .string => some .str
    | some (.slice e) => match tyOf P n e with | some s => if 0 < s.size ∧ s.size = P.cellsOf e then some (.slice s) else none | none => none
    | some (.struct fs) => match tyOfFields P (tyOf P n) fs.toList 0 with | some s => if s.size = P.cellsOf t then some s else none | none => none
    | some (.array m e) => match tyOf P n e with | some s => if s.size = P.cellsOf e ∧ m * s.size = P.cellsOf t then some (tyArr s m) else none | none => none
    | _ => none

section
variable {H : Type} {enc : TypeId × Value → H} {P : Program} {w : World} {base : Nat} {spare : Nat → Bool} {held : Bool}

theorem rangeAt_of_cells {a : Addr} {n : Nat} {cs : List Value} (h : w.cells? base a n = some cs) (hn : 0 < n) : a.spot = none ∧ cs.length = n ∧ w.rangeAt a.block a.off cs := by
  obtain ⟨_, hl, hc⟩ := World.cells?_some h
  obtain ⟨b, o, sp⟩ := a
  cases sp with
  | some s =>
    have h0 := hc 0 hn
    rw [List.getElem?_eq_getElem (by omega)] at h0
    simp only [World.cell?, Addr.add] at h0
    split at h0 <;> simp at h0
  | none =>
    refine ⟨rfl, hl, fun j v hv => ?_⟩
    have hj : j < n := by rw [← hl]; exact (List.getElem?_eq_some_iff.1 hv).1
    have := hc j hj
    rw [Addr.add_mid] at this
    rw [this, hv]

theorem fits_fields {g : TypeId → Option Ty} {cs : List Value} (hg : ∀ t ty, g t = some ty → ∀ fuel (c : List Value) x, DataW.trod enc P w base spare held fuel t c = some x → Fits w ty c ∧ c.length = ty.size) :
    ∀ (l : List Field) (off : Nat) (ty : Ty), tyOfFields P g l off = some ty → (∀ f ∈ l, ∃ fuel x, DataW.trod enc P w base spare held fuel f.type ((cs.drop f.offset).take (P.cellsOf f.type)) = some x) →
      off + ty.size ≤ cs.length → Fits w ty ((cs.drop off).take ty.size)
  | [], off, ty, h, _, _ => by
    simp [tyOfFields] at h
    subst h
    simp [Fits, Ty.size]
  | f :: r, off, ty, h, hf, hl => by
    unfold tyOfFields at h
    split at h
    · rename_i ho
      split at h
      · rename_i t ht
        split at h
        · rename_i hs
          obtain ⟨ty', hr, rfl⟩ := Option.map_eq_some_iff.1 h
          obtain ⟨fuel, x, hx⟩ := hf f (by simp)
          obtain ⟨h1, h2⟩ := hg _ _ ht _ _ _ hx
          simp only [Ty.size] at hl ⊢
          have ih := fits_fields hg r _ _ hr (fun f' hf' => hf f' (by simp [hf'])) (by omega)
          refine ⟨(cs.drop off).take t.size, (cs.drop (off + t.size)).take ty'.size, ?_, ?_, ih⟩
          · rw [List.take_add, List.drop_drop]
          · rw [ho, ← hs] at h1; exact h1
        · cases h
      · cases h
    · cases h

theorem fits_arr {s : Ty} {cs : List Value} {z : Nat} (hz : s.size = z) : ∀ (m k : Nat), (∀ i, k ≤ i → i < k + m → Fits w s ((cs.drop (i * z)).take z)) → (k + m) * z ≤ cs.length → Fits w (tyArr s m) ((cs.drop (k * z)).take (m * z))
  | 0, k, _, _ => by simp [tyArr, Fits]
  | m + 1, k, h, hl => by
    have ih := fits_arr hz m (k + 1) (fun i h1 h2 => h i (by omega) (by omega)) (by rw [show k + 1 + m = k + (m + 1) by omega]; exact hl)
    refine ⟨(cs.drop (k * z)).take z, (cs.drop ((k + 1) * z)).take (m * z), ?_, h k (Nat.le_refl _) (by omega), ih⟩
    rw [show (m + 1) * z = z + m * z by rw [Nat.add_mul]; omega, List.take_add, List.drop_drop, show (k + 1) * z = k * z + z by rw [Nat.add_mul]; omega]

theorem fits_of_trod : ∀ (n : Nat) (t : TypeId) (ty : Ty), tyOf P n t = some ty → ∀ fuel (cs : List Value) x, DataW.trod enc P w base spare held fuel t cs = some x → Fits w ty cs ∧ cs.length = ty.size
  | 0, _, _, h, _, _, _, _ => by simp [tyOf] at h
  | n + 1, t, ty, h, fuel, cs, x, hx => by
    unfold tyOf at h
    split at h
    · rename_i ht
      cases h
      obtain ⟨b, rfl, _⟩ := DataW.trod_bool ht hx
      exact ⟨⟨b, rfl⟩, rfl⟩
    · rename_i k ht
      cases h
      obtain ⟨m, rfl, _, hw⟩ := DataW.trod_int ht hx
      exact ⟨⟨m, rfl, hw⟩, rfl⟩
    · rename_i ht
      cases h
      obtain ⟨s, rfl, _, hw⟩ := DataW.trod_string ht hx
      exact ⟨⟨s, rfl, hw⟩, rfl⟩
    · rename_i e ht
      split at h
      · rename_i s hs
        split at h
        · rename_i hz
          cases h
          rcases DataW.trod_slice ht hx with ⟨rfl, _⟩ | ⟨a, len, cap, elems, rest, n', _, rfl, _, _, hl, hc, hel, he, _, _⟩
          · exact ⟨.inl rfl, rfl⟩
          · refine ⟨.inr ⟨a, len, cap, rfl, hl, hc, fun i hi => ?_⟩, rfl⟩
            have h1 := he i hi
            rw [List.getElem?_eq_getElem (by omega)] at h1
            obtain ⟨es, h2, h3⟩ := Option.bind_eq_some_iff.1 h1
            obtain ⟨h4, h5⟩ := fits_of_trod n _ _ hs _ _ _ h3
            obtain ⟨_, _, h8⟩ := rangeAt_of_cells h2 (by omega)
            have hsp : a.spot = none := by
              have g1 := he 0 (by omega)
              rw [List.getElem?_eq_getElem (by omega), Nat.zero_mul] at g1
              obtain ⟨es0, g2, _⟩ := Option.bind_eq_some_iff.1 g1
              have := (rangeAt_of_cells g2 (by omega)).1
              simpa [Addr.add] using this
            refine ⟨hsp, es, h5, ?_, h4⟩
            obtain ⟨b, o, sp⟩ := a
            simp only at hsp
            subst hsp
            rw [Addr.add_mid] at h8
            rw [hz.2]
            exact h8
        · cases h
      · cases h
    · rename_i fs ht
      split at h
      · rename_i s hs
        split at h
        · rename_i hz
          cases h
          obtain ⟨xs, n', _, _, hl, hxl, hf⟩ := DataW.trod_struct ht hx
          have := fits_fields (P := P) (fun t ty h fuel c x hx => fits_of_trod n t ty h fuel c x hx) fs.toList 0 ty hs (fun f hf' => by
            obtain ⟨i, hi, rfl⟩ := List.getElem_of_mem hf'
            have h1 := hf i _ (by rw [← Array.getElem?_toList]; exact List.getElem?_eq_getElem hi)
            rw [List.getElem?_eq_getElem (by simp at hi; omega)] at h1
            exact ⟨_, _, h1⟩) (by omega)
          rw [List.drop_zero, List.take_of_length_le (by omega)] at this
          exact ⟨this, by omega⟩
        · cases h
      · cases h
    · rename_i m e ht
      split at h
      · rename_i s hs
        split at h
        · rename_i hz
          cases h
          obtain ⟨xs, n', _, _, hl, hxl, hf⟩ := DataW.trod_array ht hx
          have hcl : cs.length = m * s.size := hl.trans hz.2.symm
          have := fits_arr (w := w) (s := s) (cs := cs) rfl m 0 (fun i _ hi => by
            have h1 := hf i (by omega)
            rw [List.getElem?_eq_getElem (by omega), ← hz.1] at h1
            exact (fits_of_trod n _ _ hs _ _ _ h1).1) (by rw [Nat.zero_add]; omega)
          rw [Nat.zero_mul, List.drop_zero, List.take_of_length_le (by omega)] at this
          exact ⟨this, by rw [tyArr_size]; exact hcl⟩
        · cases h
      · cases h
    · cases h

/-- An argument's value. -/
theorem fits_of_Trod {n : Nat} {t : TypeId} {ty : Ty} {v : Value} {d : DataW H} {ps : List MemPlace} (h : tyOf P n t = some ty) (hx : DataW.Trod enc P w base spare held t v d ps) : Fits w ty v.cells.toList := by
  obtain ⟨fuel, hx⟩ := hx
  exact (fits_of_trod n t ty h fuel _ _ hx).1
end
theorem okWide_array {P : Program} {w : World} {r : Reach} {base : Nat} {t e : TypeId} {n : Nat} {v : Value} (ht : P.underlying t = some (.array n e)) (h : Value.okWide P w r base t v) : ∃ cs, v = .agg cs ∧ cs.size = P.cellsOf t := by
  simp only [Value.okWide, ht] at h
  obtain ⟨cs, h1, h2, _⟩ := h
  exact ⟨cs, h1, h2⟩
/-- What can be read can be read behind what only makes memory. -/
theorem Fits.below {w w' : World} (hb : Below w.heap.size w w') : ∀ (ty : Ty) (cs : List Value), Fits w ty cs → Fits w' ty cs
  | .bool, _, h => h
  | .int _, _, h => h
  | .str, _, h => h
  | .unit, _, h => h
  | .pair a b, _, ⟨x, y, e, h1, h2⟩ => ⟨x, y, e, Fits.below hb a x h1, Fits.below hb b y h2⟩
  | .slice e, _, h => h.imp id fun ⟨a, len, cap, e1, h1, h2, h3⟩ => ⟨a, len, cap, e1, h1, h2, fun i hi => ⟨(h3 i hi).1, by
      obtain ⟨_, es, h4, h5, h6⟩ := h3 i hi
      exact ⟨es, h4, fun j v hv => (hb.cell (World.block_lt_of_cell? w ⟨a.block, _, none⟩ (h5 j v hv))).trans (h5 j v hv), Fits.below hb e es h6⟩⟩⟩
end Go.Proofs.Ytbmepaglhkndpaa.Mem
