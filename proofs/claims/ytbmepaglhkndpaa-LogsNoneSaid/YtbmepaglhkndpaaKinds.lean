/-
  Structs in a row that a call owns, of whatever kind: what is read of them, what stays. No program's text is named here. Conditions: those that each lemma names.
-/
import Derived.Test.YtbmepaglhkndpaaBuild
namespace Go.Proofs.Ytbmepaglhkndpaa.Mem
open Go.RowKit

/-- A kind of structs: its type's number, its size, its cells. -/
structure Kind (α : Type) where
  T : TypeId
  sz : Nat
  cells : α → List Value
  len : ∀ a, (cells a).length = sz
  one : ∀ a, ∀ u ∈ cells a, u.oneCell' = true
namespace Kind
variable {α : Type} (K : Kind α)
def row (L : List α) : List Value := L.flatMap K.cells
theorem row_len : ∀ L : List α, (K.row L).length = L.length * K.sz
  | [] => by simp [row]
  | c :: L => by
    have h := row_len L
    simp only [row, List.flatMap_cons, List.length_append, List.length_cons] at *
    rw [h, K.len, Nat.succ_mul]
    omega
theorem row_app (A B : List α) : K.row (A ++ B) = K.row A ++ K.row B := by simp [row]
theorem row_one (c : α) : K.row [c] = K.cells c := by simp [row]
theorem row_cell (L : List α) : ∀ u ∈ K.row L, u.oneCell' = true := by
  intro u hu
  simp only [row, List.mem_flatMap] at hu
  obtain ⟨c, _, hc⟩ := hu
  exact K.one c u hc
theorem row_get : ∀ (L : List α) (i : Nat) (c : α), L[i]? = some c → ∀ j, j < K.sz → (K.row L)[i * K.sz + j]? = (K.cells c)[j]?
  | [], i, c, h, j, _ => by simp at h
  | a :: L, 0, c, h, j, hj => by
    simp at h
    subst h
    simp only [row, List.flatMap_cons, Nat.zero_mul, Nat.zero_add]
    rw [List.getElem?_append_left (by rw [K.len]; exact hj)]
  | a :: L, i + 1, c, h, j, hj => by
    have ih := row_get L i c (by simpa using h) j hj
    simp only [row, List.flatMap_cons] at *
    rw [List.getElem?_append_right (by rw [K.len, Nat.succ_mul]; omega), ← ih]
    congr 1
    rw [K.len, Nat.succ_mul]
    omega
/-- The structs L lie in a slice that the call owns. -/
def Own (w : World) (base : Nat) (v : Value) (L : List α) : Prop := w.ownsRow base K.T K.sz v L.length (K.row L)
variable {K}
theorem Own.nil (w : World) (base : Nat) : K.Own w base (.slice none 0 0) [] := World.ownsRow_nil _ _ _ _
theorem Own.turned {S : List Nat} {w w' : World} {base : Nat} {v : Value} {L : List α} (h : K.Own w base v L) (t : Turned S w w') (hS : ∀ k ∈ S, v.ownBlock ≠ some k) : K.Own w' base v L := by
  refine ⟨h.1, h.2.imp id ?_⟩
  rintro ⟨g, cap, cur, h1, h2, h3, h4⟩
  exact ⟨g, cap, cur, h1, h2, (t.block g (lt_of_block h3) (fun hm => by subst h1; exact hS g hm rfl)).trans h3, h4⟩
theorem Own.below {w w' : World} {base : Nat} {v : Value} {L : List α} (h : K.Own w base v L) (b : Below w.heap.size w w') : K.Own w' base v L := h.turned (Turned.of_below b) (by simp)
theorem Own.lower {w : World} {base base' : Nat} {v : Value} {L : List α} (h : K.Own w base v L) (hb : base' ≤ base) : K.Own w base' v L := by
  refine ⟨h.1, h.2.imp id ?_⟩
  rintro ⟨g, cap, cur, h1, h2, h3⟩
  exact ⟨g, cap, cur, h1, by omega, h3⟩
theorem Own.lt {w : World} {base : Nat} {v : Value} {L : List α} (h : K.Own w base v L) : ∀ j, v.ownBlock = some j → base ≤ j ∧ j < w.heap.size := fun j hj => World.ownsRow.lt h j hj
/-- Its form. -/
theorem Own.form {w : World} {base : Nat} {v : Value} {L : List α} (h : K.Own w base v L) : ∃ ao cap, v = .slice ao L.length cap ∧ L.length ≤ cap ∧ cap ≤ maxLen ∧ (ao = none → L = [] ∧ cap = 0) ∧
    ∀ a, ao = some a → ∃ g, a = ⟨g, 0, none⟩ ∧ base ≤ g ∧ g < w.heap.size ∧ w.rangeAt g 0 (K.row L) := by
  have hx := h
  rcases h.2 with ⟨rfl, h0⟩ | ⟨g, cap, cur, rfl, h1, h2, h3, h4, h5, h6⟩
  · exact ⟨none, 0, by rw [h0], by omega, by simp [maxLen], fun _ => ⟨List.length_eq_zero_iff.1 h0, rfl⟩, fun a e => by cases e⟩
  · refine ⟨_, cap, rfl, h3, h4, (fun e => by cases e), fun a e => ?_⟩
    cases e
    refine ⟨g, rfl, h1, lt_of_block h2, fun j u hu => ?_⟩
    have := World.ownsRow.cells hx (g := g) rfl j u hu
    rw [Addr.add_mid] at this
    exact this
/-- One of them lies there. -/
theorem Own.at {w : World} {base : Nat} {v : Value} {L : List α} (h : K.Own w base v L) {i : Nat} {c : α} (hi : L[i]? = some c) : ∃ g cap, v = .slice (some ⟨g, 0, none⟩) L.length cap ∧ base ≤ g ∧ g < w.heap.size ∧ w.rangeAt g (i * K.sz) (K.cells c) := by
  obtain ⟨ao, cap, rfl, _, _, hnil, hat⟩ := h.form
  have hlt := (List.getElem?_eq_some_iff.1 hi).1
  cases ao with
  | none => have := (hnil rfl).1; rw [this] at hlt; simp at hlt
  | some a =>
    obtain ⟨g, rfl, h1, h2, h3⟩ := hat a rfl
    refine ⟨g, cap, rfl, h1, h2, fun j u hu => ?_⟩
    have hj : j < K.sz := by have := (List.getElem?_eq_some_iff.1 hu).1; rwa [K.len] at this
    have := h3 (i * K.sz + j) u (by rw [K.row_get L i c hi j hj]; exact hu)
    rwa [Nat.zero_add] at this
/-- As an operand of an append. -/
theorem Own.slAt {w : World} {base : Nat} {v : Value} {L : List α} (h : K.Own w base v L) : ∃ I, SlAt w v L.length (K.row L) I ∧ ∀ b ∈ I, base ≤ b ∧ b < w.heap.size := by
  obtain ⟨I, h1, h2⟩ := SlAt.of_own h
  exact ⟨I, h1, fun b hb => ⟨(h2 b hb).1, (h2 b hb).2.1⟩⟩
/-- Rows of two kinds lie apart. -/
theorem own_apart {β : Type} {K' : Kind β} (hT : K.T ≠ K'.T) {w : World} {base base' : Nat} {v v' : Value} {L : List α} {L' : List β} (h : K.Own w base v L) (h' : K'.Own w base' v' L') : ∀ k, v'.ownBlock = some k → v.ownBlock ≠ some k := fun k hk hk' => by
  rcases h.2 with ⟨rfl, _⟩ | ⟨g, cap, cur, rfl, _, h2, _⟩
  · simp [Value.ownBlock] at hk'
  · rcases h'.2 with ⟨rfl, _⟩ | ⟨g', cap', cur', rfl, _, h2', _⟩
    · simp [Value.ownBlock] at hk
    · simp [Value.ownBlock] at hk hk'
      subst hk
      subst hk'
      rw [h2] at h2'
      simp at h2'
      exact hT h2'.2
end Kind
theorem turned_grown {w w' : World} {r : Option Nat} (h : w.grownBy w' r) : Turned r.toList w w' := ⟨h.os, h.tape, h.output, h.size, fun k hk hn => h.block k hk (fun e => hn (by subst e; simp))⟩
end Go.Proofs.Ytbmepaglhkndpaa.Mem
