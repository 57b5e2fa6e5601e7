/-
  Few tokens in any ticks: what holds of a bucket and the ticks at which tokens were taken. And rows that the call owns, behind calls that turn other blocks. Conditions: those that each lemma names.
-/
import Derived.Test.YthncfpgmgpnclaaBucC
namespace Go.Proofs.Ythncfpgmgpnclaa.Buc
open Go.RowKit Go.Proofs.Ythncfpgmgpnclaa.Mem

/-- The ticks l at which tokens were taken so far, the bucket being v. -/
structure Few (v : V) (l : List Int) : Prop where
  a : ∀ (i : Nat) T, l[i]? = some T → v.much + ((l.length : Int) - i) * v.r ≤ v.c * v.r + (v.t - T)
  b : ∀ (i j : Nat) T U, i ≤ j → l[i]? = some T → l[j]? = some U → ((j : Int) - i + 1) * v.r ≤ v.c * v.r + (U - T) ∧ T ≤ U
  c : ∀ (i : Nat) T, l[i]? = some T → 0 ≤ T ∧ T ≤ v.t
theorem few_nil (v : V) : Few v [] := ⟨fun _ _ h => by simp at h, fun _ _ _ _ _ h => by simp at h, fun _ _ h => by simp at h⟩
theorem few_bring {v : V} {l : List Int} (h : Few v l) (ok : v.Ok) (now : Int) : Few (v.bring now) l := by
  have hm := V.much_bring ok now
  have ht := v.tick_ge now
  refine ⟨fun i T hi => ?_, h.b, fun i T hi => ?_⟩
  · have := h.a i T hi
    show (v.bring now).much + ((l.length : Int) - i) * v.r ≤ v.c * v.r + (v.tick now - T)
    have e : (v.bring now).t = v.tick now := rfl
    rw [e] at hm
    omega
  · have := h.c i T hi
    show 0 ≤ T ∧ T ≤ v.tick now
    omega
theorem few_take {v : V} {l : List Int} (h : Few v l) (ok : v.Ok) (hn : v.Now) (h0 : v.m ≠ 0) (ht : 0 ≤ v.t) : Few v.less (l ++ [v.t]) := by
  have hml := V.much_le ok hn
  have hge := V.much_ge (V.ok_less ok h0)
  rw [V.much_less] at hge
  have hr := ok.r1
  have cases : ∀ {i : Nat} {T : Int}, (l ++ [v.t])[i]? = some T → (i < l.length ∧ l[i]? = some T) ∨ (i = l.length ∧ T = v.t) := by
    intro i T hi
    rcases Nat.lt_trichotomy i l.length with hlt | heq | hgt
    · rw [List.getElem?_append_left hlt] at hi
      exact .inl ⟨hlt, hi⟩
    · subst heq
      rw [List.getElem?_append_right (Nat.le_refl _)] at hi
      simp at hi
      exact .inr ⟨rfl, hi.symm⟩
    · rw [List.getElem?_eq_none (by simp; omega)] at hi
      cases hi
  refine ⟨fun i T hi => ?_, fun i j T U hij hi hj => ?_, fun i T hi => ?_⟩
  · rw [V.much_less]
    show v.much - v.r + (((l ++ [v.t]).length : Int) - i) * v.r ≤ v.c * v.r + (v.t - T)
    have e : (((l ++ [v.t]).length : Int) - i) * v.r = ((l.length : Int) - i) * v.r + v.r := by
      rw [List.length_append, List.length_singleton, show (((l.length + 1 : Nat) : Int) - i) = ((l.length : Int) - i) + 1 by omega, Int.add_mul]; omega
    rw [e]
    rcases cases hi with ⟨_, hi⟩ | ⟨rfl, rfl⟩
    · have := h.a i T hi
      omega
    · have : ((l.length : Int) - (l.length : Nat)) * v.r = 0 := by simp
      omega
  · show ((j : Int) - i + 1) * v.r ≤ v.c * v.r + (U - T) ∧ T ≤ U
    rcases cases hj with ⟨_, hj⟩ | ⟨rfl, rfl⟩
    · rcases cases hi with ⟨_, hi⟩ | ⟨hi, _⟩
      · exact h.b i j T U hij hi hj
      · omega
    · rcases cases hi with ⟨_, hi⟩ | ⟨rfl, rfl⟩
      · have h1 := h.a i T hi
        have h2 := h.c i T hi
        have e : ((l.length : Int) - i + 1) * v.r = ((l.length : Int) - i) * v.r + v.r := by rw [Int.add_mul]; omega
        rw [e]
        omega
      · have e : ((l.length : Int) - l.length + 1) * v.r = v.r := by rw [Int.sub_self, Int.zero_add, Int.one_mul]
        rw [e]
        have := V.much_le ok hn
        have : v.r ≤ v.m * v.r := by
          have := Int.mul_le_mul_of_nonneg_right (show 1 ≤ v.m by have := ok.m0; omega) (show 0 ≤ v.r by omega)
          omega
        have h3 := ok.st
        unfold V.much at *
        omega
  · show 0 ≤ T ∧ T ≤ v.t
    rcases cases hi with ⟨_, hi⟩ | ⟨rfl, rfl⟩
    · exact h.c i T hi
    · exact ⟨ht, Int.le_refl _⟩
/-- As it is asked: a quotient. -/
theorem few_quot {v : V} {l : List Int} (h : Few v l) (ok : v.Ok) {i j : Nat} {T U : Int} (hij : i ≤ j) (hi : l[i]? = some T) (hj : l[j]? = some U) : (j : Int) - i + 1 ≤ v.c + (U - T) / v.r ∧ T ≤ U := by
  obtain ⟨h1, h2⟩ := h.b i j T U hij hi hj
  refine ⟨?_, h2⟩
  have : (j : Int) - i + 1 - v.c ≤ (U - T) / v.r := (Int.le_ediv_iff_mul_le (by have := ok.r1; omega)).2 (by rw [Int.sub_mul]; omega)
  omega

theorem owns_turned {S : List Nat} {w w' : World} {base : Nat} {e : TypeId} {size : Nat} {v : Value} {n : Nat} {xs : List Value} (h : w.ownsRow base e size v n xs) (t : Turned S w w') (hS : ∀ k ∈ S, k < base) : w'.ownsRow base e size v n xs := by
  refine ⟨h.1, h.2.imp id ?_⟩
  rintro ⟨g, cap, cur, h1, h2, h3, h4⟩
  exact ⟨g, cap, cur, h1, h2, (t.block g (lt_of_block h3) (fun hm => by have := hS _ hm; omega)).trans h3, h4⟩
theorem owns_below {w w' : World} {base : Nat} {e : TypeId} {size : Nat} {v : Value} {n : Nat} {xs : List Value} (h : w.ownsRow base e size v n xs) (b : Below w.heap.size w w') : w'.ownsRow base e size v n xs := owns_turned h (Turned.of_below b) (by simp)
/-- A row of ints. -/
def intsC (l : List Int) : List Value := l.map nI
/-- The slice, and its cells, by numbers. -/
theorem owns_ints {w : World} {base : Nat} {e : TypeId} {v : Value} {n : Nat} {l : List Int} (h : w.ownsRow base e 1 v n (intsC l)) : l.length = n ∧ (v = .slice none 0 0 ∧ n = 0 ∨ ∃ g cap, v = .slice (some ⟨g, 0, none⟩) n cap ∧ base ≤ g ∧ n ≤ cap ∧ cap ≤ maxLen ∧ ∀ (i : Nat) T, l[i]? = some T → w.cell? ⟨g, i, none⟩ = some (.int .i64 T)) := by
  have hl : l.length = n := by have := h.1; simpa [intsC] using this
  refine ⟨hl, ?_⟩
  rcases h.2 with h1 | ⟨g, cap, cur, h1, h2, h3, h4, h5, h6⟩
  · exact .inl h1
  · refine .inr ⟨g, cap, h1, h2, h4, h5, fun i T hi => ?_⟩
    subst h1
    have hlt := (List.getElem?_eq_some_iff.1 hi).1
    rw [h.cellAt i (by omega)]
    simp [intsC, hi, nI]
end Go.Proofs.Ythncfpgmgpnclaa.Buc
