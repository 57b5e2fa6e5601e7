/-
  Logs whose every entry was appended: each client's Seqs rise; one entry's operation put in another's place. No program's text is named here. Conditions: those that each lemma names.
-/
import Derived.Test.YtbmepaglhkndpaaLogMath
namespace Go.Proofs.Ytbmepaglhkndpaa.Logs
open Go.Proofs.Ytbmepaglhkndpaa.Ops Go.Proofs.Ytbmepaglhkndpaa.Kv

theorem err_zero {L : List E} {e : E} : err L e = 0 ↔ ¬ bad e ∧ L.length < 4096 ∧ e.index = (L.length : Int) + 1 ∧ (last L e.client).1 < e.seq := by
  unfold err
  by_cases h1 : bad e
  · simp [h1]
  · by_cases h2 : 4096 ≤ L.length
    · simp [h1, h2, Nat.not_lt.2 h2]
    · by_cases h3 : e.index = (L.length : Int) + 1
      · by_cases h4 : e.seq ≤ (last L e.client).1
        · simp [h1, h2, h3, h4]
        · simp [h1, h2, h3, h4]; omega
      · simp [h1, h2, h3]
/-- Every entry was appended. -/
def Good (L : List E) : Prop := ∀ i e, L[i]? = some e → err (L.take i) e = 0
theorem good_nil : Good [] := fun i e h => by simp at h
theorem good_app {L : List E} (h : Good L) (y : E) : Good (app L y) := by
  unfold app
  split
  · rename_i h0
    intro i e hi
    rcases Nat.lt_or_ge i L.length with hl | hl
    · rw [List.getElem?_append_left hl] at hi
      rw [List.take_append_of_le_length (by omega)]
      exact h i e hi
    · have : i < L.length + 1 := by have := (List.getElem?_eq_some_iff.1 hi).1; simpa using this
      obtain rfl : i = L.length := by omega
      simp at hi
      subst hi
      simpa using h0
  · exact h
theorem last_ge {L : List E} (h : Good L) : ∀ i, ∀ k a, k < i → i ≤ L.length → L[k]? = some a → a.seq ≤ (last (L.take i) a.client).1 := by
  intro i
  induction i with
  | zero => intro k a hk; omega
  | succ i ih =>
    intro k a hk hi ha
    obtain ⟨e, he⟩ : ∃ e, L[i]? = some e := ⟨_, List.getElem?_eq_getElem (by omega)⟩
    rw [take_snoc L i e he, last_snoc]
    have h0 := (err_zero.1 (h i e he)).2.2.2
    by_cases hki : k = i
    · subst hki
      rw [he] at ha
      cases ha
      simp
    · have := ih k a (by omega) (by omega) ha
      split
      · rename_i hc
        rw [← hc] at this
        simp only
        omega
      · exact this
theorem seq_rise {L : List E} (h : Good L) {i k : Nat} {a b : E} (hk : k < i) (ha : L[k]? = some a) (hb : L[i]? = some b) (hc : a.client = b.client) : a.seq < b.seq := by
  have h1 := last_ge h i k a hk (by have := (List.getElem?_eq_some_iff.1 hb).1; omega) ha
  have h2 := (err_zero.1 (h i b hb)).2.2.2
  rw [hc] at h1
  omega
/-- The operation of one entry is another one. -/
def setOp (L : List E) (n : Nat) (o : O) : List E := match L[n]? with
  | some e => L.set n { e with op := o }
  | none => L
theorem setOp_len (L : List E) (n : Nat) (o : O) : (setOp L n o).length = L.length := by unfold setOp; split <;> simp
theorem setOp_get (L : List E) (n : Nat) (o : O) (i : Nat) (e : E) (h : L[i]? = some e) : (setOp L n o)[i]? = some (if i = n then { e with op := o } else e) := by
  unfold setOp
  split
  · rename_i x hx
    by_cases hi : i = n
    · subst hi
      rw [h] at hx
      cases hx
      have := (List.getElem?_eq_some_iff.1 h).1
      simp [this]
    · rw [List.getElem?_set_ne (by omega), if_neg hi]; exact h
  · rename_i hx
    by_cases hi : i = n
    · subst hi; rw [h] at hx; cases hx
    · rw [if_neg hi]; exact h
theorem lastN_alike {L M : List E} (h : ∀ (i : Nat) (a : E), L[i]? = some a → ∃ b : E, M[i]? = some b ∧ b.client = a.client ∧ b.seq = a.seq) : ∀ k, k ≤ L.length → ∀ c, lastN M k c = lastN L k c := by
  intro k
  induction k with
  | zero => intro _ c; rfl
  | succ k ih =>
    intro hk c
    obtain ⟨a, ha⟩ : ∃ a, L[k]? = some a := ⟨_, List.getElem?_eq_getElem (by omega)⟩
    obtain ⟨b, hb, h1, h2⟩ := h k a ha
    by_cases hc : a.client = c
    · rw [lastN_hit ha hc, lastN_hit hb (by rw [h1]; exact hc), h2]
    · rw [lastN_miss ha hc, lastN_miss hb (by rw [h1]; exact hc)]
      exact ih (by omega) c
theorem setOp_good {L : List E} (h : Good L) (n : Nat) {o : O} (ho : o.check = 0) (hk : o.kind ≠ 1) : Good (setOp L n o) := by
  intro i e' hi
  have hil : i < L.length := by have := (List.getElem?_eq_some_iff.1 hi).1; rwa [setOp_len] at this
  obtain ⟨e, he⟩ : ∃ e, L[i]? = some e := ⟨_, List.getElem?_eq_getElem hil⟩
  have hx := setOp_get L n o i e he
  rw [hi] at hx
  have hx' := Option.some.inj hx
  obtain ⟨h1, h2, h3, h4⟩ := err_zero.1 (h i e he)
  have hcs : e'.client = e.client ∧ e'.seq = e.seq ∧ e'.index = e.index := by rw [hx']; split <;> exact ⟨rfl, rfl, rfl⟩
  have hlen : ((setOp L n o).take i).length = (L.take i).length := by simp [setOp_len]
  have hl : last ((setOp L n o).take i) e'.client = last (L.take i) e.client := by
    unfold last
    rw [hlen, hcs.1]
    refine lastN_alike (fun j a hj => ?_) _ (Nat.le_refl _) _
    rw [List.getElem?_take] at hj
    split at hj
    · rename_i hji
      have := setOp_get L n o j a hj
      refine ⟨_, by rw [List.getElem?_take, if_pos hji]; exact this, ?_, ?_⟩ <;> split <;> rfl
    · cases hj
  refine err_zero.2 ⟨?_, by rw [hlen]; exact h2, by rw [hlen, hcs.2.2]; exact h3, by rw [hl, hcs.2.1]; exact h4⟩
  rw [hx']
  split
  · unfold bad at h1 ⊢
    simp only [not_or] at h1 ⊢
    exact ⟨h1.1, h1.2.1, h1.2.2.1, by simpa using ho, hk⟩
  · exact h1
theorem app_take {L : List E} (h : Good L) {i : Nat} {e : E} (hi : L[i]? = some e) : err (L.take i) e = 0 ∧ app (L.take i) e = L.take (i + 1) := by
  have h0 := h i e hi
  exact ⟨h0, by unfold app; rw [if_pos h0, take_snoc L i e hi]⟩
theorem eq_of_prefix {L M : List E} (h : L.length = M.length) : L <+: M ↔ L = M := ⟨fun hp => hp.eq_of_length h, fun e => e ▸ List.prefix_rfl⟩
theorem setOp_eq {L : List E} {n : Nat} {o : O} {e : E} (h : L[n]? = some e) : setOp L n o = L ↔ ({ e with op := o } : E) = e := by
  constructor
  · intro hs
    have := setOp_get L n o n e h
    rw [hs, h, if_pos rfl] at this
    exact (Option.some.inj this).symm
  · intro hs
    unfold setOp
    rw [h]
    simp only [hs]
    exact List.ext_getElem? (fun i => by
      by_cases hi : i = n
      · subst hi
        have := (List.getElem?_eq_some_iff.1 h).1
        simp [this]
        exact (List.getElem?_eq_some_iff.1 h).2.symm
      · rw [List.getElem?_set_ne (by omega)])
end Go.Proofs.Ytbmepaglhkndpaa.Logs
