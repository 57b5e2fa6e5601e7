/-
  A map from texts to cells of a text and a number, as the list of KvMath that rises by the keys: its datum; what look-up, store, delete, len and the collected keys are in the list's words. Conditions: those that each lemma names.
-/
import Derived.Test.YtbmepaglhkndpaaKvMath
import Derived.Maps.OwnSet
import Derived.Maps.RangeWalk
import Derived.Maps.Ext
import Derived.Sort.KeysCollected
namespace Go.Proofs.Ytbmepaglhkndpaa.Kv
open Go.RowKit Go.Proofs.Ytbmepaglhkndpaa.Ops
open Go.Maps (Keyed Canon has size)

abbrev DD := DataW Unit
theorem before_lt : ∀ a b, bytesBefore a b = lt a b
  | [], [] => rfl
  | [], _ :: _ => rfl
  | _ :: _, [] => rfl
  | a :: x, b :: y => by
    show (decide (a < b) || (a == b && bytesBefore x y)) = (decide (a < b) || (a == b && Op.bytesLess x y))
    rw [before_lt x y]
def elemD (c : C) : DD := .agg [.lit (.string c.val), .lit (.int .i64 c.ver)]
def datum (L : List C) : DD := .map (L.map fun c => (Lit.string c.key, elemD c))
theorem has_datum (L : List C) (k : Lit) : has (datum L) k = L.any (fun c => (Lit.string c.key).sameKey k) := by
  unfold datum
  rw [Maps.has_eq, List.any_map]
  rfl
theorem at_datum (L : List C) (k : Lit) (z : DD) : (datum L).atKey k z = match L.find? (fun c => (Lit.string c.key).sameKey k) with
    | some c => elemD c
    | none => z := by
  unfold datum DataW.atKey
  simp only [List.find?_map, Function.comp_def]
  cases L.find? (fun c => (Lit.string c.key).sameKey k) <;> rfl
theorem same_str (a k : List UInt8) : (Lit.string a).sameKey (.string k) = (a == k) := rfl
theorem canon_datum {L : List C} (h : Rising L) : Canon (datum L) :=
  ⟨_, rfl, List.pairwise_map.2 (h.imp (fun hab => (before_lt _ _).trans hab)), fun p hp => by
    obtain ⟨c, _, rfl⟩ := List.mem_map.1 hp
    trivial⟩
theorem size_datum (L : List C) : size (datum L) = L.length := by simp [datum, Maps.size_eq]
theorem keys_datum (L : List C) : strKeys (datum L) = L.map (·.key) := by simp [datum, strKeys, strOf]
theorem isMap_datum (L : List C) : Maps.IsMap (datum L) := ⟨_, rfl⟩
/-- Two lists of cells that agree at each key have one datum. -/
theorem datum_ext {L : List C} {D : DD} (hL : Rising L) (hD : Canon D) (hs : ∀ k, has D (.string k) = has (datum L) (.string k)) (ha : ∀ k z, has D (.string k) = true → D.atKey (.string k) z = (datum L).atKey (.string k) z)
    (ho : ∀ k, (∀ s, k ≠ .string s) → has D k = false) : D = datum L := by
  have hn : ∀ k : Lit, (∀ s, k ≠ .string s) → has (datum L) k = false := fun k hk => by
    rw [has_datum]
    rw [List.any_eq_false]
    intro c _
    cases k <;> first | exact absurd rfl (hk _) | simp [Lit.sameKey]
  refine Maps.ext hD (canon_datum hL) (fun k => ?_) (fun k z h => ?_)
  · by_cases hk : ∃ s, k = .string s
    · obtain ⟨s, rfl⟩ := hk
      exact hs s
    · rw [ho k (fun s e => hk ⟨s, e⟩), hn k (fun s e => hk ⟨s, e⟩)]
  · by_cases hk : ∃ s, k = .string s
    · obtain ⟨s, rfl⟩ := hk
      exact ha s z h
    · rw [ho k (fun s e => hk ⟨s, e⟩)] at h
      cases h
theorem other_not (L : List C) (k : Lit) (hk : ∀ s, k ≠ .string s) : has (datum L) k = false := by
  rw [has_datum, List.any_eq_false]
  intro c _
  cases k <;> first | exact absurd rfl (hk _) | simp [Lit.sameKey]
theorem any_iff_find (L : List C) (k : List UInt8) : L.any (fun c => c.key == k) = (L.find? (fun c => c.key == k)).isSome := by
  induction L with
  | nil => rfl
  | cons a L ih =>
    rw [List.any_cons, List.find?_cons, ih]
    cases a.key == k <;> simp
theorem find_withC_same (L : List C) (c : C) : (withC L c).find? (fun x => x.key == c.key) = some c := by
  unfold withC
  exact find_with_same _ _ _ (fun x hx => (mem_without.1 (List.mem_of_mem_take hx)).2)
theorem find_withC_other (L : List C) (c : C) (k : List UInt8) (h : k ≠ c.key) : (withC L c).find? (fun x => x.key == k) = L.find? (fun x => x.key == k) := by
  rw [← find_without L c.key k h]
  unfold withC
  generalize place (without L c.key) c.key = i
  generalize without L c.key = M
  have hc : (c.key == k) = false := by simpa using fun e => h e.symm
  conv => rhs; rw [← List.take_append_drop i M]
  rw [List.find?_append, List.find?_append, List.find?_cons, hc]
theorem find_without_same (L : List C) (k : List UInt8) : (without L k).find? (fun x => x.key == k) = none := by
  rw [List.find?_eq_none]
  intro x hx
  simpa using (mem_without.1 hx).2
theorem has_str (L : List C) (k : List UInt8) : has (datum L) (.string k) = (L.find? (fun c => c.key == k)).isSome := by
  rw [has_datum, ← any_iff_find]
  rfl
theorem at_str (L : List C) (k : List UInt8) (z : DD) : (datum L).atKey (.string k) z = match L.find? (fun c => c.key == k) with
    | some c => elemD c
    | none => z := at_datum L (.string k) z
theorem put_datum {L : List C} (h : Rising L) (c : C) (hc : Canon ((datum L).put (.string c.key) (elemD c))) : (datum L).put (.string c.key) (elemD c) = datum (withC L c) := by
  refine datum_ext (rising_with h c) hc (fun k => ?_) (fun k z _ => ?_) (fun k hk => ?_)
  · by_cases e : k = c.key
    · subst e
      rw [Maps.has_put_same (isMap_datum L) (show WideAt.IsKeyLit (.string c.key) from trivial), has_str, find_withC_same]
      rfl
    · rw [Maps.has_put_other (by simpa using e), has_str, has_str, find_withC_other L c k e]
  · by_cases e : k = c.key
    · subst e
      rw [Maps.atKey_put_same (isMap_datum L) (show WideAt.IsKeyLit (.string c.key) from trivial), at_str, find_withC_same]
    · rw [Maps.atKey_put_other (by simpa using e), at_str, at_str, find_withC_other L c k e]
  · rw [Maps.has_put_other (hk _), other_not L k hk]
theorem del_datum {L : List C} (h : Rising L) (key : List UInt8) (hc : Canon ((datum L).del (.string key))) : (datum L).del (.string key) = datum (without L key) := by
  refine datum_ext (rising_without h key) hc (fun k => ?_) (fun k z hk => ?_) (fun k hk => ?_)
  · by_cases e : k = key
    · subst e
      rw [Maps.has_del_same, has_str, find_without_same]
      rfl
    · rw [Maps.has_del_other (by simpa using e), has_str, has_str, find_without L key k e]
  · by_cases e : k = key
    · subst e
      rw [Maps.has_del_same] at hk
      cases hk
    · rw [Maps.atKey_del_other (by simpa using e), at_str, at_str, find_without L key k e]
  · rw [Maps.has_del_other (hk _), other_not L k hk]

/-! ### An element's value, in the order of the struct's fields -/
def elemV (v : List UInt8) (n : Int) : Value := .agg #[.string ⟨v.toArray⟩, .int .i64 n]
def elemR (v : Value) : Option (DD × List MemPlace) := match v with
  | .agg ⟨[.string s, .int .i64 n]⟩ => some (.agg [.lit (.string s.data.toList), .lit (.int .i64 n)], [])
  | _ => none
theorem elemR_mk (v : List UInt8) (n : Int) : elemR (elemV v n) = some (.agg [.lit (.string v), .lit (.int .i64 n)], []) := rfl
theorem elemR_inv {v : Value} {z : DD × List MemPlace} (h : elemR v = some z) : ∃ s n, v = elemV s n ∧ z = (.agg [.lit (.string s), .lit (.int .i64 n)], []) := by
  unfold elemR at h
  split at h
  · rename_i s n
    cases h
    exact ⟨s.data.toList, n, by simp [elemV], rfl⟩
  · cases h
end Go.Proofs.Ytbmepaglhkndpaa.Kv
