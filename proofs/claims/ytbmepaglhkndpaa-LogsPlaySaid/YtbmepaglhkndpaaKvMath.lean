/-
  Cells of a store as a list that rises by the keys: what is told of a key, what an operation leads to (P10.1 to P10.4, as plain mathematics). No program's text is named here. Conditions: those that each lemma names.
-/
import Derived.WalkKit
import Derived.Test.YtbmepaglhkndpaaOpsMath
namespace Go.Proofs.Ytbmepaglhkndpaa.Kv
open Go.Proofs.Ytbmepaglhkndpaa.Ops

/-- A key's cell; a result. -/
structure C where
  key : List UInt8
  val : List UInt8
  ver : Int
structure Rs where
  code : Int
  val : List UInt8
  ver : Int
  at_ : Int
def zeroR : Rs := ⟨0, [], 0, 0⟩
abbrev lt (a b : List UInt8) : Bool := Op.bytesLess a b
theorem lt_irr : ∀ a, lt a a = false
  | [] => rfl
  | a :: x => by show (decide (a < a) || (a == a && Op.bytesLess x x)) = false; rw [show Op.bytesLess x x = false from lt_irr x]; simp
theorem lt_trans : ∀ {a b c}, lt a b = true → lt b c = true → lt a c = true
  | a, [], _, h, _ => by cases a <;> exact absurd h (by simp [lt, Op.bytesLess])
  | _, _ :: _, [], _, h => by simp [lt, Op.bytesLess] at h
  | [], _ :: _, _ :: _, _, _ => rfl
  | a :: x, b :: y, c :: z, h, k => by
    simp only [lt, Op.bytesLess, Bool.or_eq_true, decide_eq_true_eq, Bool.and_eq_true, beq_iff_eq] at h k ⊢
    rcases h with h | ⟨rfl, h⟩
    · rcases k with k | ⟨rfl, k⟩
      · exact .inl (UInt8.lt_trans h k)
      · exact .inl h
    · rcases k with k | ⟨rfl, k⟩
      · exact .inl k
      · exact .inr ⟨rfl, lt_trans h k⟩
theorem lt_tri : ∀ a b, lt a b = true ∨ a = b ∨ lt b a = true
  | [], [] => .inr (.inl rfl)
  | [], _ :: _ => .inl rfl
  | _ :: _, [] => .inr (.inr rfl)
  | a :: x, b :: y => by
    simp only [lt, Op.bytesLess, Bool.or_eq_true, decide_eq_true_eq, Bool.and_eq_true, beq_iff_eq, List.cons.injEq]
    rcases UInt8.lt_or_lt_of_ne (a := a) (b := b) |> fun f => Classical.em (a = b) |>.imp id f with h | h | h
    · subst h
      rcases lt_tri x y with k | k | k
      · exact .inl (.inr ⟨rfl, k⟩)
      · exact .inr (.inl ⟨rfl, k⟩)
      · exact .inr (.inr (.inr ⟨rfl, k⟩))
    · exact .inl (.inl h)
    · exact .inr (.inr (.inl h))
theorem lt_asym {a b} (h : lt a b = true) : lt b a = false := by
  cases k : lt b a with
  | false => rfl
  | true => have := lt_trans h k; rw [lt_irr] at this; cases this
theorem lt_ne {a b} (h : lt a b = true) : a ≠ b := fun e => by subst e; rw [lt_irr] at h; cases h

/-- What is told of a key. -/
def look (L : List C) (key : List UInt8) (n : Int) : Rs := match L.find? (fun c => c.key == key) with
  | some c => ⟨1, c.val, c.ver, n⟩
  | none => ⟨2, [], 0, n⟩
def without (L : List C) (key : List UInt8) : List C := L.filter (fun c => !(c.key == key))
/-- Where a key's cell stands. -/
def place (L : List C) (key : List UInt8) : Nat := (L.takeWhile (fun c => lt c.key key)).length
def withC (L : List C) (c : C) : List C := (without L c.key).take (place (without L c.key) c.key) ++ c :: (without L c.key).drop (place (without L c.key) c.key)
/-- An operation, as entry n. -/
def refused (n : Int) (o : O) : Prop := n < 1 ∨ 4096 < n ∨ o.check ≠ 0
instance (n : Int) (o : O) : Decidable (refused n o) := by unfold refused; infer_instance
def next (L : List C) (n : Int) (o : O) : List C :=
  if refused n o then L else if o.kind = 1 then L else if o.kind = 3 then (if (look L o.key n).code = 2 then L else without L o.key)
  else if o.kind = 4 ∧ (look L o.key n).ver ≠ o.ver then L else withC L ⟨o.key, o.val, n⟩
def told (L : List C) (n : Int) (o : O) : Rs :=
  if refused n o then zeroR else if o.kind = 1 then look L o.key n else if o.kind = 3 then (if (look L o.key n).code = 2 then look L o.key n else ⟨1, [], 0, n⟩)
  else if o.kind = 4 ∧ (look L o.key n).ver ≠ o.ver then ⟨3, (look L o.key n).val, (look L o.key n).ver, n⟩ else ⟨1, [], n, n⟩

/-- Rising, each key once; bounds. -/
def Rising (L : List C) : Prop := L.Pairwise (fun a b => lt a.key b.key = true)
theorem place_le (L : List C) (key : List UInt8) : place L key ≤ L.length := (List.takeWhile_sublist _).length_le
theorem without_len (L : List C) (key : List UInt8) : (without L key).length ≤ L.length := List.length_filter_le _ _
theorem withC_len (L : List C) (c : C) : (withC L c).length ≤ L.length + 1 := by
  have := without_len L c.key
  have := place_le (without L c.key) c.key
  simp [withC]
  omega
theorem next_len (L : List C) (n : Int) (o : O) : (next L n o).length ≤ L.length + 1 := by
  have h1 := without_len L o.key
  have h2 := withC_len L ⟨o.key, o.val, n⟩
  unfold next
  repeat' split
  all_goals omega
theorem take_place : ∀ (L : List C) (key : List UInt8), L.take (place L key) = L.takeWhile (fun c => lt c.key key)
  | [], _ => rfl
  | a :: L, key => by
    unfold place
    rw [List.takeWhile_cons]
    split
    · rw [List.length_cons, List.take_succ_cons]
      rw [show (L.takeWhile (fun c => lt c.key key)).length = place L key from rfl, take_place L key]
    · rfl
theorem drop_place : ∀ (L : List C) (key : List UInt8), L.drop (place L key) = L.dropWhile (fun c => lt c.key key)
  | [], _ => rfl
  | a :: L, key => by
    unfold place
    rw [List.takeWhile_cons, List.dropWhile_cons]
    split
    · rw [List.length_cons, List.drop_succ_cons]
      rw [show (L.takeWhile (fun c => lt c.key key)).length = place L key from rfl, drop_place L key]
    · rfl
theorem mem_without {L : List C} {key : List UInt8} {c : C} : c ∈ without L key ↔ c ∈ L ∧ c.key ≠ key := by simp [without]
theorem rising_without {L : List C} (h : Rising L) (key : List UInt8) : Rising (without L key) := List.Pairwise.filter _ h
/-- In a list that rises without a key: what lies behind its place is above it. -/
theorem above : ∀ {L : List C} {key : List UInt8}, Rising L → (∀ c ∈ L, c.key ≠ key) → ∀ c ∈ L.dropWhile (fun c => lt c.key key), lt key c.key = true
  | [], _, _, _, c, hc => by simp at hc
  | a :: L, key, h, hn, c, hc => by
    rw [List.dropWhile_cons] at hc
    obtain ⟨h1, h2⟩ := List.pairwise_cons.1 h
    split at hc
    · exact above h2 (fun c hc => hn c (List.mem_cons_of_mem _ hc)) c hc
    · rename_i hl
      have ha : lt key a.key = true := by
        rcases lt_tri a.key key with k | k | k
        · exact absurd k hl
        · exact absurd k (hn a (List.mem_cons_self))
        · exact k
      rcases List.mem_cons.1 hc with rfl | hc
      · exact ha
      · exact lt_trans ha (h1 c hc)
theorem rising_with {L : List C} (h : Rising L) (c : C) : Rising (withC L c) := by
  have h1 := rising_without h c.key
  have h2 : ∀ x ∈ without L c.key, x.key ≠ c.key := fun x hx => (mem_without.1 hx).2
  unfold withC
  rw [take_place, drop_place]
  generalize without L c.key = M at *
  have hm : M.takeWhile (fun x => lt x.key c.key) ++ M.dropWhile (fun x => lt x.key c.key) = M := List.takeWhile_append_dropWhile
  have hd := above h1 h2
  have ht : ∀ x ∈ M.takeWhile (fun x => lt x.key c.key), lt x.key c.key = true := fun x hx => by
    exact List.all_eq_true.1 (List.all_takeWhile (p := fun x => lt x.key c.key) (l := M)) x hx
  have hp : Rising (M.takeWhile (fun x => lt x.key c.key) ++ M.dropWhile (fun x => lt x.key c.key)) := hm.symm ▸ h1
  unfold Rising at *
  rw [List.pairwise_append] at hp ⊢
  refine ⟨hp.1, List.pairwise_cons.2 ⟨hd, hp.2.1⟩, fun a ha b hb => ?_⟩
  rcases List.mem_cons.1 hb with rfl | hb
  · exact ht a ha
  · exact hp.2.2 a ha b hb
theorem rising_next {L : List C} (h : Rising L) (n : Int) (o : O) : Rising (next L n o) := by
  unfold next
  split
  · exact h
  · split
    · exact h
    · split
      · split
        · exact h
        · exact rising_without h _
      · split
        · exact h
        · exact rising_with h _
/-- What is told behind a change. -/
theorem find_with_same : ∀ (A B : List C) (c : C), (∀ x ∈ A, x.key ≠ c.key) → (A ++ c :: B).find? (fun x => x.key == c.key) = some c
  | [], B, c, _ => by simp
  | a :: A, B, c, h => by
    have ha : (a.key == c.key) = false := by simpa using h a (List.mem_cons_self)
    rw [List.cons_append, List.find?_cons, ha]
    exact find_with_same A B c (fun x hx => h x (List.mem_cons_of_mem _ hx))
theorem look_with (L : List C) (c : C) (n : Int) : look (withC L c) c.key n = ⟨1, c.val, c.ver, n⟩ := by
  unfold look withC
  rw [find_with_same _ _ _ (fun x hx => (mem_without.1 (List.mem_of_mem_take hx)).2)]
theorem find_without (L : List C) (key k : List UInt8) (h : k ≠ key) : (without L key).find? (fun x => x.key == k) = L.find? (fun x => x.key == k) := by
  unfold without
  rw [List.find?_filter]
  congr 1
  funext x
  by_cases e : x.key = k
  · simp [e, h]
  · simp [e]
theorem look_other (L : List C) (c : C) (k : List UInt8) (h : k ≠ c.key) (n : Int) : look (withC L c) k n = look L k n := by
  have e : (withC L c).find? (fun x => x.key == k) = L.find? (fun x => x.key == k) := by
    rw [← find_without L c.key k h]
    unfold withC
    generalize place (without L c.key) c.key = i
    generalize without L c.key = M
    have hc : (c.key == k) = false := by simpa using fun e => h e.symm
    conv => rhs; rw [← List.take_append_drop i M]
    rw [List.find?_append, List.find?_append, List.find?_cons, hc]
  unfold look
  rw [e]
/-- At another index the same is told. -/
theorem look_n (L : List C) (key : List UInt8) (n : Int) : look L key n = ⟨(look L key 0).code, (look L key 0).val, (look L key 0).ver, n⟩ := by
  unfold look
  split <;> rfl
/-- Versions: each is the index of an entry. -/
def Vers (L : List C) : Prop := ∀ c ∈ L, 1 ≤ c.ver ∧ c.ver ≤ 4096
theorem vers_without {L : List C} (h : Vers L) (key : List UInt8) : Vers (without L key) := fun c hc => h c (mem_without.1 hc).1
theorem vers_with {L : List C} (h : Vers L) (c : C) (hc : 1 ≤ c.ver ∧ c.ver ≤ 4096) : Vers (withC L c) := fun x hx => by
  unfold withC at hx
  rcases List.mem_append.1 hx with hx | hx
  · exact vers_without h c.key x (List.mem_of_mem_take hx)
  · rcases List.mem_cons.1 hx with rfl | hx
    · exact hc
    · exact vers_without h c.key x (List.mem_of_mem_drop hx)
theorem vers_next {L : List C} (h : Vers L) (n : Int) (o : O) : Vers (next L n o) := by
  unfold next
  split
  · exact h
  · rename_i hr
    unfold refused at hr
    split
    · exact h
    · split
      · split
        · exact h
        · exact vers_without h _
      · split
        · exact h
        · exact vers_with h _ (by simp only; omega)
theorem vers_look {L : List C} (h : Vers L) (key : List UInt8) (n : Int) : 0 ≤ (look L key n).ver ∧ (look L key n).ver ≤ 4096 := by
  unfold look
  cases e : L.find? (fun c => c.key == key) with
  | none => simp
  | some c =>
    have := h c (List.mem_of_find?_eq_some e)
    simp only
    omega
/-- A swap: with the version that is there; with another one. -/
theorem swap_check (k v : List UInt8) {x y : Int} (hx : 0 ≤ x ∧ x ≤ 4096) (hy : 0 ≤ y ∧ y ≤ 4096) : (O.mk 4 k v x).check = (O.mk 4 k v y).check := by
  have hb : (O.mk 4 k v x).bad ↔ (O.mk 4 k v y).bad := by
    unfold O.bad
    simp only
    omega
  by_cases h : (O.mk 4 k v x).bad
  · rw [check_bad h, check_bad (hb.1 h)]
  · by_cases l : (O.mk 4 k v x).long
    · rw [check_long h l, check_long (fun e => h (hb.2 e)) l]
    · rw [check_ok.2 ⟨h, l⟩, check_ok.2 ⟨fun e => h (hb.2 e), l⟩]
theorem swap_refused {k v : List UInt8} {x n : Int} (hx : 0 ≤ x ∧ x ≤ 4096) (hc : (O.mk 4 k v 0).check = 0) (hn : 1 ≤ n ∧ n ≤ 4096) : ¬ refused n (O.mk 4 k v x) := by
  have := swap_check k v hx (y := 0) (by omega)
  unfold refused
  omega
theorem swap_done {L : List C} {k v : List UInt8} {x n : Int} (hx : 0 ≤ x ∧ x ≤ 4096) (hc : (O.mk 4 k v 0).check = 0) (hn : 1 ≤ n ∧ n ≤ 4096) (h : (look L k 0).ver = x) :
    told L n (O.mk 4 k v x) = ⟨1, [], n, n⟩ ∧ next L n (O.mk 4 k v x) = withC L ⟨k, v, n⟩ := by
  have hr := swap_refused hx hc hn
  have hv : (look L k n).ver = x := by rw [look_n]; exact h
  unfold told next
  rw [if_neg hr, if_neg hr]
  simp [hv]
theorem swap_not {L : List C} {k v : List UInt8} {x n : Int} (hx : 0 ≤ x ∧ x ≤ 4096) (hc : (O.mk 4 k v 0).check = 0) (hn : 1 ≤ n ∧ n ≤ 4096) (h : (look L k 0).ver ≠ x) :
    told L n (O.mk 4 k v x) = ⟨3, (look L k 0).val, (look L k 0).ver, n⟩ ∧ next L n (O.mk 4 k v x) = L := by
  have hr := swap_refused hx hc hn
  unfold told next
  rw [if_neg hr, if_neg hr, look_n]
  simp [h]
end Go.Proofs.Ytbmepaglhkndpaa.Kv
