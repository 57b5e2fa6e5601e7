/-
  Contracts of package logs (layer 11), of the landed code, in the words that the laws use. Conditions: those that each names.
-/
import Derived.Test.YtbmepaglhkndpaaLogZ
namespace Go.Proofs.Ytbmepaglhkndpaa.Logs
open Go.RowKit Go.Proofs.Ytbmepaglhkndpaa.Mem Go.Proofs.Ytbmepaglhkndpaa.Ops Go.Proofs.Ytbmepaglhkndpaa.Kv
theorem same_below {P : Program} {f : FuncId} {args : Array Value} {w : World} {v : Value} (h : Calls P f args w fun e w' => e = .returned v ∧ w' = w) : Calls P f args w fun e w' => e = .returned v ∧ Below w.heap.size w w' :=
  h.mono fun _ _ ⟨he, hw⟩ => ⟨he, by subst hw; exact Below.refl _ _⟩
theorem lg_new (w : World) : Calls Try.prog 8 #[] w fun e w' => ∃ p S, e = .returned (ptr p) ∧ LgAt w' p S [] ∧ (∀ b ∈ S, w.heap.size ≤ b) ∧ Below w.heap.size w w' :=
  (lg_new1 w).mono fun _ _ ⟨p, s, m, he, h, h1, h2, h3, hb⟩ => ⟨p, _, he, ⟨_, _, s, m, h, rfl⟩, by simp [Value.ownBlock]; omega, hb⟩
theorem lg_append (w : World) (p : Nat) (S : List Nat) (L : List E) (h : LgAt w p S L) (y : E) (hl : L.length ≤ 1000) : Calls Try.prog 12 #[ptr p, .agg y.cells.toArray] w fun e w' => e = .returned (.tuple #[.agg (ans L y).cells.toArray, .int .i64 (err L y)]) ∧ ∃ S', LgAt w' p S' (app L y) ∧ Turned S w w' ∧ ∀ b ∈ S', b ∈ S ∨ w.heap.size ≤ b := by
  obtain ⟨ve, vr, s, m, h, rfl⟩ := h
  refine (append_at w p ve vr s m L h y hl).mono fun _ w' ⟨he, ve', vr', h', t, he1, hr1⟩ => ⟨he, _, ⟨ve', vr', s, m, h', rfl⟩, t, fun b hb => ?_⟩
  simp only [List.mem_cons, List.mem_append, Option.mem_toList] at hb
  rcases hb with rfl | rfl | rfl | hb | hb
  · exact .inl (by simp)
  · exact .inl (by simp)
  · exact .inl (by simp)
  · exact he1 b (by simpa using hb)
  · exact hr1 b (by simpa using hb)
theorem lg_len (w : World) (p : Nat) (S : List Nat) (L : List E) (h : LgAt w p S L) : Calls Try.prog 13 #[ptr p] w fun e w' => e = .returned (.int .i64 L.length) ∧ Below w.heap.size w w' := by
  obtain ⟨ve, vr, s, m, h, rfl⟩ := h
  exact same_below (len_at w p ve vr s m L h)
theorem lg_at (w : World) (p : Nat) (S : List Nat) (L : List E) (h : LgAt w p S L) (i : Int) (_hi : -1 ≤ i ∧ i ≤ 1000000) : Calls Try.prog 18 #[ptr p, .int .i64 i] w fun e w' => e = .returned (.tuple #[.agg (entAt L i).cells.toArray, .bool (inL L i)]) ∧ Below w.heap.size w w' := by
  obtain ⟨ve, vr, s, m, h, rfl⟩ := h
  exact at_at w p ve vr s m L h i
theorem lg_result (w : World) (p : Nat) (S : List Nat) (L : List E) (h : LgAt w p S L) (i : Int) (_hi : -1 ≤ i ∧ i ≤ 1000000) : Calls Try.prog 19 #[ptr p, .int .i64 i] w fun e w' => e = .returned (.tuple #[.agg (resAt L i).cells.toArray, .bool (inL L i)]) ∧ Below w.heap.size w w' := by
  obtain ⟨ve, vr, s, m, h, rfl⟩ := h
  exact result_at w p ve vr s m L h i
theorem lg_entries (w : World) (p : Nat) (S : List Nat) (L : List E) (h : LgAt w p S L) : Calls Try.prog 21 #[ptr p] w fun e w' => ∃ v, e = .returned v ∧ kE.Own w' w.heap.size v L ∧ Below w.heap.size w w' := by
  obtain ⟨ve, vr, s, m, h, rfl⟩ := h
  exact entries_at w p ve vr s m L h
theorem lg_last (w : World) (p : Nat) (S : List Nat) (L : List E) (h : LgAt w p S L) (c : Int) : Calls Try.prog 20 #[ptr p, .int .i64 c] w fun e w' => e = .returned (.tuple #[.int .i64 (last L c).1, .int .i64 (last L c).2]) ∧ Below w.heap.size w w' := by
  obtain ⟨ve, vr, s, m, h, rfl⟩ := h
  exact last_at w p ve vr s m L h c
theorem lg_look (w : World) (p : Nat) (S : List Nat) (L : List E) (h : LgAt w p S L) (key : List UInt8) (hk : key.length ≤ 1000000) : Calls Try.prog 10 #[ptr p, .string ⟨key.toArray⟩] w fun e w' => e = .returned (.agg (Kv.look (store L) key L.length).cells.toArray) ∧ Below w.heap.size w w' := by
  obtain ⟨ve, vr, s, m, h, rfl⟩ := h
  exact llook_at w p ve vr s m L h key hk
theorem lg_copy (w : World) (p : Nat) (S : List Nat) (L : List E) (h : LgAt w p S L) : Calls Try.prog 9 #[ptr p] w fun e w' => ∃ q S', e = .returned (ptr q) ∧ LgAt w' q S' L ∧ (∀ b ∈ S', w.heap.size ≤ b) ∧ Below w.heap.size w w' := by
  obtain ⟨ve, vr, s, m, h, rfl⟩ := h
  refine (lg_copy1 w p ve vr s m L h).mono fun _ _ ⟨q, ve', vr', s', m', he, h', h1, h2, h3, h4, h5, hb⟩ => ⟨q, _, he, ⟨ve', vr', s', m', h', rfl⟩, fun b hb => ?_, hb⟩
  simp only [List.mem_cons, List.mem_append, Option.mem_toList] at hb
  rcases hb with rfl | rfl | rfl | hb | hb
  · exact h1
  · exact h2
  · exact h3
  · exact h4 b (by simpa using hb)
  · exact h5 b (by simpa using hb)
theorem lg_begins_yes (w : World) (p : Nat) (S : List Nat) (L : List E) (h : LgAt w p S L) (q : Nat) (S' : List Nat) (M : List E) (k : LgAt w q S' M) (hp : L <+: M) : Calls Try.prog 16 #[ptr p, ptr q] w fun e w' => e = .returned (.bool true) ∧ Below w.heap.size w w' := by
  obtain ⟨ve, vr, s, m, h, rfl⟩ := h
  obtain ⟨ve', vr', s', m', k, rfl⟩ := k
  exact begins_at w p ve vr s m L h q ve' vr' s' m' M k true (by simpa using hp)
theorem lg_begins_no (w : World) (p : Nat) (S : List Nat) (L : List E) (h : LgAt w p S L) (q : Nat) (S' : List Nat) (M : List E) (k : LgAt w q S' M) (hp : ¬ L <+: M) : Calls Try.prog 16 #[ptr p, ptr q] w fun e w' => e = .returned (.bool false) ∧ Below w.heap.size w w' := by
  obtain ⟨ve, vr, s, m, h, rfl⟩ := h
  obtain ⟨ve', vr', s', m', k, rfl⟩ := k
  exact begins_at w p ve vr s m L h q ve' vr' s' m' M k false (by simpa using hp)
theorem nl_begins_n1 (w : World) (v : Value) (h : NoL w v) (p : Nat) (S : List Nat) (L : List E) (k : LgAt w p S L) : Calls Try.prog 16 #[v, ptr p] w fun e w' => e = .returned (.bool false) ∧ Below w.heap.size w w' := by
  obtain ⟨ve, vr, s, m, k, rfl⟩ := k
  exact nl_begins_n1' w v h p ve vr s m L k
theorem nl_begins_1n (w : World) (v : Value) (h : NoL w v) (p : Nat) (S : List Nat) (L : List E) (k : LgAt w p S L) : Calls Try.prog 16 #[ptr p, v] w fun e w' => e = .returned (.bool false) ∧ Below w.heap.size w w' := by
  obtain ⟨ve, vr, s, m, k, rfl⟩ := k
  exact nl_begins_1n' w v h p ve vr s m L k
end Go.Proofs.Ytbmepaglhkndpaa.Logs
