/-
  Logs as lists of entries: what they lead to, who was last, what an append answers (P11.1 to P11.5, as plain mathematics). No program's text is named here. Conditions: those that each lemma names.
-/
import Derived.Test.YtbmepaglhkndpaaKvMath
namespace Go.Proofs.Ytbmepaglhkndpaa.Logs
open Go.Proofs.Ytbmepaglhkndpaa.Ops Go.Proofs.Ytbmepaglhkndpaa.Kv

/-- An entry. -/
structure E where
  index : Int
  client : Int
  seq : Int
  op : O
def zeroE : E := ⟨0, 0, 0, zeroO⟩
/-- The cells behind all entries, and each one's result. -/
def run : List E → List C × List Rs
  | [] => ([], [])
  | L => L.foldl (fun (s : List C × List Rs) e => (next s.1 ((s.2.length : Int) + 1) e.op, s.2 ++ [told s.1 ((s.2.length : Int) + 1) e.op])) ([], [])
theorem run_eq (L : List E) : run L = L.foldl (fun (s : List C × List Rs) e => (next s.1 ((s.2.length : Int) + 1) e.op, s.2 ++ [told s.1 ((s.2.length : Int) + 1) e.op])) ([], []) := by cases L <;> rfl
def store (L : List E) : List C := (run L).1
def results (L : List E) : List Rs := (run L).2
theorem results_len (L : List E) : (results L).length = L.length := by
  unfold results
  rw [run_eq]
  suffices h : ∀ (L : List E) (s : List C × List Rs), (L.foldl (fun (s : List C × List Rs) e => (next s.1 ((s.2.length : Int) + 1) e.op, s.2 ++ [told s.1 ((s.2.length : Int) + 1) e.op])) s).2.length = s.2.length + L.length by
    simpa using h L ([], [])
  intro L
  induction L with
  | nil => intro s; rfl
  | cons a L ih =>
    intro s
    rw [List.foldl_cons, ih]
    simp
    omega
theorem run_snoc (L : List E) (e : E) : run (L ++ [e]) = (next (store L) ((L.length : Int) + 1) e.op, results L ++ [told (store L) ((L.length : Int) + 1) e.op]) := by
  have h := results_len L
  unfold store results at *
  rw [run_eq (L ++ [e]), List.foldl_append, ← run_eq L, List.foldl_cons, List.foldl_nil, h]
theorem store_snoc (L : List E) (e : E) : store (L ++ [e]) = next (store L) ((L.length : Int) + 1) e.op := by unfold store; rw [run_snoc]; rfl
theorem results_snoc (L : List E) (e : E) : results (L ++ [e]) = results L ++ [told (store L) ((L.length : Int) + 1) e.op] := by unfold results; rw [run_snoc]; rfl
theorem snoc_all {p : List E → Prop} (h0 : p []) (h1 : ∀ L e, p L → p (L ++ [e])) (L : List E) : p L := by
  have : ∀ R : List E, p R.reverse := fun R => by
    induction R with
    | nil => exact h0
    | cons e R ih =>
      rw [List.reverse_cons]
      exact h1 _ _ ih
  simpa using this L.reverse
theorem store_len (L : List E) : (store L).length ≤ L.length := by
  refine snoc_all (p := fun L => (store L).length ≤ L.length) (Nat.le_refl _) (fun L e ih => ?_) L
  rw [store_snoc]
  have := next_len (store L) ((L.length : Int) + 1) e.op
  simp
  omega
theorem take_snoc (L : List E) (k : Nat) (e : E) (h : L[k]? = some e) : L.take (k + 1) = L.take k ++ [e] := by
  rw [List.take_add_one, h]
  rfl
/-- The client's last entry's Seq, and its place (from 1 on), among the first k. -/
def lastN (L : List E) : Nat → Int → Int × Int
  | 0, _ => (0, 0)
  | k + 1, c => match L[k]? with
    | some e => if e.client = c then (e.seq, (k : Int) + 1) else lastN L k c
    | none => lastN L k c
def last (L : List E) (c : Int) : Int × Int := lastN L L.length c
theorem lastN_hit {L : List E} {k : Nat} {c : Int} {e : E} (h : L[k]? = some e) (hc : e.client = c) : lastN L (k + 1) c = (e.seq, (k : Int) + 1) := by unfold lastN; rw [h]; simp [hc]
theorem lastN_miss {L : List E} {k : Nat} {c : Int} {e : E} (h : L[k]? = some e) (hc : ¬ e.client = c) : lastN L (k + 1) c = lastN L k c := by rw [lastN, h]; simp [hc]
theorem lastN_more (L M : List E) (c : Int) : ∀ k, k ≤ L.length → lastN (L ++ M) k c = lastN L k c
  | 0, _ => rfl
  | k + 1, h => by
    have ih := lastN_more L M c k (by omega)
    unfold lastN
    rw [List.getElem?_append_left (by omega), ih]
theorem last_snoc (L : List E) (e : E) (c : Int) : last (L ++ [e]) c = if e.client = c then (e.seq, (L.length : Int) + 1) else last L c := by
  unfold last
  have hg : (L ++ [e])[L.length]? = some e := by simp
  rw [show (L ++ [e]).length = L.length + 1 by simp]
  split
  · rename_i h
    exact lastN_hit hg h
  · rename_i h
    rw [lastN_miss hg h, lastN_more L [e] c _ (Nat.le_refl _)]
/-- What an append answers. -/
def bad (e : E) : Prop := e.client < 0 ∨ 5 < e.client ∨ e.seq < 1 ∨ e.op.check ≠ 0 ∨ e.op.kind = 1
instance (e : E) : Decidable (bad e) := by unfold bad; infer_instance
def err (L : List E) (e : E) : Int := if bad e then 2 else if 4096 ≤ L.length then 60 else if e.index ≠ (L.length : Int) + 1 then 70 else if e.seq ≤ (last L e.client).1 then 71 else 0
def app (L : List E) (e : E) : List E := if err L e = 0 then L ++ [e] else L
def ans (L : List E) (e : E) : Rs := if err L e = 0 then told (store L) ((L.length : Int) + 1) e.op else zeroR
theorem app_len (L : List E) (e : E) : (app L e).length ≤ L.length + 1 := by unfold app; split <;> simp
end Go.Proofs.Ytbmepaglhkndpaa.Logs
