/-
  A map from texts to cells in memory, by the list of KvMath: its operations. The types' numbers are the landed program's. Conditions: those that each lemma names.
-/
import Derived.Test.YtbmepaglhkndpaaKvMap
import Derived.Test.YtbmepaglhkndpaaKvT
import Derived.Maps.OwnOps
namespace Go.Proofs.Ytbmepaglhkndpaa.Kv
open Go.RowKit Go.Proofs.Ytbmepaglhkndpaa.Mem Go.Proofs.Ytbmepaglhkndpaa.Ops
open Go.Maps (Keyed Canon has size)
set_option maxRecDepth 100000

abbrev TM : TypeId := 76
abbrev TE : TypeId := 81
abbrev TK : TypeId := 9
abbrev TS : TypeId := 78
theorem keyed : Keyed Try.prog TK := Maps.string_keyed Try.underlying9
theorem zero_elem (w : World) : (zeroValue TE).run Try.prog w = .ok (elemV [] 0) w := by kernel_rfl
theorem key_of (k : List UInt8) (h : k.length ≤ 1000000) : keyOf Try.prog TK (.string ⟨k.toArray⟩) = some (.string k) := by
  have := WideMaps.keyOf_string_mk Try.underlying9 (s := ⟨k.toArray⟩) (by show k.toArray.size ≤ maxLen; unfold maxLen; simp; omega)
  simpa using this
/-- The map lies in block m. -/
structure MapAt (w : World) (m : Nat) (L : List C) : Prop where
  owns : w.ownsMap Try.prog TK elemR m L.length (datum L)
  rise : Rising L
  keys : ∀ c ∈ L, c.key.length ≤ 16
  many : L.length ≤ 1000000
theorem MapAt.lt {w : World} {m : Nat} {L : List C} (h : MapAt w m L) : m < w.heap.size := h.owns.lt
theorem MapAt.same {w w' : World} {m : Nat} {L : List C} (h : MapAt w m L) (e : w'.heap[m]? = w.heap[m]?) : MapAt w' m L :=
  ⟨by obtain ⟨es, clock, h1, h2⟩ := h.owns; exact ⟨es, clock, e.trans h1, h2⟩, h.rise, h.keys, h.many⟩
theorem MapAt.turned {S : List Nat} {w w' : World} {m : Nat} {L : List C} (h : MapAt w m L) (t : Turned S w w') (hm : m ∉ S) : MapAt w' m L := h.same (t.block m h.lt hm)
theorem owns_tight {w : World} {b n : Nat} {D : DD} (h : w.ownsMap Try.prog TK elemR b n D) : w.ownsMap Try.prog TK elemR b (size D) D := by
  obtain ⟨es, clock, h1, h2, _, rfl⟩ := h
  exact ⟨es, clock, h1, h2, by simp [Maps.size, length_sorted], rfl⟩
theorem turned_of_grown {w w' : World} {b : Nat} (h : w.grownBy w' (some b)) : Turned [b] w w' := ⟨h.os, h.tape, h.output, h.size, fun k hk hn => h.block k hk (fun e => hn (by simpa using Option.some.inj e))⟩
theorem map_made (w : World) : MapAt (w.alloc (.map #[] 0)) w.heap.size [] :=
  ⟨World.ownsMap_made _ _ _ _, List.Pairwise.nil, by simp, by simp⟩
theorem map_update {w : World} {m : Nat} {L : List C} (h : MapAt w m L) (c : C) (hk : c.key.length ≤ 16) (hl : L.length < 1000000) :
    ∃ w', (Instr.mapUpdate TM (.map (some m)) (.string ⟨c.key.toArray⟩) (elemV c.val c.ver)).run Try.prog w = .ok () w' ∧ MapAt w' m (withC L c) ∧ Turned [m] w w' ∧ w'.heap.size = w.heap.size ∧ (datum L).put (.string c.key) (elemD c) = datum (withC L c) := by
  obtain ⟨w', hrun, ho, hg⟩ := h.owns.store (t := TM) (e := TE) keyed Try.underlying76 (by have := h.many; unfold maxLen; omega) (key_of c.key (by omega)) (elemR_mk c.val c.ver)
  replace ho : w'.ownsMap Try.prog TK elemR m (L.length + 1) ((datum L).put (.string c.key) (elemD c)) := ho
  have hd := put_datum h.rise c (ho.canon keyed)
  rw [hd] at ho
  have ho' := owns_tight ho
  rw [size_datum] at ho'
  refine ⟨w', hrun, ⟨ho', rising_with h.rise c, fun x hx => ?_, ?_⟩, turned_of_grown hg.grown, ?_, hd⟩
  · unfold withC at hx
    rcases List.mem_append.1 hx with hx | hx
    · exact h.keys x (mem_without.1 (List.mem_of_mem_take hx)).1
    · rcases List.mem_cons.1 hx with rfl | hx
      · exact hk
      · exact h.keys x (mem_without.1 (List.mem_of_mem_drop hx)).1
  · have := withC_len L c
    omega
  · obtain ⟨es, clock, es', clock', _, rfl⟩ := hg
    simp [ChangeMaps.setBlock]
theorem map_delete {w : World} {m : Nat} {L : List C} (h : MapAt w m L) (k : List UInt8) (hk : k.length ≤ 1000000) (ty : TypeId) :
    ∃ w', (Builtin.delete_ #[TM, TK] ty #[.map (some m), .string ⟨k.toArray⟩]).run Try.prog w = .ok (.tuple #[]) w' ∧ MapAt w' m (without L k) ∧ Turned [m] w w' ∧ w'.heap.size = w.heap.size := by
  obtain ⟨w', hrun, ho, hg⟩ := h.owns.drop (t := TM) (e := TE) keyed Try.underlying76 (key_of k hk) ty
  have hd := del_datum h.rise k (ho.canon keyed)
  rw [hd] at ho
  have ho' := owns_tight ho
  rw [size_datum] at ho'
  refine ⟨w', hrun, ⟨ho', rising_without h.rise k, fun x hx => h.keys x (mem_without.1 hx).1, ?_⟩, turned_of_grown hg.grown, ?_⟩
  · have := without_len L k
    have := h.many
    omega
  · obtain ⟨es, clock, es', clock', _, rfl⟩ := hg
    simp [ChangeMaps.setBlock]
/-- Is the key there? -/
def hit (L : List C) (k : List UInt8) : Bool := (L.find? (fun c => c.key == k)).isSome
theorem look_there (L : List C) (k : List UInt8) (n : Int) : look L k n = if hit L k then ⟨1, (look L k 0).val, (look L k 0).ver, n⟩ else ⟨2, [], 0, n⟩ := by
  unfold look hit
  cases L.find? (fun c => c.key == k) <;> rfl
theorem map_lookup {w : World} {m : Nat} {L : List C} (h : MapAt w m L) (k : List UInt8) (hk : k.length ≤ 1000000) :
    (Instr.lookup TM (.map (some m)) (.string ⟨k.toArray⟩) true).run Try.prog w = .ok (.tuple #[elemV (look L k 0).val (look L k 0).ver, .bool (hit L k)]) w := by
  obtain ⟨v, ps, hrun, hv⟩ := h.owns.look_ok (t := TM) (e := TE) keyed Try.underlying76 (zero_elem w) (elemR_mk [] 0) (key_of k hk)
  obtain ⟨s, n, rfl, hz⟩ := elemR_inv hv
  rw [hrun, has_str]
  rw [at_str] at hz
  have e : s = (look L k 0).val ∧ n = (look L k 0).ver := by
    unfold look
    cases hf : L.find? (fun c => c.key == k) with
    | none =>
      rw [hf] at hz
      simp at hz
      exact ⟨hz.1.1, hz.1.2.symm⟩
    | some c =>
      rw [hf] at hz
      simp [elemD] at hz
      simp only
      exact ⟨hz.1.1.symm, hz.1.2.symm⟩
  rw [e.1, e.2]
  rfl
theorem datum_inj {L M : List C} (h : datum L = datum M) : L = M := by
  unfold datum at h
  have h' := DataW.map.inj h
  clear h
  induction L generalizing M with
  | nil => cases M with
    | nil => rfl
    | cons _ _ => simp at h'
  | cons a L ih => cases M with
    | nil => simp at h'
    | cons b M =>
      simp only [List.map_cons, List.cons.injEq, Prod.mk.injEq] at h'
      obtain ⟨⟨h1, h2⟩, h3⟩ := h'
      rw [ih h3]
      congr 1
      obtain ⟨k, v, n⟩ := a
      obtain ⟨k', v', n'⟩ := b
      simp [elemD] at h1 h2 ⊢
      exact ⟨h1, h2.1, h2.2⟩
theorem key_in {L : List C} {x : List UInt8} {y : DD} (h : ∀ zd, (datum L).atKey (.string x) zd = y) : ∃ c ∈ L, c.key = x := by
  have := Maps.has_true_of_atKey h
  rw [has_str] at this
  obtain ⟨c, hc⟩ := Option.isSome_iff_exists.1 this
  exact ⟨c, List.mem_of_find?_eq_some hc, by simpa using List.find?_some hc⟩
theorem map_len {w : World} {m : Nat} {L : List C} (h : MapAt w m L) (ty : TypeId) : (Builtin.len_ #[TM] ty #[.map (some m)]).run Try.prog w = .ok (.int .i64 L.length) w := by
  rw [h.owns.len (t := TM) (e := TE) Try.underlying76 ty, size_datum]

/-! ### at the operation, for the walk -/
section
variable {ops : Array Oper} {rest : List Oper} {o : Oper} {a : Act} {w : World} {Q : Exit → Act → World → Prop} {m : Nat} {L : List C}
theorem wpList_delete_map (hg : o.guard = none) (x y : Operand) (hop : o.op = Op.call { callee := Callee.builtin Builtin.delete, args := #[x, y], argTypes := #[TM, TK] }) (h : MapAt w m L) (hm : a.eval x = .map (some m)) (k : List UInt8) (hk : k.length ≤ 1000000) (hy : a.eval y = .string ⟨k.toArray⟩)
    (hK : ∀ w', MapAt w' m (without L k) → Turned [m] w w' → w'.heap.size = w.heap.size → wpList Try.prog ops Q rest (a.put o.dst (.tuple #[])) w') : wpList Try.prog ops Q (o :: rest) a w := by
  refine wpList_plain hg fun K' hK' => ?_
  obtain ⟨w', hrun, r1, r2, r3⟩ := map_delete h k hk o.type
  unfold Oper.wp
  simp [execOp, hop, resolve, invoke, builtin, hm, hy, hrun, Result.andThen]
  exact hK' _ _ (hK w' r1 r2 r3)
theorem wpList_update_map (hg : o.guard = none) (x y z : Operand) (hop : o.op = Op.mapUpdate TM x y z) (h : MapAt w m L) (hm : a.eval x = .map (some m)) (c : C) (hk : c.key.length ≤ 16) (hl : L.length < 1000000) (hy : a.eval y = .string ⟨c.key.toArray⟩) (hz : a.eval z = elemV c.val c.ver)
    (hK : ∀ w', MapAt w' m (withC L c) → Turned [m] w w' → w'.heap.size = w.heap.size → (datum L).put (.string c.key) (elemD c) = datum (withC L c) → wpList Try.prog ops Q rest (a.put o.dst undef) w') : wpList Try.prog ops Q (o :: rest) a w := by
  refine wpList_plain hg fun K' hK' => ?_
  obtain ⟨w', hrun, r1, r2, r3, r4⟩ := map_update h c hk hl
  unfold Oper.wp
  simp [execOp, hop, hm, hy, hz, hrun, Result.andThen]
  exact hK' _ _ (hK w' r1 r2 r3 r4)
end
end Go.Proofs.Ytbmepaglhkndpaa.Kv
