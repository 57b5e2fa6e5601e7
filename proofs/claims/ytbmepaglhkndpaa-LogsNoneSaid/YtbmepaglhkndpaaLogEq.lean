/-
  Entries compared, and rows of them (slices.Equal), by the shelf's contract. Conditions: those that each names.
-/
import Derived.Test.YtbmepaglhkndpaaLogR
import Derived.Test.YtbmepaglhkndpaaShelf
namespace Go.Proofs.Ytbmepaglhkndpaa.Logs
open Go.RowKit Go.Proofs.Ytbmepaglhkndpaa.Mem Go.Proofs.Ytbmepaglhkndpaa.Ops Go.Proofs.Ytbmepaglhkndpaa.Kv

/-- Are two entries the same? -/
def sameE (a b : E) : Bool := a.index == b.index && (a.client == b.client && (a.seq == b.seq && (a.op.kind == b.op.kind && (a.op.key == b.op.key && (a.op.val == b.op.val && a.op.ver == b.op.ver)))))
theorem sameE_iff {a b : E} : sameE a b = true ↔ a = b := by
  obtain ⟨i, c, s, k, y, v, n⟩ := a
  obtain ⟨i', c', s', k', y', v', n'⟩ := b
  simp [sameE]
set_option maxRecDepth 20000 in
theorem equal_ents (a b : E) (w : World) : (Op.equalIn 10000 TEn (.agg a.cells.toArray) (.agg b.cells.toArray)).run Try.prog w = .ok (sameE a b) w := by
  have hS : Try.prog.underlying TEn = some (.struct (Try.prog.fieldsOf TEn)) := by kernel_rfl
  have hp : Try.prog.stoodInHeld TEn = false := by kernel_rfl
  rw [show (10000 : Nat) = 9999 + 1 from rfl, run_equalIn_agg w 9999 TEn _ _ hS hp]
  clear hS hp
  have u3 := Try.underlying3
  have u9 := Try.underlying9
  have u32 := Try.underlying32
  simp only [Program.fieldsOf, Try.underlying34]
  simp [Op.eqFields, go_sem, u3, u9, u32, E.cells, O.cells, sameE]
  repeat' split
  all_goals simp_all
theorem eql_ents (a b : E) (w : World) : (binOp .eql TEn (.agg a.cells.toArray) (.agg b.cells.toArray)).run Try.prog w = .ok (.bool (sameE a b)) w := by rw [run_eql_struct, equal_ents]; rfl
theorem guard_ents (op : BinOp) (x y : Operand) (a b : E) (w : World) : (eqGuard op TEn x y (.agg a.cells.toArray) (.agg b.cells.toArray)).run Try.prog w = .ok () w := run_eqGuard_agg w op TEn x y _ _ (by kernel_rfl)

theorem neq_ents (a b : E) (w : World) : (binOp .neq TEn (.agg a.cells.toArray) (.agg b.cells.toArray)).run Try.prog w = .ok (.bool (!sameE a b)) w := by rw [run_neq_struct, equal_ents]; rfl
theorem neqAt_ents : NeqAt Try.prog TEn (fun x : E => .agg x.cells.toArray) sameE := ⟨neq_ents, fun op x y a b w => guard_ents op x y a b w⟩
instance : Inhabited E := ⟨zeroE⟩
theorem allEq_ents : ∀ A B : List E, Lib.allEq sameE A B = true ↔ A = B
  | [], [] => by simp [Lib.allEq]
  | [], _ :: _ => by simp [Lib.allEq]
  | _ :: _, [] => by simp [Lib.allEq]
  | a :: A, b :: B => by simp [Lib.allEq, allEq_ents A B, sameE_iff]
set_option maxRecDepth 100000
theorem eq_empty (w : World) (ao1 ao2 : Option Addr) (c1 c2 : Nat) : Calls Try.prog 35 #[.slice ao1 0 c1, .slice ao2 0 c2] w fun e w' => e = .returned (.bool true) ∧ ∃ q, w' = w.drewN q := by
  go_enter Try.func35, Try.ntmps35
  go_wp2_with fail
  go_loopg [13] 1 (fun g i wr => i = .int .i64 0 ∧ wr = w ∧ g = 1)
  case atStart => exact ⟨rfl, rfl, rfl⟩
  case round =>
    obtain ⟨rfl, rfl, hg⟩ := hrel
    go_wp2_with fail
    go_ret
    exact ⟨rfl, 0, rfl⟩
/-- A row's first n. -/
def cutV (v : Value) (n : Nat) : Value := match v with
  | .slice ao _ cap => .slice ao n cap
  | u => u
theorem row_cells {w : World} {g : Nat} {L : List E} (h : w.rangeAt g 0 (kE.row L)) : ∀ j, j < L.length → ∀ i v, (E.cells L[j]!)[i]? = some v → w.cell? ⟨g, 0 + j * 7 + i, none⟩ = some v := fun j hj i v hi => by
  have hlt : i < 7 := by have := (List.getElem?_eq_some_iff.1 hi).1; simpa [E.cells, O.cells] using this
  have he : L[j]? = some L[j]! := by rw [List.getElem!_eq_getElem?_getD, List.getElem?_eq_getElem hj]; rfl
  have := h (j * 7 + i) v (by rw [show j * 7 + i = j * kE.sz + i from rfl, kE.row_get L j _ he i hlt]; exact hi)
  rw [← this]
  congr 2
  omega
theorem eqls_any (w : World) (v1 v2 : Value) (A M : List E) (h1 : kE.Own w 0 v1 A) (h2 : kE.Own w 0 v2 M) (hn : A.length ≤ M.length) (hM : M.length ≤ 4096) : Calls Try.prog 35 #[v1, cutV v2 A.length] w fun e w' => e = .returned (.bool (Lib.allEq sameE A (M.take A.length))) ∧ ∃ q, w' = w.drewN q := by
  obtain ⟨ao1, c1, rfl, _, _, n1, a1⟩ := h1.form
  obtain ⟨ao2, c2, rfl, _, _, n2, a2⟩ := h2.form
  cases ao1 with
  | none =>
    obtain ⟨rfl, rfl⟩ := n1 rfl
    exact eq_empty w none ao2 0 c2
  | some x1 =>
    cases ao2 with
    | none =>
      obtain ⟨rfl, rfl⟩ := n2 rfl
      have : A = [] := List.length_eq_zero_iff.1 (by simpa using hn)
      subst this
      exact eq_empty w (some x1) none c1 0
    | some x2 =>
      obtain ⟨g1, rfl, _, _, r1⟩ := a1 _ rfl
      obtain ⟨g2, rfl, _, _, r2⟩ := a2 _ rfl
      have := AnyQ.slices_Equal Try.equalN35 7 Try.isAgg34 Try.sizeOf34 E.cells (fun _ => rfl) sameE neqAt_ents g1 0 A.length c1 g2 0 A.length c2 A M w (Nat.le_refl _) hn (by omega) (by omega) (row_cells r1) (row_cells r2)
      rw [List.take_length] at this
      exact this
end Go.Proofs.Ytbmepaglhkndpaa.Logs
