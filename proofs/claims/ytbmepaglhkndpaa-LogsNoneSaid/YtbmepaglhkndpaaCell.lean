/-
  A store of one cell into a block that is known whole: the world behind it is a letter. No program's text is named here. Conditions: those that each lemma names.
-/
import Derived.Test.YtbmepaglhkndpaaQuiet
namespace Go.Proofs.Ytbmepaglhkndpaa.Mem
open Go.RowKit

theorem run_storeAt_cell {P : Program} (w : World) (b o : Nat) (ty : TypeId) (v : Value) (hv : v.oneCell' = true) (ht : w.there b o 1) (hi : (P.info? ty).map (·.size) = some 1) :
    (Instr.storeAt ty (.pointer (some ⟨b, o, none⟩)) v).run P w = .ok () (w.setCells b o [v]) := by
  have hc : v.cells = #[v] := by cases v <;> first | rfl | cases hv
  have e := run_storeAt_mid (P := P) w b o ty #[v] (by simpa using ht) (by simpa using hi) (by simp [hv])
  simp only [Instr.storeAt, Instr.sureAddr, Sem.run_bind, Sem.run_pure, Result.andThen_ok] at e ⊢
  rw [← e]
  simp only [storeVar, hc]
  rfl
theorem wpList_store_cell {P : Program} {ops : Array Oper} {rest : List Oper} {op : Oper} {a : Act} {w : World} {Q : Exit → Act → World → Prop} (hgd : op.guard = none) (ty : TypeId) (x y : Operand) (ho : op.op = .store ty x y)
    (b o : Nat) (v : Value) (T : TypeId) (cs : List Value) (hx : a.eval x = .pointer (some ⟨b, o, none⟩)) (hy : a.eval y = v) (hb : Blk w b T cs) (hoc : o < cs.length) (hv : v.oneCell' = true) (hi : (P.info? ty).map (·.size) = some 1)
    (h : ∀ W, Turned [b] w W → Blk W b T (cs.set o v) → W.heap.size = w.heap.size → wpList P ops Q rest (a.put op.dst undef) W) : wpList P ops Q (op :: rest) a w := by
  refine wpList_plain hgd fun K hK => ?_
  have hr := run_storeAt_cell (P := P) w b o ty v hv (hb.there o 1 (by omega)) hi
  unfold Oper.wp execOp
  simp only [ho, hx, hy, Sem.run_bind, Sem.run_pure, Result.andThen_ok, hr]
  refine hK _ _ (h _ ?_ ?_ ?_)
  · exact (⟨rfl, rfl, rfl, Nat.le_refl _, fun _ _ _ => rfl⟩ : Turned [b] w w).setCells (.inl (by simp)) o _
  · have := hb.sets [v] o (by simp; omega)
    rwa [show splice cs o [v] = cs.set o v by
      unfold splice
      rw [List.set_eq_take_append_cons_drop, if_pos hoc]
      simp] at this
  · exact size_setCells _ _ _ _
theorem Kept.cell {w0 W : World} {L} (h : Kept w0 L W) {b : Nat} {T : TypeId} {cs : List Value} (hx : (b, T, cs) ∈ L) (i : Nat) {v : Value} (hv : cs[i]? = some v) : W.cell? ⟨b, i, none⟩ = some v := ((h.blk hx).cell i).trans hv
theorem Kept.swap {w0 W W' : World} {L} {b : Nat} {T : TypeId} {cs cs' : List Value} (h : Kept w0 ((b, T, cs) :: L) W) (ht : Turned [b] W W') (hb : w0.heap.size ≤ b) (hL : ∀ x ∈ L, x.1 ≠ b) (hc : Blk W' b T cs') : Kept w0 ((b, T, cs') :: L) W' :=
  ((h.less (fun _ hx => List.mem_cons_of_mem _ hx)).turned ht hb hL).add hc
end Go.Proofs.Ytbmepaglhkndpaa.Mem
