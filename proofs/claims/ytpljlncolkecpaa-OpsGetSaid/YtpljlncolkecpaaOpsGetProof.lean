/-
  Law OpsGet answers true for every text, and leaves it as it was: the operation of any bytes is the document's, or there is none. Conditions: none.
-/
import Derived.Test.YtpljlncolkecpaaRows
import Derived.WalkKit
import Derived.ProofKit
import Derived.OpenShut
import Derived.ShutString
import Derived.ChangeOld
import Derived.Below
import Derived.Test.YtpljlncolkecpaaOpsB
open Go.Proofs.Ytpljlncolkecpaa.Mem Go.Proofs.Ytpljlncolkecpaa.Ops
namespace Go.Proofs.Ytpljlncolkecpaa.opsGet
open Go.ChangeShapes Go.WideShapes Go.ChangeAt Go.RowKit
open Go.ChangeMaps (open_string shut_string)
set_option linter.unusedVariables false

theorem own : ownKnob Try.prog.godebug = none := by kernel_rfl
theorem laidOut : laidOutB Try.prog = true := by kernel_rfl

attribute [local go_sem ↓] execLoadO


/-! ### The walk: the law answers true, and writes nothing that was there. -/
set_option maxRecDepth 100000
set_option maxHeartbeats 4000000
theorem walk (w : World) (a0 : ByteArray) (w0 : a0.size ≤ maxLen) :
    Calls Try.prog 4 #[.string a0] w fun e w' => e = .returned (.bool true) ∧ Below w.heap.size w w' := by
  have hB := Below.refl w.heap.size w
  by_cases hs : 300 < (a0.size : Int)
  · go_enter Try.func4, Try.ntmps4
    go_wp2_with (go_at_call 8; refine (told_any _).mono ?_; rintro e w2 ⟨rfl, hn⟩; replace hB := bel hB hn; clear hn)
    go_ret
    exact ⟨rfl, hB⟩
  · have G := Lib.hid (fun w => get_any a0 w (by omega))
    have R := Lib.hid (fun w => rget_any a0 w (by omega))
    unfold GetP at G R
    generalize got a0.data.toList = o at *
    generalize gotE a0.data.toList = en at *
    have hq := eql_op o
    have hg := fun op x y => guard_op op x y o
    have hT : Turned [] w w := Turned.of_below hB
    clear hB
    go_enter Try.func4, Try.ntmps4
    go_wp2_with (first
      | (go_at_call 16; refine (G.out _).mono ?_; rintro e w1 ⟨rfl, hn⟩; replace hT := hT.trans (Turned.of_below hn) (by simp); have s1 := hn.size; clear hn)
      | ((with_reducible show wpList _ _ _ (⟨some 3, .alloc _, _, _, _, _⟩ :: _) _ _); refine wpList_alloc_blk rfl TO rfl _ zero_op ?_; intro W2 B2 K2 S2; clear S2; replace hT := hT.trans (Turned.of_below B2) (by simp); clear B2)
      | ((with_reducible show wpList _ _ _ (⟨none, .store TO (.tmp 3) _, _, _, _, _⟩ :: _) _ _); refine wpList_store_blk rfl TO _ _ rfl w1.heap.size TO zeroO.cells o.cells 4 rfl rfl K2 rfl (O.cellsN _) info_op ?_; intro W3 T3 K3 S3; clear S3; replace hT := hT.trans T3 (fun j h1 h2 => by simp at h2; omega); have l3 := K3.lt; replace K3 := Lib.hid K3; clear K2 T3)
      | (go_at_call 17; refine (R.out _).mono ?_; rintro e w4 ⟨rfl, hn⟩; replace hT := hT.trans (Turned.of_below hn) (by simp); replace K3 := Lib.hid (K3.out.below hn l3); have s4 := hn.size; clear hn)
      | ((with_reducible show wpList _ _ _ (⟨some 5, .alloc _, _, _, _, _⟩ :: _) _ _); refine wpList_alloc_blk rfl TO rfl _ zero_op ?_; intro W5 B5 K5 S5; clear S5; replace hT := hT.trans (Turned.of_below B5) (by simp); replace K3 := Lib.hid (K3.out.below B5 (by omega)); clear B5)
      | ((with_reducible show wpList _ _ _ (⟨none, .store TO (.tmp 5) _, _, _, _, _⟩ :: _) _ _); refine wpList_store_blk rfl TO _ _ rfl w4.heap.size TO zeroO.cells o.cells 4 rfl rfl K5 rfl (O.cellsN _) info_op ?_; intro W6 T6 K6 S6; clear S6; replace hT := hT.trans T6 (fun j h1 h2 => by simp at h2; omega); have r1 := ldO (T6.blk K3.out (by simp; omega)); have r2 := ldO K6; clear K5 K6 K3 T6)
      | (go_at_call 8; refine (told_any _).mono ?_; rintro e w7 ⟨rfl, hn⟩; replace hT := hT.trans (Turned.of_below hn) (by simp); clear hn))
    go_ret
    exact ⟨rfl, hT.below (Nat.le_refl _) (by simp)⟩

/-! ### The row. -/
set_option maxRecDepth 100000 in
theorem lifted (os : Os) (started : os.Started) (H : Type) (enc : TypeId × Value → H) :
    ReturnsInHanded {} Try.checked os 4 .any (Rows.opsGetSpec.pre6 enc Try.prog Try.f4 Rows.opsGetRow.domain false) (Rows.opsGetSpec.post enc Try.prog Try.f4 false true false false) := by
  refine returnsInHanded_of_change (C := Try.checked) own started (by kernel_rfl) Try.func4
    (ChangeSpec.witness6 (enc := enc) (C := Try.checked) false ⟨#[], #[.string ByteArray.empty], []⟩ 8 (by kernel_rfl) (by kernel_rfl) (by kernel_rfl) (by kernel_rfl)) ?_
  intro W base args ds gs before hval0 hW hcnd _
  have hval : ∀ (j : Nat) t v, Try.f4.params[j]? = some t → args[j]? = some v → Value.okWide Try.prog W .any base t v := hval0
  have hW' := hW
  obtain ⟨p, q, hA0, hV, rfl, hfz, hnd⟩ := hW
  have hA : DataW.TrodAll enc Try.prog W 0 (fun _ => true) true Try.f4.params.toList args.toList ds p := hA0
  rw [Try.params4] at hA hval
  obtain ⟨v0, vs0, d0, ds0, p0, q0, hargs, rfl, rfl, h0, r0⟩ := trodAll_cons hA
  obtain ⟨rfl, rfl, rfl⟩ := trodAll_nil r0
  obtain rfl : args = #[v0] := by cases args; simp_all
  obtain ⟨rfl, rfl⟩ := trodVars_none hV
  have k0 := h0
  have lt0 : ∀ x ∈ p0, x.block < W.heap.size := by obtain ⟨m, hm⟩ := k0; exact DataW.trod_lt m _ _ _ hm
  obtain ⟨a0, rfl, rfl, rfl, w0⟩ := open_string Try.underlying9 (hval 0 9 v0 rfl rfl) h0
  clear hA0 hval0
  refine (walk W a0 w0).mono fun e W' ⟨he, bel⟩ => ?_
  subst he
  exact ⟨_, rfl, _, _, _, [], _, [], hW', trodAll_mk1 (shut_bool Try.underlying4 _), (trodAll_cons_mk (Below.trod laidOut (by kernel_rfl) (of_decide_eq_true (by kernel_rfl)) k0 bel lt0) trodAll_mk0), rfl, bel.frame _, fun h => by cases h⟩

theorem over : Rows.opsGetRow.holds Try.pinned (OpenSpec.ofChange Rows.opsGetSpec) :=
  OpenClaim.holds_of_wide 4 Try.f4 rfl rfl rfl rfl rfl rfl rfl ⟨rfl, rfl, rfl, rfl, rfl⟩ rfl rfl rfl rfl rfl (by kernel_rfl) Try.func4 (by kernel_rfl)
    (of_decide_eq_true (by kernel_rfl)) (by unfold Func.isWrapper; first | (rw [if_pos (by decide +kernel)]; kernel_rfl) | (rw [if_neg (by decide +kernel)]; exact ⟨rfl, rfl⟩))
    (fun os started H enc _ => lifted os started H enc)

/-- THE STATEMENT. -/
theorem proved : Rows.OpsGetSaid := over
#print axioms proved
end Go.Proofs.Ytpljlncolkecpaa.opsGet
