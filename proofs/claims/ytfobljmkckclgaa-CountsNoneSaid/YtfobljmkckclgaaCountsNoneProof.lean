/-
  Law CountsNone answers true for every act, and leaves it as it was: counters that are none count nothing. Conditions: none.
-/
import Derived.Test.YtfobljmkckclgaaRows
import Derived.WalkKit
import Derived.ProofKit
import Derived.OpenShut
import Derived.ShutString
import Derived.ChangeOld
import Derived.Below
import Derived.Test.YtfobljmkckclgaaTyped
import Derived.Test.YtfobljmkckclgaaCtC
import Derived.Test.YtfobljmkckclgaaBuild
open Go.Proofs.Ytfobljmkckclgaa.Mem Go.Proofs.Ytfobljmkckclgaa.Ct
namespace Go.Proofs.Ytfobljmkckclgaa.countsNone
open Go.ChangeShapes Go.WideShapes Go.ChangeAt Go.RowKit
open Go.ChangeMaps (open_string shut_string)
open Go.Proofs.Ytfobljmkckclgaa.Mem
set_option linter.unusedVariables false

theorem own : ownKnob Try.prog.godebug = none := by kernel_rfl
theorem laidOut : laidOutB Try.prog = true := by kernel_rfl

def ty0 : Ty := actTy
def wit0 : List Value := [.int .i64 0, .int .i64 0]
theorem act_cells {w : World} {x : Nat} {T : TypeId} {k n : Int} (h : Blk w x T (actC k n)) : w.cell? ⟨x, 0, none⟩ = some (.int .i64 k) ∧ w.cell? ⟨x, 1, none⟩ = some (.int .i64 n) := ⟨h.cell 0, h.cell 1⟩

theorem sh0 : tyOf Try.prog 20 35 = some ty0 := by kernel_rfl

/-! ### The walk: the law answers true, and writes nothing that was there. -/
set_option maxHeartbeats 2000000
theorem walk (w : World) (c0 : List Value) (f0 : Fits w ty0 c0) :
    Calls Try.prog 4 #[.agg c0.toArray] w fun e w' => e = .returned (.bool true) ∧ Below w.heap.size w w' := by
  obtain ⟨i, d, rfl, hi, hd⟩ := act_fits f0
  clear f0
  have hB := Below.refl w.heap.size w
  go_enter Try.func4, Try.ntmps4
  go_wp2_with ((with_reducible show wpList _ _ _ (⟨_, .box _ _, _, _, _, _⟩ :: _) _ _); refine wpList_box_blk rfl 35 _ rfl (actC i d) rfl ?_; intro W1 B1 K1 S1; clear S1)
  go_loopg [3, 4] 2 (fun g r t wr => ∃ k : Nat, g = 2 - k ∧ k ≤ 2 ∧ t = .int .i64 (k : Int) ∧ NoC wr r ∧ Blk wr w.heap.size 35 (actC i d) ∧ Below w.heap.size w wr)
  case atStart => exact ⟨0, rfl, by omega, rfl, .inl rfl, K1, B1⟩
  case round =>
    obtain ⟨k, hg, hk, rfl, hN, K, hBr⟩ := hrel
    clear hB K1 B1
    replace hg := Lib.hid hg
    obtain ⟨c0, c1⟩ := act_cells K
    by_cases hlt : k < 2
    · go_wp2_with (first
        | (go_at_call 10; refine (add_no _ _ hN _ _).mono ?_; rintro e w2 ⟨rfl, rfl⟩)
        | (go_at_call 13; refine (get_no _ _ hN _).mono ?_; rintro e w2 ⟨rfl, rfl⟩)
        | (go_at_call 14; refine (list_no _ _ hN).mono ?_; rintro e w2 ⟨rfl, rfl⟩)
        | (go_at_call 9; refine (copy_no _ _ hN).mono ?_; rintro e w2 ⟨rfl, rfl⟩)
        | ((with_reducible show wpList _ _ _ (⟨_, .box _ _, _, _, _, _⟩ :: _) _ _); refine wpList_box_blk rfl 44 _ rfl [.slice none 0 0] rfl ?_; intro W1 B1 K1 S1; clear S1))
      go_roundg (2 - (k + 1))
      case measure => have := hg.out; omega
      case rel => exact ⟨k + 1, rfl, by omega, by go_num, .inr ⟨_, rfl, none, 0, K1.cell 0⟩, K.below B1 K.lt, hBr.trans (B1.mono hBr.size)⟩
    · have hkk : k = 2 := by omega
      subst hkk
      go_wp2_with (go_at_call 6; refine (added_any _).mono ?_; rintro e w9 ⟨rfl, hn⟩)
      go_ret
      exact ⟨rfl, hBr.trans (hn.mono hBr.size)⟩

/-! ### The row. -/
set_option maxRecDepth 100000 in
theorem lifted (os : Os) (started : os.Started) (H : Type) (enc : TypeId × Value → H) :
    ReturnsInHanded {} Try.checked os 4 .any (Rows.countsNoneSpec.pre6 enc Try.prog Try.f4 Rows.countsNoneRow.domain false) (Rows.countsNoneSpec.post enc Try.prog Try.f4 false true false false) := by
  refine returnsInHanded_of_change (C := Try.checked) own started (by kernel_rfl) Try.func4
    (ChangeSpec.witness6 (enc := enc) (C := Try.checked) false ⟨#[], #[.agg wit0.toArray], []⟩ 8 (by kernel_rfl) (by kernel_rfl) (by kernel_rfl) (by kernel_rfl)) ?_
  intro W base args ds gs before hval0 hW hcnd _
  have hval : ∀ (j : Nat) t v, Try.f4.params[j]? = some t → args[j]? = some v → Value.okWide Try.prog W .any base t v := hval0
  have hW' := hW
  obtain ⟨p, q, hA0, hV, rfl, hfz, hnd⟩ := hW
  have hA : DataW.TrodAll enc Try.prog W 0 (fun _ => true) true Try.f4.params.toList args.toList ds p := hA0
  rw [Try.params4] at hA hval
  obtain ⟨v0, vs0, d0, ds0, p0, q0, hargs, rfl, rfl, h0, r0⟩ := trodAll_cons hA
  obtain ⟨rfl, rfl, rfl⟩ := trodAll_nil r0
  obtain rfl : args = #[v0] := by cases args; simp_all
  obtain ⟨rfl, rfl⟩ := trodVars_none hV
  have k0 := h0
  have lt0 : ∀ x ∈ p0, x.block < W.heap.size := by obtain ⟨m, hm⟩ := k0; exact DataW.trod_lt m _ _ _ hm
  have f0 := fits_of_Trod sh0 h0; obtain ⟨⟨c0⟩, rfl, _⟩ := okWide_struct Try.underlying35 (hval 0 35 v0 rfl rfl)
  clear hA0 hval0
  refine (walk W c0 f0).mono fun e W' ⟨he, bel⟩ => ?_
  subst he
  exact ⟨_, rfl, _, _, _, [], _, [], hW', trodAll_mk1 (shut_bool Try.underlying4 _), (trodAll_cons_mk (Below.trod laidOut (by kernel_rfl) (of_decide_eq_true (by kernel_rfl)) k0 bel lt0) trodAll_mk0), rfl, bel.frame _, fun h => by cases h⟩

theorem over : Rows.countsNoneRow.holds Try.pinned (OpenSpec.ofChange Rows.countsNoneSpec) :=
  OpenClaim.holds_of_wide 4 Try.f4 rfl rfl rfl rfl rfl rfl rfl ⟨rfl, rfl, rfl, rfl, rfl⟩ rfl rfl rfl rfl rfl (by kernel_rfl) Try.func4 (by kernel_rfl)
    (of_decide_eq_true (by kernel_rfl)) (by unfold Func.isWrapper; first | (rw [if_pos (by decide +kernel)]; kernel_rfl) | (rw [if_neg (by decide +kernel)]; exact ⟨rfl, rfl⟩))
    (fun os started H enc _ => lifted os started H enc)

/-- THE STATEMENT. -/
theorem proved : Rows.CountsNoneSaid := over
#print axioms proved
end Go.Proofs.Ytfobljmkckclgaa.countsNone
