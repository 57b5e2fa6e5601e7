/-
  Law BackoffSums answers true for every two numbers: more tries never have a lesser gap, none is above most, the sum of one more is the sum and that one's gap, and behind two tries of which each waits less than most the second one waits twice as long. Conditions: none.
-/
import Derived.Test.YtpjmecnipecaeaaRows
import Derived.WalkKit
import Derived.ProofKit
import Derived.OpenShut
import Derived.ShutString
import Derived.ChangeOld
import Derived.Below
import Derived.Test.YtpjmecnipecaeaaBoB
open Go.Proofs.Ytpjmecnipecaeaa.Bo
namespace Go.Proofs.Ytpjmecnipecaeaa.backoffSums
open Go.ChangeShapes Go.WideShapes Go.ChangeAt Go.RowKit
open Go.ChangeMaps (open_string shut_string)
set_option linter.unusedVariables false

theorem own : ownKnob Try.prog.godebug = none := by kernel_rfl
theorem laidOut : laidOutB Try.prog = true := by kernel_rfl




/-! ### The walk: the law answers true, and writes nothing that was there. -/
set_option maxHeartbeats 2000000
theorem walk (w : World) (a0 : Int) (a1 : Int) (w0 : (Lit.int .u16 a0).wf = true) (w1 : (Lit.int .u8 a1).wf = true) :
    Calls Try.prog 4 #[.int .u16 a0, .int .u8 a1] w fun e w' => e = .returned (.bool true) ∧ Below w.heap.size w w' := by
  obtain ⟨m0, m1⟩ := bounds_u16 w0
  obtain ⟨m2, m3⟩ := bounds_u8 w1
  have f1 := gap_mono (1 + a0) a1
  have f2 := gap_most (1 + a0 + 1) m2
  have f3 := gap_le (1 + a0 + 1) a1
  have f4 := sum_next (k := 1 + a0) a1 (by omega) (by omega)
  have f5 := sum_gap (k := 1 + a0) a1 (by omega) (by omega)
  have f6 := gap_twice (k := 1 + a0) (m := a1) (by omega)
  have f7 := gap_zero (k := 1 + a0) (m := a1) (by omega) m2
  have f8 := gap_ge (1 + a0) a1
  have f9 := sum_le (1 + a0) a1 (by omega)
  have G := fun w => gap_any w (1 + a0) a1
  have G1 := fun w => gap_any w (1 + a0 + 1) a1
  have S := fun w => sum_any w (1 + a0) a1
  have S1 := fun w => sum_any w (1 + a0 + 1) a1
  rw [f4] at S1
  clear f4
  generalize gap (1 + a0) a1 = A at *
  generalize gap (1 + a0 + 1) a1 = B at *
  generalize sum (1 + a0) a1 = C at *
  have t1 : decide (B < A) = false := decide_eq_false (by omega)
  have t2 : decide (a1 < B) = false := decide_eq_false (by omega)
  have t3 : decide (64 < B) = false := decide_eq_false (by omega)
  have t4 : (C + B != C + B) = false := by simp
  have t5 : decide (C < A) = false := decide_eq_false (by omega)
  have t6 : (a1 == 0) = (A == 0) := by rw [Bool.eq_iff_iff, beq_iff_eq, beq_iff_eq]; exact f7.symm
  replace G := Lib.hid G
  replace G1 := Lib.hid G1
  replace S := Lib.hid S
  replace S1 := Lib.hid S1
  replace f7 := Lib.hid f7
  by_cases h : B < min a1 64
  · have t7 := f6 h
    have t8 : (B == 2 * A) = true := by simpa using t7
    replace t7 := Lib.hid t7
    clear f6
    go_enter Try.func4, Try.ntmps4
    go_wp2_with fail
    refine (G.out _).mono ?_
    rintro e w2 ⟨rfl, rfl⟩
    go_wp2_with fail
    refine (G1.out _).mono ?_
    rintro e w3 ⟨rfl, rfl⟩
    go_wp2_with fail
    refine (S1.out _).mono ?_
    rintro e w4 ⟨rfl, rfl⟩
    go_wp2_with fail
    refine (S.out _).mono ?_
    rintro e w5 ⟨rfl, rfl⟩
    go_wp2_with fail
    refine (S.out _).mono ?_
    rintro e w6 ⟨rfl, rfl⟩
    go_wp2_with (go_at_call 9; refine (gaps_any _).mono ?_; rintro e w7 ⟨rfl, rfl⟩)
    all_goals first | (go_ret; exact ⟨rfl, Below.refl _ _⟩) | (exfalso; omega)
  · clear f6
    go_enter Try.func4, Try.ntmps4
    go_wp2_with fail
    refine (G.out _).mono ?_
    rintro e w2 ⟨rfl, rfl⟩
    go_wp2_with fail
    refine (G1.out _).mono ?_
    rintro e w3 ⟨rfl, rfl⟩
    go_wp2_with fail
    refine (S1.out _).mono ?_
    rintro e w4 ⟨rfl, rfl⟩
    go_wp2_with fail
    refine (S.out _).mono ?_
    rintro e w5 ⟨rfl, rfl⟩
    go_wp2_with fail
    refine (S.out _).mono ?_
    rintro e w6 ⟨rfl, rfl⟩
    go_wp2_with (go_at_call 9; refine (gaps_any _).mono ?_; rintro e w7 ⟨rfl, rfl⟩)
    all_goals first | (go_ret; exact ⟨rfl, Below.refl _ _⟩) | (exfalso; omega)

/-! ### The row. -/
set_option maxRecDepth 100000 in
theorem lifted (os : Os) (started : os.Started) (H : Type) (enc : TypeId × Value → H) :
    ReturnsInHanded {} Try.checked os 4 .any (Rows.backoffSumsSpec.pre6 enc Try.prog Try.f4 Rows.backoffSumsRow.domain false) (Rows.backoffSumsSpec.post enc Try.prog Try.f4 false true false false) := by
  refine returnsInHanded_of_change (C := Try.checked) own started (by kernel_rfl) Try.func4
    (ChangeSpec.witness6 (enc := enc) (C := Try.checked) false ⟨#[], #[.int .u16 0, .int .u8 0], []⟩ 8 (by kernel_rfl) (by kernel_rfl) (by kernel_rfl) (by kernel_rfl)) ?_
  intro W base args ds gs before hval0 hW hcnd _
  have hval : ∀ (j : Nat) t v, Try.f4.params[j]? = some t → args[j]? = some v → Value.okWide Try.prog W .any base t v := hval0
  have hW' := hW
  obtain ⟨p, q, hA0, hV, rfl, hfz, hnd⟩ := hW
  have hA : DataW.TrodAll enc Try.prog W 0 (fun _ => true) true Try.f4.params.toList args.toList ds p := hA0
  rw [Try.params4] at hA hval
  obtain ⟨v0, vs0, d0, ds0, p0, q0, hargs, rfl, rfl, h0, r0⟩ := trodAll_cons hA
  obtain ⟨v1, vs1, d1, ds1, p1, q1, rfl, rfl, rfl, h1, r1⟩ := trodAll_cons r0
  obtain ⟨rfl, rfl, rfl⟩ := trodAll_nil r1
  obtain rfl : args = #[v0, v1] := by cases args; simp_all
  obtain ⟨rfl, rfl⟩ := trodVars_none hV
  have k0 := h0
  have lt0 : ∀ x ∈ p0, x.block < W.heap.size := by obtain ⟨m, hm⟩ := k0; exact DataW.trod_lt m _ _ _ hm
  obtain ⟨a0, rfl, rfl, rfl, w0⟩ := open_int Try.underlying25 (hval 0 25 v0 rfl rfl) h0
  have k1 := h1
  have lt1 : ∀ x ∈ p1, x.block < W.heap.size := by obtain ⟨m, hm⟩ := k1; exact DataW.trod_lt m _ _ _ hm
  obtain ⟨a1, rfl, rfl, rfl, w1⟩ := open_int Try.underlying5 (hval 1 5 v1 rfl rfl) h1
  clear hA0 hval0
  refine (walk W a0 a1 w0 w1).mono fun e W' ⟨he, bel⟩ => ?_
  subst he
  exact ⟨_, rfl, _, _, _, [], _, [], hW', trodAll_mk1 (shut_bool Try.underlying4 _), (trodAll_cons_mk (Below.trod laidOut (by kernel_rfl) (of_decide_eq_true (by kernel_rfl)) k0 bel lt0) (trodAll_cons_mk (Below.trod laidOut (by kernel_rfl) (of_decide_eq_true (by kernel_rfl)) k1 bel lt1) trodAll_mk0)), rfl, bel.frame _, fun h => by cases h⟩

theorem over : Rows.backoffSumsRow.holds Try.pinned (OpenSpec.ofChange Rows.backoffSumsSpec) :=
  OpenClaim.holds_of_wide 4 Try.f4 rfl rfl rfl rfl rfl rfl rfl ⟨rfl, rfl, rfl, rfl, rfl⟩ rfl rfl rfl rfl rfl (by kernel_rfl) Try.func4 (by kernel_rfl)
    (of_decide_eq_true (by kernel_rfl)) (by unfold Func.isWrapper; first | (rw [if_pos (by decide +kernel)]; kernel_rfl) | (rw [if_neg (by decide +kernel)]; exact ⟨rfl, rfl⟩))
    (fun os started H enc _ => lifted os started H enc)

/-- THE STATEMENT. -/
theorem proved : Rows.BackoffSumsSaid := over
#print axioms proved
end Go.Proofs.Ytpjmecnipecaeaa.backoffSums
