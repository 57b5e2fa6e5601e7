/-
  Law NumsCeil answers true for every two numbers of 32 bits from 0 on, and every one of 32 bits with a sign, and leaves its arguments as they were. Conditions: none but the types.
-/
import Derived.Test.YtkbnhkopjiocdaaRows
import Derived.WalkKit
import Derived.ProofKit
import Derived.OpenShut
import Derived.Test.YtkbnhkopjiocdaaNums
open Go.Proofs.Ytkbnhkopjiocdaa.Nums
namespace Go.Proofs.Ytkbnhkopjiocdaa.numsCeil
open Go.ChangeShapes Go.WideShapes Go.ChangeAt Go.RowKit
set_option linter.unusedVariables false      -- a walk need not use every 'w<i>' (that an integer argument fits its kind)

theorem own : ownKnob Try.prog.godebug = none := by kernel_rfl

theorem ceil_facts (x y : Int) (hx : 0 ≤ x) (hy : 1 ≤ y) : 0 ≤ ceil x y ∧ x ≤ ceil x y * y ∧ ceil x y * y ≤ x + y ∧ (ceil x y - 1) * y < x ∧ -y ≤ (ceil x y - 1) * y ∧ ceil x y ≤ x := by
  have e := Int.mul_ediv_add_emod x y
  have q0 : 0 ≤ x / y := Int.ediv_nonneg (by omega) (by omega)
  have r0 : 0 ≤ x % y := Int.emod_nonneg _ (by omega)
  have r1 : x % y < y := Int.emod_lt_of_pos _ (by omega)
  have m1 : (x / y) * 1 ≤ (x / y) * y := Int.mul_le_mul_of_nonneg_left (by omega) q0
  rw [Int.mul_comm y (x / y)] at e
  unfold ceil
  rw [if_neg (by omega)]
  split <;> simp only [Int.add_mul, Int.sub_mul, Int.one_mul, Int.zero_mul] <;> omega

theorem ring_facts (n y : Int) (hy : 1 ≤ y) : 0 ≤ ring n y ∧ ring n y < y ∧ (n - ring n y).tmod y = 0 ∧ ring (n + y) y = ring n y := by
  have r0 : 0 ≤ n % y := Int.emod_nonneg _ (by omega)
  have r1 : n % y < y := Int.emod_lt_of_pos _ (by omega)
  unfold ring
  rw [if_neg (by omega), if_neg (by omega)]
  refine ⟨r0, r1, ?_, Int.add_emod_right _ _⟩
  exact Int.tmod_eq_zero_of_dvd (Int.dvd_self_sub_emod)

/-! ### STEP 1: THE WALK: the Go text returns true. 'Grown w w'': the world has at most new blocks (Derived/RowKit3.lean). Part the cases AHEAD of 'go_enter' where a test parts the walk; take each callee by a contract of your own. -/
theorem walk (a0 : Int) (a1 : Int) (a2 : Int) (w0 : (Lit.int .u32 a0).wf = true) (w1 : (Lit.int .u32 a1).wf = true) (w2 : (Lit.int .i32 a2).wf = true) (w : World) :
    Calls Try.prog 5 #[.int .u32 a0, .int .u32 a1, .int .i32 a2] w fun e w' => e = .returned (.bool true) ∧ Grown w w' := by
  have b0 := bounds_u32 w0
  have b1 := bounds_u32 w1
  have b2 := bounds_i32 w2
  have c := ceil_facts a0 (1 + a1 / 2) (by omega) (by omega)
  have r := ring_facts a2 (1 + a1 / 2) (by omega)
  obtain ⟨c1, c2, c3, c4, c5, c6⟩ := c
  obtain ⟨r1, r2, r3, r4⟩ := r
  go_enter Try.func5, Try.ntmps5
  go_wp2_with (first | (go_at_call 14; refine (ceil_any _ _ _ (by omega) (by omega)).mono ?_; rintro e w' ⟨rfl, rfl⟩) | (go_at_call 16; refine (ring_any _ _ _ (by omega)).mono ?_; rintro e w' ⟨rfl, rfl⟩) | (go_at_call 18; refine (counted_any _).mono ?_; rintro e w' ⟨rfl, rfl⟩))
  all_goals
    go_ret
    exact ⟨ret_bool (by first | rfl | (simp; omega)), Grown.refl _⟩

/-! ### THE ROW's STEP: WRITTEN OUT: LEAVE IT -/
set_option maxRecDepth 100000 in
theorem lifted (os : Os) (started : os.Started) (H : Type) (enc : TypeId × Value → H) :
    ReturnsInHanded {} Try.checked os 5 .any (Rows.numsCeilSpec.pre6 enc Try.prog Try.f5 Rows.numsCeilRow.domain false) (Rows.numsCeilSpec.post enc Try.prog Try.f5 false true false false) := by
  refine returnsInHanded_of_change (C := Try.checked) own started (by kernel_rfl) Try.func5
    (ChangeSpec.witness6 (enc := enc) (C := Try.checked) false ⟨#[], #[.int .u32 0, .int .u32 0, .int .i32 0], []⟩ 8 (by kernel_rfl) (by kernel_rfl) (by kernel_rfl) (by kernel_rfl)) ?_
  intro W base args ds gs before hval0 hW hcnd _
  have hval : ∀ (j : Nat) t v, Try.f5.params[j]? = some t → args[j]? = some v → Value.okWide Try.prog W .any base t v := hval0
  have hW' := hW
  obtain ⟨p, q, hA0, hV, rfl, hfz, hnd⟩ := hW
  have hA : DataW.TrodAll enc Try.prog W 0 (fun _ => true) true Try.f5.params.toList args.toList ds p := hA0
  rw [Try.params5] at hA hval
  obtain ⟨v0, vs0, d0, ds0, p0, q0, hargs, rfl, rfl, h0, r0⟩ := trodAll_cons hA
  obtain ⟨v1, vs1, d1, ds1, p1, q1, rfl, rfl, rfl, h1, r1⟩ := trodAll_cons r0
  obtain ⟨v2, vs2, d2, ds2, p2, q2, rfl, rfl, rfl, h2, r2⟩ := trodAll_cons r1
  obtain ⟨rfl, rfl, rfl⟩ := trodAll_nil r2
  obtain rfl : args = #[v0, v1, v2] := by cases args; simp_all
  obtain ⟨rfl, rfl⟩ := trodVars_none hV
  obtain ⟨a0, rfl, rfl, rfl, w0⟩ := open_int Try.underlying27 (hval 0 27 v0 rfl rfl) h0
  obtain ⟨a1, rfl, rfl, rfl, w1⟩ := open_int Try.underlying27 (hval 1 27 v1 rfl rfl) h1
  obtain ⟨a2, rfl, rfl, rfl, w2⟩ := open_int Try.underlying21 (hval 2 21 v2 rfl rfl) h2
  clear hA0 hval0
  simp only [List.append_nil] at hW'
  refine (walk a0 a1 a2 w0 w1 w2 W).mono fun e W' ⟨he, hg⟩ => ?_
  subst he
  exact ⟨_, rfl, post_of_same (pa := []) (pv := []) hW' (fun _ _ _ => (trodAll_cons_mk (shut_bool Try.underlying4 _) trodAll_mk0)) (fun sp _ => (trodAll_cons_mk (shut_int Try.underlying27 w0) (trodAll_cons_mk (shut_int Try.underlying27 w1) (trodAll_cons_mk (shut_int Try.underlying21 w2) trodAll_mk0)))) (fun _ _ => rfl) rfl
    (hg.frame _) hg.2.1 (ok_one (by kernel_rfl) rfl (okWide_bool_mk Try.underlying4 _))⟩

theorem over : Rows.numsCeilRow.holds Try.pinned (OpenSpec.ofChange Rows.numsCeilSpec) :=
  OpenClaim.holds_of_wide 5 Try.f5 rfl rfl rfl rfl rfl rfl rfl ⟨rfl, rfl, rfl, rfl, rfl⟩ rfl rfl rfl rfl rfl (by kernel_rfl) Try.func5 (by kernel_rfl)
    (of_decide_eq_true (by kernel_rfl)) (by unfold Func.isWrapper; first | (rw [if_pos (by decide +kernel)]; kernel_rfl) | (rw [if_neg (by decide +kernel)]; exact ⟨rfl, rfl⟩))
    (fun os started H enc _ => lifted os started H enc)

/-- ████ THE STATEMENT ████ -/
theorem proved : Rows.NumsCeilSaid :=
  over
#print axioms proved
end Go.Proofs.Ytkbnhkopjiocdaa.numsCeil
