/-
  Law CodecBack answers true for every number, every one of 16 bits, and every text, and leaves them as they were: what is put stands ahead of whatever is behind it, and is told so; of what is cut off nothing is told. Conditions: none.
-/
import Derived.Test.YtacbccijfnmmpaaRows
import Derived.WalkKit
import Derived.ProofKit
import Derived.OpenShut
import Derived.ShutString
import Derived.ChangeOld
import Derived.Below
import Derived.Test.YtacbccijfnmmpaaCodecL
import Derived.Test.YtacbccijfnmmpaaCodecT
open Go.Proofs.Ytacbccijfnmmpaa.Mem Go.Proofs.Ytacbccijfnmmpaa.Codec
namespace Go.Proofs.Ytacbccijfnmmpaa.codecBack
open Go.ChangeShapes Go.WideShapes Go.ChangeAt Go.RowKit
open Go.ChangeMaps (open_string shut_string)
set_option linter.unusedVariables false

theorem own : ownKnob Try.prog.godebug = none := by kernel_rfl
theorem laidOut : laidOutB Try.prog = true := by kernel_rfl



/-! ### The walk: the law answers true, and writes nothing that was there. -/
set_option maxRecDepth 100000
set_option maxHeartbeats 4000000
theorem walk (a0 : Int) (a1 : Int) (a2 : ByteArray) (w0 : (Lit.int .u64 a0).wf = true) (w1 : (Lit.int .u16 a1).wf = true) (w2 : a2.size ≤ maxLen) (w : World) :
    Calls Try.prog 5 #[.int .u64 a0, .int .u16 a1, .string a2] w fun e w' => e = .returned (.bool true) ∧ Below w.heap.size w w' := by
  have hB := Below.refl w.heap.size w
  by_cases hs : 500 < (a2.size : Int)
  · go_enter Try.func5, Try.ntmps5
    go_wp2_with (go_at_call 7; refine (coded_any _).mono ?_; rintro e w2 ⟨rfl, hn⟩; replace hB := bel hB hn; clear hn)
    go_ret
    exact ⟨rfl, hB⟩
  · obtain ⟨l, rfl⟩ : ∃ l : List UInt8, a2 = ⟨l.toArray⟩ := ⟨a2.data.toList, by simp⟩
    have hl : l.length ≤ 500 := by have := size_of (s := ⟨l.toArray⟩) (l := l) (by simp); omega
    have b0 := bounds_u64 w0
    have b1 := bounds_u16 w1
    obtain ⟨k, rfl⟩ := Int.eq_ofNat_of_zero_le b0.1
    have hk : k < 18446744073709551616 := by omega
    clear hs w0 w2 w1 b0
    have N1 := fun w => num_any (k : Int) w (by omega) (by omega)
    have I1 := fun w => int_any (a1 - 1) w (by omega) (by omega)
    have T1 := fun w => text_any l w (by omega)
    rw [Int.toNat_natCast] at N1
    have lA := numB_len k
    have lB : 1 ≤ (intB (a1 - 1)).length ∧ (intB (a1 - 1)).length ≤ 9 := by unfold intB; rw [if_neg (by omega)]; exact numB_len _
    have lC : l.length < (textB l).length ∧ (textB l).length ≤ l.length + 9 := by have := numB_len l.length; simp [textB]; omega
    have rA := fun r => read_put k hk r
    have rB := fun r => unint_put (a1 - 1) (by omega) (by omega) r
    have rC := fun r => cut_put l (by omega) r
    have cA := fun p q e hq => read_cut k hk p q e hq
    have cB := fun p q e hq => unint_cut (a1 - 1) (by omega) (by omega) p q e hq
    have cC := fun p q e hq => cut_cut l (by omega) p q e hq
    generalize numB k = A at *
    generalize intB (a1 - 1) = B at *
    generalize textB l = C at *
    have R1 := fun w => read_any (⟨A.toArray⟩ ++ ⟨B.toArray⟩ ++ ⟨C.toArray⟩ ++ ⟨l.toArray⟩) w (by simp [concat_of, ByteArray.size]; omega)
    have R2 := fun w => unint_any ⟨(B ++ (C ++ l)).toArray⟩ w (by simp [ByteArray.size]; omega)
    have R3 := fun w => cut_any ⟨(C ++ l).toArray⟩ w (by simp [ByteArray.size]; omega)
    rw [show ((⟨A.toArray⟩ : ByteArray) ++ ⟨B.toArray⟩ ++ ⟨C.toArray⟩ ++ ⟨l.toArray⟩).data.toList = A ++ (B ++ (C ++ l)) by simp [concat_of], rA] at R1
    rw [show (⟨(B ++ (C ++ l)).toArray⟩ : ByteArray).data.toList = B ++ (C ++ l) by simp, rB] at R2
    rw [show (⟨(C ++ l).toArray⟩ : ByteArray).data.toList = C ++ l by simp, rC] at R3
    unfold readV at R1
    unfold unintV at R2
    unfold cutV at R3
    simp only at R1 R2 R3
    generalize hX : B ++ (C ++ l) = X at *
    generalize hY : C ++ l = Y at *
    have HX := Lib.hid hX
    have HY := Lib.hid hY
    replace N1 := Lib.hid N1
    replace I1 := Lib.hid I1
    replace T1 := Lib.hid T1
    replace R1 := Lib.hid R1
    replace R2 := Lib.hid R2
    replace R3 := Lib.hid R3
    have cut1 : ∀ L : List UInt8, 1 ≤ L.length → (((⟨L.toArray⟩ : ByteArray).extract 0 (L.length - 1)).data.toList ++ L.drop (L.length - 1) = L) ∧ L.drop (L.length - 1) ≠ [] ∧ ((⟨L.toArray⟩ : ByteArray).extract 0 (L.length - 1)).size ≤ L.length := fun L h => by
      rw [extract_of (s := ⟨L.toArray⟩) (l := L) (by simp)]
      refine ⟨by simp, fun e => ?_, by simp [ByteArray.size]⟩
      have := congrArg List.length e
      simp at this
      omega
    have uB := fun w => unint_any ((⟨B.toArray⟩ : ByteArray).extract 0 (B.length - 1)) w (by have := (cut1 B lB.1).2.2; omega)
    rw [cB _ _ (cut1 B lB.1).1 (cut1 B lB.1).2.1] at uB
    have uC := fun w => cut_any ((⟨C.toArray⟩ : ByteArray).extract 0 (C.length - 1)) w (by have := (cut1 C (by omega)).2.2; omega)
    rw [cC _ _ (cut1 C (by omega)).1 (cut1 C (by omega)).2.1] at uC
    have uA := fun w => no_any ((⟨A.toArray⟩ : ByteArray).extract 0 (A.length - 1)) w (by have := (cut1 A (by omega)).2.2; omega) (cA _ _ (cut1 A (by omega)).1 (cut1 A (by omega)).2.1)
    replace uA := Lib.hid uA
    replace uB := Lib.hid uB
    replace uC := Lib.hid uC
    have nA : ¬ A = [] := fun e => by rw [e] at lA; simp at lA
    have nB : ¬ B = [] := fun e => by rw [e] at lB; simp at lB
    have nC : ¬ C = [] := fun e => by rw [e] at lC; simp at lC
    have zA : ((A.length : Int) == 0) = false := beq_eq_false_iff_ne.2 (by omega)
    have zB : ((B.length : Int) == 0) = false := beq_eq_false_iff_ne.2 (by omega)
    have nl : decide (C.length ≤ l.length) = false := decide_eq_false (by omega)
    have iA : (A.length : Int) ≤ 9 := by omega
    clear cA cB cC
    clear rA rB rC hX hY
    go_enter Try.func5, Try.ntmps5
    go_wp2_with (first
        | (go_at_call 8; refine (N1.out _).mono ?_; rintro e w2 ⟨rfl, hn⟩; replace hB := bel hB hn; clear hn)
        | (go_at_call 10; refine (I1.out _).mono ?_; rintro e w2 ⟨rfl, hn⟩; replace hB := bel hB hn; clear hn)
        | (go_at_call 12; refine (T1.out _).mono ?_; rintro e w2 ⟨rfl, hn⟩; replace hB := bel hB hn; clear hn)
        | (go_at_call 14; refine (R1.out _).mono ?_; rintro e w2 ⟨rfl, hn⟩; replace hB := bel hB hn; clear hn)
        | (go_at_call 16; (with_reducible refine (R2.out _).mono ?_); rintro e w2 ⟨rfl, hn⟩; replace hB := bel hB hn; clear hn)
        | (go_at_call 18; (with_reducible refine (R3.out _).mono ?_); rintro e w2 ⟨rfl, hn⟩; replace hB := bel hB hn; clear hn)
        | (go_at_call 16; (with_reducible refine (uB.out _).mono ?_); rintro e w2 ⟨rfl, hn⟩; replace hB := bel hB hn; clear hn; unfold unintV)
        | (go_at_call 18; (with_reducible refine (uC.out _).mono ?_); rintro e w2 ⟨rfl, hn⟩; replace hB := bel hB hn; clear hn; unfold cutV)
        | (go_at_call 20; (with_reducible refine (uA.out _).mono ?_); rintro e w2 ⟨rfl, hn⟩; replace hB := bel hB hn; clear hn)
        | (go_at_call 7; refine (coded_any _).mono ?_; rintro e w2 ⟨rfl, hn⟩; replace hB := bel hB hn; clear hn))
    all_goals go_ret
    all_goals first | exact ⟨rfl, hB⟩ | (exfalso; omega)

/-! ### The row. -/
set_option maxRecDepth 100000 in
theorem lifted (os : Os) (started : os.Started) (H : Type) (enc : TypeId × Value → H) :
    ReturnsInHanded {} Try.checked os 5 .any (Rows.codecBackSpec.pre6 enc Try.prog Try.f5 Rows.codecBackRow.domain false) (Rows.codecBackSpec.post enc Try.prog Try.f5 false true false false) := by
  refine returnsInHanded_of_change (C := Try.checked) own started (by kernel_rfl) Try.func5
    (ChangeSpec.witness6 (enc := enc) (C := Try.checked) false ⟨#[], #[.int .u64 0, .int .u16 0, .string ByteArray.empty], []⟩ 8 (by kernel_rfl) (by kernel_rfl) (by kernel_rfl) (by kernel_rfl)) ?_
  intro W base args ds gs before hval0 hW hcnd _
  have hval : ∀ (j : Nat) t v, Try.f5.params[j]? = some t → args[j]? = some v → Value.okWide Try.prog W .any base t v := hval0
  have hW' := hW
  obtain ⟨p, q, hA0, hV, rfl, hfz, hnd⟩ := hW
  have hA : DataW.TrodAll enc Try.prog W 0 (fun _ => true) true Try.f5.params.toList args.toList ds p := hA0
  rw [Try.params5] at hA hval
  obtain ⟨v0, vs0, d0, ds0, p0, q0, hargs, rfl, rfl, h0, r0⟩ := trodAll_cons hA
  obtain ⟨v1, vs1, d1, ds1, p1, q1, rfl, rfl, rfl, h1, r1⟩ := trodAll_cons r0
  obtain ⟨v2, vs2, d2, ds2, p2, q2, rfl, rfl, rfl, h2, r2⟩ := trodAll_cons r1
  obtain ⟨rfl, rfl, rfl⟩ := trodAll_nil r2
  obtain rfl : args = #[v0, v1, v2] := by cases args; simp_all
  obtain ⟨rfl, rfl⟩ := trodVars_none hV
  have k0 := h0
  have lt0 : ∀ x ∈ p0, x.block < W.heap.size := by obtain ⟨m, hm⟩ := k0; exact DataW.trod_lt m _ _ _ hm
  obtain ⟨a0, rfl, rfl, rfl, w0⟩ := open_int Try.underlying22 (hval 0 22 v0 rfl rfl) h0
  have k1 := h1
  have lt1 : ∀ x ∈ p1, x.block < W.heap.size := by obtain ⟨m, hm⟩ := k1; exact DataW.trod_lt m _ _ _ hm
  obtain ⟨a1, rfl, rfl, rfl, w1⟩ := open_int Try.underlying35 (hval 1 35 v1 rfl rfl) h1
  have k2 := h2
  have lt2 : ∀ x ∈ p2, x.block < W.heap.size := by obtain ⟨m, hm⟩ := k2; exact DataW.trod_lt m _ _ _ hm
  obtain ⟨a2, rfl, rfl, rfl, w2⟩ := open_string Try.underlying9 (hval 2 9 v2 rfl rfl) h2
  clear hA0 hval0
  refine (walk a0 a1 a2 w0 w1 w2 W).mono fun e W' ⟨he, bel⟩ => ?_
  subst he
  exact ⟨_, rfl, _, _, _, [], _, [], hW', trodAll_mk1 (shut_bool Try.underlying4 _), (trodAll_cons_mk (Below.trod laidOut (by kernel_rfl) (of_decide_eq_true (by kernel_rfl)) k0 bel lt0) (trodAll_cons_mk (Below.trod laidOut (by kernel_rfl) (of_decide_eq_true (by kernel_rfl)) k1 bel lt1) (trodAll_cons_mk (Below.trod laidOut (by kernel_rfl) (of_decide_eq_true (by kernel_rfl)) k2 bel lt2) trodAll_mk0))), rfl, bel.frame _, fun h => by cases h⟩

theorem over : Rows.codecBackRow.holds Try.pinned (OpenSpec.ofChange Rows.codecBackSpec) :=
  OpenClaim.holds_of_wide 5 Try.f5 rfl rfl rfl rfl rfl rfl rfl ⟨rfl, rfl, rfl, rfl, rfl⟩ rfl rfl rfl rfl rfl (by kernel_rfl) Try.func5 (by kernel_rfl)
    (of_decide_eq_true (by kernel_rfl)) (by unfold Func.isWrapper; first | (rw [if_pos (by decide +kernel)]; kernel_rfl) | (rw [if_neg (by decide +kernel)]; exact ⟨rfl, rfl⟩))
    (fun os started H enc _ => lifted os started H enc)

/-- THE STATEMENT. -/
theorem proved : Rows.CodecBackSaid := over
#print axioms proved
end Go.Proofs.Ytacbccijfnmmpaa.codecBack
