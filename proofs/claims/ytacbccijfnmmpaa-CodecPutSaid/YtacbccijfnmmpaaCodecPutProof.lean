/-
  Law CodecPut answers true for every number, every other one, and every text, and leaves them as they were: the bytes that the program puts are the document's. Conditions: none.
-/
import Derived.Test.YtacbccijfnmmpaaRows
import Derived.WalkKit
import Derived.ProofKit
import Derived.OpenShut
import Derived.ShutString
import Derived.ChangeOld
import Derived.Below
import Derived.Test.YtacbccijfnmmpaaCodecL
import Derived.Test.YtacbccijfnmmpaaCodecT
open Go.Proofs.Ytacbccijfnmmpaa.Mem Go.Proofs.Ytacbccijfnmmpaa.Codec
namespace Go.Proofs.Ytacbccijfnmmpaa.codecPut
open Go.ChangeShapes Go.WideShapes Go.ChangeAt Go.RowKit
open Go.ChangeMaps (open_string shut_string)
set_option linter.unusedVariables false

theorem own : ownKnob Try.prog.godebug = none := by kernel_rfl
theorem laidOut : laidOutB Try.prog = true := by kernel_rfl

theorem and_mask (a : Int) : 0 ≤ bits BinOp.and IntKind.i64 a 511 ∧ bits BinOp.and IntKind.i64 a 511 ≤ 511 := by
  show 0 ≤ IntKind.i64.wrap ((BitVec.ofInt 64 a &&& BitVec.ofInt 64 511).toNat : Int) ∧ IntKind.i64.wrap ((BitVec.ofInt 64 a &&& BitVec.ofInt 64 511).toNat : Int) ≤ 511
  have h : (BitVec.ofInt 64 a &&& BitVec.ofInt 64 511).toNat ≤ 511 := by
    rw [BitVec.toNat_and]
    exact Nat.and_le_right
  rw [IntKind.wrap_i64]
  omega

/-! ### The walk: the law answers true, and writes nothing that was there. -/
set_option maxRecDepth 100000
set_option maxHeartbeats 4000000
theorem walk (a0 : Int) (a1 : Int) (a2 : ByteArray) (w0 : (Lit.int .u64 a0).wf = true) (w1 : (Lit.int .i64 a1).wf = true) (w2 : a2.size ≤ maxLen) (w : World) :
    Calls Try.prog 3 #[.int .u64 a0, .int .i64 a1, .string a2] w fun e w' => e = .returned (.bool true) ∧ Below w.heap.size w w' := by
  have hB := Below.refl w.heap.size w
  by_cases hs : 1000 < (a2.size : Int)
  · go_enter Try.func3, Try.ntmps3
    go_wp2_with (go_at_call 7; refine (coded_any _).mono ?_; rintro e w2 ⟨rfl, hn⟩; replace hB := bel hB hn; clear hn)
    go_ret
    exact ⟨rfl, hB⟩
  · obtain ⟨l, rfl⟩ : ∃ l : List UInt8, a2 = ⟨l.toArray⟩ := ⟨a2.data.toList, by simp⟩
    have hl : l.length ≤ 1000 := by have := size_of (s := ⟨l.toArray⟩) (l := l) (by simp); omega
    have b0 := bounds_u64 w0
    have b1 := bounds_i64 w1
    obtain ⟨k, rfl⟩ := Int.eq_ofNat_of_zero_le b0.1
    have hk : k < 18446744073709551616 := by omega
    have hm := and_mask a1
    clear hs w0 w2 w1 b0
    go_enter Try.func3, Try.ntmps3
    go_wp2_with (first
        | (go_at_call 8; refine (num_any _ _ (by omega) (by omega)).mono ?_; rintro e w2 ⟨rfl, hn⟩; replace hB := bel hB hn; clear hn)
        | (go_at_call 10; refine (int_any _ _ (by omega) (by omega)).mono ?_; rintro e w2 ⟨rfl, hn⟩; replace hB := bel hB hn; clear hn)
        | (go_at_call 12; refine (text_any _ _ (by omega)).mono ?_; rintro e w2 ⟨rfl, hn⟩; replace hB := bel hB hn; clear hn)
        | (go_at_call 9; refine (rnum_any _ _ (by omega) (by omega)).mono ?_; rintro e w2 ⟨rfl, hn⟩; replace hB := bel hB hn; clear hn)
        | (go_at_call 11; refine (rint_any _ _ (by omega) (by omega)).mono ?_; rintro e w2 ⟨rfl, hn⟩; replace hB := bel hB hn; clear hn)
        | (go_at_call 13; refine (rtext_any _ _ (by omega)).mono ?_; rintro e w2 ⟨rfl, hn⟩; replace hB := bel hB hn; clear hn)
        | (go_at_call 7; refine (coded_any _).mono ?_; rintro e w2 ⟨rfl, hn⟩; replace hB := bel hB hn; clear hn))
    go_ret
    exact ⟨rfl, hB⟩

/-! ### The row. -/
set_option maxRecDepth 100000 in
theorem lifted (os : Os) (started : os.Started) (H : Type) (enc : TypeId × Value → H) :
    ReturnsInHanded {} Try.checked os 3 .any (Rows.codecPutSpec.pre6 enc Try.prog Try.f3 Rows.codecPutRow.domain false) (Rows.codecPutSpec.post enc Try.prog Try.f3 false true false false) := by
  refine returnsInHanded_of_change (C := Try.checked) own started (by kernel_rfl) Try.func3
    (ChangeSpec.witness6 (enc := enc) (C := Try.checked) false ⟨#[], #[.int .u64 0, .int .i64 0, .string ByteArray.empty], []⟩ 8 (by kernel_rfl) (by kernel_rfl) (by kernel_rfl) (by kernel_rfl)) ?_
  intro W base args ds gs before hval0 hW hcnd _
  have hval : ∀ (j : Nat) t v, Try.f3.params[j]? = some t → args[j]? = some v → Value.okWide Try.prog W .any base t v := hval0
  have hW' := hW
  obtain ⟨p, q, hA0, hV, rfl, hfz, hnd⟩ := hW
  have hA : DataW.TrodAll enc Try.prog W 0 (fun _ => true) true Try.f3.params.toList args.toList ds p := hA0
  rw [Try.params3] at hA hval
  obtain ⟨v0, vs0, d0, ds0, p0, q0, hargs, rfl, rfl, h0, r0⟩ := trodAll_cons hA
  obtain ⟨v1, vs1, d1, ds1, p1, q1, rfl, rfl, rfl, h1, r1⟩ := trodAll_cons r0
  obtain ⟨v2, vs2, d2, ds2, p2, q2, rfl, rfl, rfl, h2, r2⟩ := trodAll_cons r1
  obtain ⟨rfl, rfl, rfl⟩ := trodAll_nil r2
  obtain rfl : args = #[v0, v1, v2] := by cases args; simp_all
  obtain ⟨rfl, rfl⟩ := trodVars_none hV
  have k0 := h0
  have lt0 : ∀ x ∈ p0, x.block < W.heap.size := by obtain ⟨m, hm⟩ := k0; exact DataW.trod_lt m _ _ _ hm
  obtain ⟨a0, rfl, rfl, rfl, w0⟩ := open_int Try.underlying22 (hval 0 22 v0 rfl rfl) h0
  have k1 := h1
  have lt1 : ∀ x ∈ p1, x.block < W.heap.size := by obtain ⟨m, hm⟩ := k1; exact DataW.trod_lt m _ _ _ hm
  obtain ⟨a1, rfl, rfl, rfl, w1⟩ := open_int Try.underlying3 (hval 1 3 v1 rfl rfl) h1
  have k2 := h2
  have lt2 : ∀ x ∈ p2, x.block < W.heap.size := by obtain ⟨m, hm⟩ := k2; exact DataW.trod_lt m _ _ _ hm
  obtain ⟨a2, rfl, rfl, rfl, w2⟩ := open_string Try.underlying9 (hval 2 9 v2 rfl rfl) h2
  clear hA0 hval0
  refine (walk a0 a1 a2 w0 w1 w2 W).mono fun e W' ⟨he, bel⟩ => ?_
  subst he
  exact ⟨_, rfl, _, _, _, [], _, [], hW', trodAll_mk1 (shut_bool Try.underlying4 _), (trodAll_cons_mk (Below.trod laidOut (by kernel_rfl) (of_decide_eq_true (by kernel_rfl)) k0 bel lt0) (trodAll_cons_mk (Below.trod laidOut (by kernel_rfl) (of_decide_eq_true (by kernel_rfl)) k1 bel lt1) (trodAll_cons_mk (Below.trod laidOut (by kernel_rfl) (of_decide_eq_true (by kernel_rfl)) k2 bel lt2) trodAll_mk0))), rfl, bel.frame _, fun h => by cases h⟩

theorem over : Rows.codecPutRow.holds Try.pinned (OpenSpec.ofChange Rows.codecPutSpec) :=
  OpenClaim.holds_of_wide 3 Try.f3 rfl rfl rfl rfl rfl rfl rfl ⟨rfl, rfl, rfl, rfl, rfl⟩ rfl rfl rfl rfl rfl (by kernel_rfl) Try.func3 (by kernel_rfl)
    (of_decide_eq_true (by kernel_rfl)) (by unfold Func.isWrapper; first | (rw [if_pos (by decide +kernel)]; kernel_rfl) | (rw [if_neg (by decide +kernel)]; exact ⟨rfl, rfl⟩))
    (fun os started H enc _ => lifted os started H enc)

/-- THE STATEMENT. -/
theorem proved : Rows.CodecPutSaid := over
#print axioms proved
end Go.Proofs.Ytacbccijfnmmpaa.codecPut
