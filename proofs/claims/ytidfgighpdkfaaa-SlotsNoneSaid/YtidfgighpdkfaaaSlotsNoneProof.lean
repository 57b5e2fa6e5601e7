/-
  Law SlotsNone answers true for every outcome, and leaves it as it was: a slot that is none is never set, nor is one by an outcome that is none. Conditions: none.
-/
import Derived.Test.YtidfgighpdkfaaaRows
import Derived.WalkKit
import Derived.ProofKit
import Derived.OpenShut
import Derived.ShutString
import Derived.ChangeOld
import Derived.Below
import Derived.Test.YtidfgighpdkfaaaTyped
import Derived.Test.YtidfgighpdkfaaaSlB
import Derived.Deep.DeepCutAuto
open Go.Proofs.Ytidfgighpdkfaaa.Mem Go.Proofs.Ytidfgighpdkfaaa.Sl
namespace Go.Proofs.Ytidfgighpdkfaaa.slotsNone
open Go.ChangeShapes Go.WideShapes Go.ChangeAt Go.RowKit
open Go.ChangeMaps (open_string shut_string)
open Go.Proofs.Ytidfgighpdkfaaa.Mem
set_option linter.unusedVariables false

theorem own : ownKnob Try.prog.godebug = none := by kernel_rfl
theorem laidOut : laidOutB Try.prog = true := by kernel_rfl

def ty0 : Ty := outTy
def wit0 : List Value := zeroO.cells

theorem sh0 : tyOf Try.prog 20 29 = some ty0 := by kernel_rfl

/-! ### The walk: the law answers true, and writes nothing that was there. -/
set_option maxRecDepth 100000
set_option maxHeartbeats 4000000
theorem walk (w : World) (c0 : List Value) (f0 : Fits w ty0 c0) :
    Calls Try.prog 4 #[.agg c0.toArray] w fun e w' => e = .returned (.bool true) ∧ Below w.heap.size w w' := by
  obtain ⟨o, rfl, -, -⟩ := out_fits f0
  clear f0
  obtain ⟨d, hd, hdr⟩ := row_out
  replace hd := Lib.hid hd
  have ho := fun o : O => o.cellsN
  have f4 : sets none { o with kind := 0 } = false := rfl
  have f5 : sets none { o with kind := 4 } = false := rfl
  have v4 : setV none { o with kind := 0 } = none := rfl
  have v5 : setV none { o with kind := 4 } = none := rfl
  go_enter Try.func4, Try.ntmps4
  go_wp2_with ((with_reducible show wpList _ _ _ (⟨_, .box _ _, _, _, _, _⟩ :: _) _ _); refine wpList_box_blk rfl TO _ rfl o.cells rfl ?_; intro W1 B1 K1 S1; clear S1)
  go_loopg [3, 4] 2 (fun g r t wr => ∃ k : Nat, g = 2 - k ∧ k ≤ 2 ∧ t = .int .i64 (k : Int) ∧ NoS wr r ∧ Blk wr w.heap.size TO o.cells ∧ Below w.heap.size w wr)
  case atStart => exact ⟨0, rfl, by omega, rfl, .inl rfl, K1, B1⟩
  case round =>
    obtain ⟨k, hg, hk, rfl, hN, K, hBr⟩ := hrel
    clear K1 B1
    replace hg := Lib.hid hg
    by_cases hlt : k < 2
    · go_wp2_with ((with_reducible show wpList _ _ _ (⟨_, .load TO (.tmp 1), _, _, _, _⟩ :: _) _ _); refine wpList_load_blk rfl TO _ rfl w.heap.size TO o.cells d rfl K hd.out hdr info_out ?_)
      refine (set_no wr _ hN o).mono ?_
      rintro e w2 ⟨rfl, B2⟩
      have hN2 := hN.below B2
      have K2 := K.below B2 K.lt
      have hB2 := hBr.trans (B2.mono hBr.size)
      clear hN K hBr
      go_wp2_with fail
      refine (same_no w2 _ hN2).mono ?_
      rintro e w3 ⟨rfl, B3⟩
      have K3 := K2.below B3 K2.lt
      have hB3 := hB2.trans (B3.mono hB2.size)
      clear hN2 K2 hB2
      go_wp2_with ((with_reducible show wpList _ _ _ (⟨_, .box _ _, _, _, _, _⟩ :: _) _ _); refine wpList_box_blk rfl 48 _ rfl (sc false 0 0 0 0 0 zeroO) rfl ?_; intro W4 B4 K4 S4; clear S4)
      go_roundg (2 - (k + 1))
      case measure => have := hg.out; omega
      case rel => exact ⟨k + 1, rfl, by omega, by go_num, .inr ⟨_, rfl, K4⟩, K3.below B4 K3.lt, hB3.trans (B4.mono hB3.size)⟩
    · have hkk : k = 2 := by omega
      subst hkk
      clear hN
      go_wp2_with fail
      refine (new_any wr).mono ?_
      rintro e w2 ⟨p, rfl, S2, hp, B2⟩
      have K2 := K.below B2 K.lt
      have hB2 := hBr.trans (B2.mono hBr.size)
      have hx := K.lt
      have hpx : w.heap.size < p := by omega
      have c0 : w2.cell? ⟨w.heap.size, 0, none⟩ = some (.int .i64 o.kind) := K2.cell 0
      have z0 := K2.free 0
      have K3 : Blk (w2.setCell ⟨w.heap.size, 0, none⟩ (.int .i64 0)) w.heap.size TO ({ o with kind := 0 } : O).cells := K2.set 0 (.int .i64 0)
      have S3 : SAt (w2.setCell ⟨w.heap.size, 0, none⟩ (.int .i64 0)) p none := S2.setOther (by simp; omega) _
      have hB3 : Below w.heap.size w (w2.setCell ⟨w.heap.size, 0, none⟩ (.int .i64 0)) := hB2.setCell (Nat.le_refl _) _
      have s3 : w2.heap.size ≤ (w2.setCell ⟨w.heap.size, 0, none⟩ (.int .i64 0)).heap.size := by simp [World.setCell]
      replace K3 := Lib.hid K3
      replace S3 := Lib.hid S3
      replace hB3 := Lib.hid hB3
      replace s3 := Lib.hid s3
      clear S2 K2 hB2 K hBr
      go_upto_region 10 with fail
      generalize w2.setCell ⟨w.heap.size, 0, none⟩ (.int .i64 0) = W3 at *
      have SA := set_at W3 p none S3.out { o with kind := 0 }
      rw [f4, v4] at SA
      replace SA := Lib.hid SA
      go_wp2_with ((with_reducible show wpList _ _ _ (⟨_, .load TO (.tmp 1), _, _, _, _⟩ :: _) _ _); refine wpList_load_blk rfl TO _ rfl w.heap.size TO ({ o with kind := 0 } : O).cells d rfl K3.out hd.out hdr info_out ?_)
      refine SA.out.mono ?_
      rintro e w5 ⟨rfl, S5, T5⟩
      have K5 := T5.blk K3.out (by simp; omega)
      have hB5 := hB3.out.trans (T5.below hB3.out.size (by simp; omega))
      go_wp2_with fail
      refine (same_yes w5 p none S5).mono ?_
      rintro e w6 ⟨rfl, B6⟩
      have K6 := K5.below B6 K5.lt
      have S6 := S5.below B6
      have hB6 := hB5.trans (B6.mono hB5.size)
      have c6 : w6.cell? ⟨w.heap.size, 0, none⟩ = some (.int .i64 0) := K6.cell 0
      have z6 := K6.free 0
      have K7 : Blk (w6.setCell ⟨w.heap.size, 0, none⟩ (.int .i64 4)) w.heap.size TO ({ o with kind := 4 } : O).cells := K6.set 0 (.int .i64 4)
      have S7 : SAt (w6.setCell ⟨w.heap.size, 0, none⟩ (.int .i64 4)) p none := S6.setOther (by simp; omega) _
      have hB7 : Below w.heap.size w (w6.setCell ⟨w.heap.size, 0, none⟩ (.int .i64 4)) := hB6.setCell (Nat.le_refl _) _
      replace K7 := Lib.hid K7
      replace S7 := Lib.hid S7
      replace hB7 := Lib.hid hB7
      clear S6 K6 hB6 S5 K5 hB5 SA
      go_upto_region 13 with fail
      generalize w6.setCell ⟨w.heap.size, 0, none⟩ (.int .i64 4) = W7 at *
      have SA := set_at W7 p none S7.out { o with kind := 4 }
      rw [f5, v5] at SA
      replace SA := Lib.hid SA
      go_wp2_with ((with_reducible show wpList _ _ _ (⟨_, .load TO (.tmp 1), _, _, _, _⟩ :: _) _ _); refine wpList_load_blk rfl TO _ rfl w.heap.size TO ({ o with kind := 4 } : O).cells d rfl K7.out hd.out hdr info_out ?_)
      refine SA.out.mono ?_
      rintro e w8 ⟨rfl, S8, T8⟩
      have hB8 := hB7.out.trans (T8.below hB7.out.size (by simp; omega))
      go_wp2_with fail
      refine (same_yes w8 p none S8).mono ?_
      rintro e w9 ⟨rfl, B9⟩
      have hB9 := hB8.trans (B9.mono hB8.size)
      go_wp2_with (go_at_call 6; refine (once_any _).mono ?_; rintro e wa ⟨rfl, hn⟩)
      go_ret
      exact ⟨rfl, hB9.trans (hn.mono hB9.size)⟩

/-! ### The row. -/
set_option maxRecDepth 100000 in
theorem lifted (os : Os) (started : os.Started) (H : Type) (enc : TypeId × Value → H) :
    ReturnsInHanded {} Try.checked os 4 .any (Rows.slotsNoneSpec.pre6 enc Try.prog Try.f4 Rows.slotsNoneRow.domain false) (Rows.slotsNoneSpec.post enc Try.prog Try.f4 false true false false) := by
  refine returnsInHanded_of_change (C := Try.checked) own started (by kernel_rfl) Try.func4
    (ChangeSpec.witness6 (enc := enc) (C := Try.checked) false ⟨#[], #[.agg wit0.toArray], []⟩ 8 (by kernel_rfl) (by kernel_rfl) (by kernel_rfl) (by kernel_rfl)) ?_
  intro W base args ds gs before hval0 hW hcnd _
  have hval : ∀ (j : Nat) t v, Try.f4.params[j]? = some t → args[j]? = some v → Value.okWide Try.prog W .any base t v := hval0
  have hW' := hW
  obtain ⟨p, q, hA0, hV, rfl, hfz, hnd⟩ := hW
  have hA : DataW.TrodAll enc Try.prog W 0 (fun _ => true) true Try.f4.params.toList args.toList ds p := hA0
  rw [Try.params4] at hA hval
  obtain ⟨v0, vs0, d0, ds0, p0, q0, hargs, rfl, rfl, h0, r0⟩ := trodAll_cons hA
  obtain ⟨rfl, rfl, rfl⟩ := trodAll_nil r0
  obtain rfl : args = #[v0] := by cases args; simp_all
  obtain ⟨rfl, rfl⟩ := trodVars_none hV
  have k0 := h0
  have lt0 : ∀ x ∈ p0, x.block < W.heap.size := by obtain ⟨m, hm⟩ := k0; exact DataW.trod_lt m _ _ _ hm
  have f0 := fits_of_Trod sh0 h0; obtain ⟨⟨c0⟩, rfl, _⟩ := okWide_struct Try.underlying29 (hval 0 29 v0 rfl rfl)
  clear hA0 hval0
  refine (walk W c0 f0).mono fun e W' ⟨he, bel⟩ => ?_
  subst he
  exact ⟨_, rfl, _, _, _, [], _, [], hW', trodAll_mk1 (shut_bool Try.underlying4 _), (trodAll_cons_mk (Below.trod laidOut (by kernel_rfl) (of_decide_eq_true (by kernel_rfl)) k0 bel lt0) trodAll_mk0), rfl, bel.frame _, fun h => by cases h⟩

theorem over : Rows.slotsNoneRow.holds Try.pinned (OpenSpec.ofChange Rows.slotsNoneSpec) :=
  OpenClaim.holds_of_wide 4 Try.f4 rfl rfl rfl rfl rfl rfl rfl ⟨rfl, rfl, rfl, rfl, rfl⟩ rfl rfl rfl rfl rfl (by kernel_rfl) Try.func4 (by kernel_rfl)
    (of_decide_eq_true (by kernel_rfl)) (by unfold Func.isWrapper; first | (rw [if_pos (by decide +kernel)]; kernel_rfl) | (rw [if_neg (by decide +kernel)]; exact ⟨rfl, rfl⟩))
    (fun os started H enc _ => lifted os started H enc)

/-- THE STATEMENT. -/
theorem proved : Rows.SlotsNoneSaid := over
#print axioms proved
end Go.Proofs.Ytidfgighpdkfaaa.slotsNone
