/-
  Law RingsNone answers true for every act, and leaves it as it was: a ring that is none takes nothing, and has nothing. Conditions: none.
-/
import Derived.Test.YtgboealiclcgkaaRows
import Derived.WalkKit
import Derived.ProofKit
import Derived.OpenShut
import Derived.ShutString
import Derived.ChangeOld
import Derived.Below
import Derived.Test.YtgboealiclcgkaaTyped
import Derived.Test.YtgboealiclcgkaaRingsG
import Derived.Test.YtgboealiclcgkaaRingsH
import Derived.Test.YtgboealiclcgkaaBuild
open Go.Proofs.Ytgboealiclcgkaa.Mem Go.Proofs.Ytgboealiclcgkaa.Rings
namespace Go.Proofs.Ytgboealiclcgkaa.ringsNone
open Go.ChangeShapes Go.WideShapes Go.ChangeAt Go.RowKit
open Go.ChangeMaps (open_string shut_string)
open Go.Proofs.Ytgboealiclcgkaa.Mem
set_option linter.unusedVariables false

theorem own : ownKnob Try.prog.godebug = none := by kernel_rfl
theorem laidOut : laidOutB Try.prog = true := by kernel_rfl

def ty0 : Ty := actTy
def wit0 : List Value := .int .u8 0 :: (zeroC ++ [.int .i64 0])
theorem info_act : (Try.prog.info? 44).map (fun i => (i.zero, i.size, i.bytes)) = some (some (.agg wit0.toArray), 31, 304) := by kernel_rfl
theorem size_act : (Try.prog.info? 44).map (·.size) = some 31 := by kernel_rfl
theorem row_act : ∃ d, Try.prog.underlying 44 = some d ∧ d.isRow = true := ⟨_, Try.underlying44, rfl⟩

theorem sh0 : tyOf Try.prog 20 44 = some ty0 := by kernel_rfl

/-! ### The walk: the law answers true, and writes nothing that was there. -/
set_option maxRecDepth 100000
set_option maxHeartbeats 4000000
theorem walk (w : World) (c0 : List Value) (f0 : Fits w ty0 c0) :
    Calls Try.prog 4 #[.agg c0.toArray] w fun e w' => e = .returned (.bool true) ∧ Below w.heap.size w w' := by
  have hfit := f0
  obtain ⟨k, i, fc, x, I, rfl, -, hi, hx, hI⟩ := fits_act f0
  have hB := Below.refl w.heap.size w
  have hfl := FrOk.of_at hx
  have hcl : (Value.int .u8 k :: (fc ++ [nI i])).length = 31 := by simp [hfl]
  obtain ⟨d, hd, hdr⟩ := row_act
  obtain ⟨d', hd', hdr'⟩ := row_frame
  obtain ⟨i0, hi0, hz0, hz1, hz2⟩ := info_parts info_act
  generalize hcs : (Value.int .u8 k :: (fc ++ [nI i])) = cs at *
  replace hcs := Lib.hid hcs
  replace hd := Lib.hid hd
  replace hd' := Lib.hid hd'
  replace hfit := Lib.hid hfit
  replace hx := Lib.hid hx
  replace hi0 := Lib.hid hi0
  replace hz0 := Lib.hid hz0
  replace hz1 := Lib.hid hz1
  clear hz2 f0
  go_enter Try.func4, Try.ntmps4
  go_wp2_with (first
    | ((with_reducible show wpList _ _ _ (⟨_, .box _ _, _, _, _, _⟩ :: _) _ _); refine wpList_box_blk rfl 44 _ rfl cs rfl ?_; intro W1 B1 K1 S1; clear S1; have l1 := K1.lt)
    | ((with_reducible show wpList _ _ _ (⟨_, .load 44 _, _, _, _, _⟩ :: _) _ _); refine wpList_load_blk rfl 44 _ rfl w.heap.size 44 cs d rfl K1 hd.out hdr (by rw [hcl]; exact size_act) ?_)
    | ((with_reducible show wpList _ _ _ (⟨_, .buildSlice _ _ _, _, _, _, _⟩ :: _) _ _); refine wpList_slice1_blk rfl 22 44 _ rfl cs i0 _ rfl Try.underlying22 hi0.out hz0.out (by rw [hz1.out, hcl]) (by omega) (by omega) ?_; intro W2 B2 K2 S2; clear S2; have l2 := K2.lt))
  have B02 : Below w.heap.size w W2 := B1.trans (B2.mono B1.size)
  have hg : Fits W2 (.slice actTy) [.slice (some ⟨W1.heap.size, 0, none⟩) 1 1] := .inr ⟨_, 1, 1, rfl, Nat.le_refl _, by simp [maxLen], fun j hj => ⟨rfl, cs, hcl, by
    obtain rfl : j = 0 := by omega
    simpa using K2.rangeAll, Fits.below B02 _ _ hfit.out⟩⟩
  refine (great_any W2 _ 1 1 1 hg).mono ?_
  rintro e W3 ⟨g, rfl, hgf, B3⟩
  have B03 := B02.trans (B3.mono B02.size)
  have K3 := (K1.below B2 K1.lt).below B3 (by omega)
  clear B1 B2 K1 K2 hg
  cases g with
  | true =>
    go_wp2_with (go_at_call 7; refine (ringed_any _).mono ?_; rintro e w9 ⟨rfl, hn⟩)
    go_ret
    exact ⟨rfl, B03.trans (hn.mono B03.size)⟩
  | false =>
    clear hgf
    go_wp2_with fail
    have hrow : ∀ W, Blk W w.heap.size 44 cs → W.rangeAt w.heap.size 1 fc := fun W h j u hu => by
      rw [h.cell, ← hcs.out, show 1 + j = j + 1 by omega, List.getElem?_cons_succ, List.getElem?_append_left (List.getElem?_eq_some_iff.1 hu).1]
      exact hu
    have hnum : ∀ W, Blk W w.heap.size 44 cs → W.cell? ⟨w.heap.size, 30, none⟩ = some (.int .i64 i) := fun W h => by
      rw [h.cell, ← hcs.out, List.getElem?_cons_succ, List.getElem?_append_right (by omega), hfl]; rfl
    replace hrow := Lib.hid hrow
    replace hnum := Lib.hid hnum
    go_loopw [3, 4] (fun r i wr => ∃ k : Nat, k ≤ 2 ∧ i = .int .i64 (k : Int) ∧ NoR wr r ∧ Blk wr w.heap.size 44 cs ∧ Below w.heap.size w wr)
      (fun _ i _ => 2 - (intOf i).toNat)
    case atStart => exact ⟨0, by omega, rfl, .inl rfl, K3, B03⟩
    case round =>
      obtain ⟨k, hk, rfl, hN, K, hBr⟩ := hrel
      clear K3 B03 B3 hB
      by_cases hlt : k < 2
      · go_wp2_with fail
        refine (pop_no _ _ hN).mono ?_
        rintro e wa ⟨rfl, Bwa⟩
        replace hN := hN.below Bwa
        replace K := K.below Bwa K.lt
        replace hBr := hBr.trans (Bwa.mono hBr.size)
        go_wp2_with (first
          | ((with_reducible show wpList _ _ _ (⟨some 5, .alloc _, _, _, _, _⟩ :: _) _ _); refine wpList_alloc_blk rfl 42 rfl zeroC zero_val ?_; intro W3 BW3 K3 S3; clear S3; have l3 := K3.lt)
          | ((with_reducible show wpList _ _ _ (⟨none, .store 42 (.tmp 5) _, _, _, _, _⟩ :: _) _ _); refine wpList_store_blk rfl 42 _ _ rfl wa.heap.size 42 zeroC zeroC 29 rfl rfl K3 rfl (fr_cellsN (zero_at w) zero_ok) info_frame ?_; intro wb T4 K4 S4; clear S4 K4; have Bwb : Below wa.heap.size wa wb := BW3.trans (T4.below (Nat.le_of_lt l3) (by simp)); clear T4 K3 BW3 l3 W3; replace hN := hN.below Bwb; replace K := K.below Bwb K.lt; replace hBr := hBr.trans (Bwb.mono hBr.size); have hI := hnum.out _ K))
        refine (front_no _ _ hN).mono ?_
        rintro e wc ⟨rfl, Bwc⟩
        replace hN := hN.below Bwc
        replace K := K.below Bwc K.lt
        replace hBr := hBr.trans (Bwc.mono hBr.size)
        go_wp2_with (first
          | ((with_reducible show wpList _ _ _ (⟨some 7, .alloc _, _, _, _, _⟩ :: _) _ _); refine wpList_alloc_blk rfl 42 rfl zeroC zero_val ?_; intro W3 BW3 K3 S3; clear S3; have l3 := K3.lt)
          | ((with_reducible show wpList _ _ _ (⟨none, .store 42 (.tmp 7) _, _, _, _, _⟩ :: _) _ _); refine wpList_store_blk rfl 42 _ _ rfl wc.heap.size 42 zeroC zeroC 29 rfl rfl K3 rfl (fr_cellsN (zero_at w) zero_ok) info_frame ?_; intro wd T4 K4 S4; clear S4 K4; have Bwd : Below wc.heap.size wc wd := BW3.trans (T4.below (Nat.le_of_lt l3) (by simp)); clear T4 K3 BW3 l3 W3; replace hN := hN.below Bwd; replace K := K.below Bwd K.lt; replace hBr := hBr.trans (Bwd.mono hBr.size); have hI := hnum.out _ K))
        refine (at_no _ _ hN i).mono ?_
        rintro e we ⟨rfl, Bwe⟩
        replace hN := hN.below Bwe
        replace K := K.below Bwe K.lt
        replace hBr := hBr.trans (Bwe.mono hBr.size)
        go_wp2_with (first
          | ((with_reducible show wpList _ _ _ (⟨some 9, .alloc _, _, _, _, _⟩ :: _) _ _); refine wpList_alloc_blk rfl 42 rfl zeroC zero_val ?_; intro W3 BW3 K3 S3; clear S3; have l3 := K3.lt)
          | ((with_reducible show wpList _ _ _ (⟨none, .store 42 (.tmp 9) _, _, _, _, _⟩ :: _) _ _); refine wpList_store_blk rfl 42 _ _ rfl we.heap.size 42 zeroC zeroC 29 rfl rfl K3 rfl (fr_cellsN (zero_at w) zero_ok) info_frame ?_; intro wf T4 K4 S4; clear S4 K4; have Bwf : Below we.heap.size we wf := BW3.trans (T4.below (Nat.le_of_lt l3) (by simp)); clear T4 K3 BW3 l3 W3; replace hN := hN.below Bwf; replace K := K.below Bwf K.lt; replace hBr := hBr.trans (Bwf.mono hBr.size); have hI := hnum.out _ K))
        refine (clear_no _ _ hN).mono ?_
        rintro e wg ⟨rfl, rfl⟩
        go_wp2_with ((with_reducible show wpList _ _ _ (⟨_, .load 42 _, _, _, _, _⟩ :: _) _ _); refine wpList_load_mid rfl 42 _ rfl w.heap.size 1 rfl fc d' (hrow.out _ K) hd'.out hdr' (by rw [hfl]; exact info_frame) ?_)
        refine (push_no _ _ hN fc).mono ?_
        rintro e wh ⟨rfl, Bwh⟩
        replace hN := hN.below Bwh
        replace K := K.below Bwh K.lt
        replace hBr := hBr.trans (Bwh.mono hBr.size)
        go_wp2_with fail
        refine (len_no _ _ hN).mono ?_
        rintro e wi ⟨rfl, rfl⟩
        go_wp2_with fail
        refine (cap_no _ _ hN).mono ?_
        rintro e wj ⟨rfl, rfl⟩
        go_wp2_with fail
        refine (copy_no _ _ hN).mono ?_
        rintro e wk ⟨rfl, rfl⟩
        go_wp2_with fail
        go_roundw
        case rel => exact ⟨k + 1, by omega, by go_num, .inr ⟨_, none, 0, rfl, (Blk.new wk 60 [.slice none 0 0, .int .i64 0, .int .i64 0]).cell 0⟩, K.alloc _, hBr.alloc hBr.size _⟩
        case measure => simp [intOf]; omega
      · have hkk : k = 2 := by omega
        subst hkk
        go_wp2_with (go_at_call 7; refine (ringed_any _).mono ?_; rintro e w9 ⟨rfl, hn⟩)
        go_ret
        exact ⟨rfl, hBr.trans (hn.mono hBr.size)⟩

/-! ### The row. -/
set_option maxRecDepth 100000 in
theorem lifted (os : Os) (started : os.Started) (H : Type) (enc : TypeId × Value → H) :
    ReturnsInHanded {} Try.checked os 4 .any (Rows.ringsNoneSpec.pre6 enc Try.prog Try.f4 Rows.ringsNoneRow.domain false) (Rows.ringsNoneSpec.post enc Try.prog Try.f4 false true false false) := by
  refine returnsInHanded_of_change (C := Try.checked) own started (by kernel_rfl) Try.func4
    (ChangeSpec.witness6 (enc := enc) (C := Try.checked) false ⟨#[], #[.agg wit0.toArray], []⟩ 8 (by kernel_rfl) (by kernel_rfl) (by kernel_rfl) (by kernel_rfl)) ?_
  intro W base args ds gs before hval0 hW hcnd _
  have hval : ∀ (j : Nat) t v, Try.f4.params[j]? = some t → args[j]? = some v → Value.okWide Try.prog W .any base t v := hval0
  have hW' := hW
  obtain ⟨p, q, hA0, hV, rfl, hfz, hnd⟩ := hW
  have hA : DataW.TrodAll enc Try.prog W 0 (fun _ => true) true Try.f4.params.toList args.toList ds p := hA0
  rw [Try.params4] at hA hval
  obtain ⟨v0, vs0, d0, ds0, p0, q0, hargs, rfl, rfl, h0, r0⟩ := trodAll_cons hA
  obtain ⟨rfl, rfl, rfl⟩ := trodAll_nil r0
  obtain rfl : args = #[v0] := by cases args; simp_all
  obtain ⟨rfl, rfl⟩ := trodVars_none hV
  have k0 := h0
  have lt0 : ∀ x ∈ p0, x.block < W.heap.size := by obtain ⟨m, hm⟩ := k0; exact DataW.trod_lt m _ _ _ hm
  have f0 := fits_of_Trod sh0 h0; obtain ⟨⟨c0⟩, rfl, _⟩ := okWide_struct Try.underlying44 (hval 0 44 v0 rfl rfl)
  clear hA0 hval0
  refine (walk W c0 f0).mono fun e W' ⟨he, bel⟩ => ?_
  subst he
  exact ⟨_, rfl, _, _, _, [], _, [], hW', trodAll_mk1 (shut_bool Try.underlying4 _), (trodAll_cons_mk (Below.trod laidOut (by kernel_rfl) (of_decide_eq_true (by kernel_rfl)) k0 bel lt0) trodAll_mk0), rfl, bel.frame _, fun h => by cases h⟩

theorem over : Rows.ringsNoneRow.holds Try.pinned (OpenSpec.ofChange Rows.ringsNoneSpec) :=
  OpenClaim.holds_of_wide 4 Try.f4 rfl rfl rfl rfl rfl rfl rfl ⟨rfl, rfl, rfl, rfl, rfl⟩ rfl rfl rfl rfl rfl (by kernel_rfl) Try.func4 (by kernel_rfl)
    (of_decide_eq_true (by kernel_rfl)) (by unfold Func.isWrapper; first | (rw [if_pos (by decide +kernel)]; kernel_rfl) | (rw [if_neg (by decide +kernel)]; exact ⟨rfl, rfl⟩))
    (fun os started H enc _ => lifted os started H enc)

/-- THE STATEMENT. -/
theorem proved : Rows.RingsNoneSaid := over
#print axioms proved
end Go.Proofs.Ytgboealiclcgkaa.ringsNone
