/-
  Law BucketsPlay answers true for every capacity, refill and list of acts, and leaves them as they were: whatever is taken, at whatever ticks, each answer and what is left is the document's, and what a copy does makes no difference. Conditions: none.
-/
import Derived.Test.YthncfpgmgpnclaaRows
import Derived.WalkKit
import Derived.ProofKit
import Derived.OpenShut
import Derived.ShutString
import Derived.ChangeOld
import Derived.Below
import Derived.Test.YthncfpgmgpnclaaTyped
import Derived.Test.YthncfpgmgpnclaaBucC
import Derived.Deep.DeepCutAuto
import Derived.Deep.CutBlock
import Derived.Deep.LoopGhost
import Derived.Deep.RegionWith
open Go.Proofs.Ythncfpgmgpnclaa.Mem Go.Proofs.Ythncfpgmgpnclaa.Buc
namespace Go.Proofs.Ythncfpgmgpnclaa.bucketsPlay
open Go.ChangeShapes Go.WideShapes Go.ChangeAt Go.RowKit
open Go.ChangeMaps (open_string shut_string)
open Go.Proofs.Ythncfpgmgpnclaa.Mem
set_option linter.unusedVariables false

theorem own : ownKnob Try.prog.godebug = none := by kernel_rfl
theorem laidOut : laidOutB Try.prog = true := by kernel_rfl

def ty2 : Ty := .slice actTy
theorem act_num {w : World} {x : Nat} {T : TypeId} {k n : Int} (h : Blk w x T (actC k n)) : w.cell? ⟨x, 1, none⟩ = some (.int .i64 n) := h.cell 1

theorem sh2 : tyOf Try.prog 20 22 = some ty2 := by kernel_rfl

/-! ### The walk: the law answers true, and writes nothing that was there. -/
set_option maxRecDepth 100000
set_option maxHeartbeats 8000000
theorem walk (w : World) (a0 : Int) (a1 : Int) (ao2 : Option Addr) (ln2 cp2 : Nat) (w0 : (Lit.int .i64 a0).wf = true) (w1 : (Lit.int .i64 a1).wf = true) (f2 : Fits w ty2 [.slice ao2 ln2 cp2]) :
    Calls Try.prog 3 #[.int .i64 a0, .int .i64 a1, .slice ao2 ln2 cp2] w fun e w' => e = .returned (.bool true) ∧ Below w.heap.size w w' := by
  have hB := Below.refl w.heap.size w
  have hl := len_le f2
  by_cases hs : 150 < (ln2 : Int)
  · go_enter Try.func3, Try.ntmps3
    go_wp2_with (go_at_call 6; refine (filled_any _).mono ?_; rintro e w2 ⟨rfl, hn⟩)
    go_ret
    exact ⟨rfl, hn⟩
  · have HA := Lib.hid (fun i hi => act_at f2 i hi)
    clear f2
    cases hg : good a0 a1 with
    | false =>
      go_enter Try.func3, Try.ntmps3
      go_wp2_with (first
        | (go_at_call 7; refine (new_bad _ a0 a1 hg).mono ?_; rintro e w2 ⟨rfl, rfl⟩)
        | (go_at_call 8; refine (rnew_bad _ a0 a1 hg).mono ?_; rintro e w2 ⟨rfl, rfl⟩)
        | (go_at_call 6; refine (filled_any _).mono ?_; rintro e w2 ⟨rfl, hn⟩))
      go_ret
      exact ⟨rfl, hn⟩
    | true =>
      go_enter Try.func3, Try.ntmps3
      go_wp2_with fail
      refine (new_good _ a0 a1 hg).mono ?_
      rintro e w2 ⟨p, rfl, W, hp, B2⟩
      go_wp2_with fail
      refine (rnew_good _ a0 a1 hg).mono ?_
      rintro e w3 ⟨r, rfl, R, hr, B3⟩
      have hpl := W.lt
      have hB3 : Below w.heap.size w w3 := B2.trans (B3.mono B2.size)
      replace W := W.below B3 hpl
      have hwp : w.heap.size ≤ p := hp
      have hpr : p < r := by omega
      clear hpl B2 B3 hp hr hB hg
      go_wp2_with fail
      go_loopg [11] ln2 (fun g i wr => ∃ (k : Nat) (v : V), g = ln2 - k ∧ k ≤ ln2 ∧ i = .int .i64 (k : Int) ∧ BAt wr p v ∧ RAt wr r v ∧ Below w.heap.size w wr)
      case atStart => exact ⟨0, _, rfl, Nat.zero_le _, rfl, W, R, hB3⟩
      case round =>
        clear W R hB3
        obtain ⟨k, v, hg, hk, rfl, W, R, hBr⟩ := hrel
        by_cases hlt : k < ln2
        · obtain ⟨b, o, kk, nn, rfl, hr, ⟨hk0, hk1⟩, hnw, hbw⟩ := HA.out k hlt
          have hrA : wr.rangeAt b (o + k * 2) (actC kk nn) := rangeAt_below hr hBr (fun _ => hbw)
          obtain ⟨d', hd', hdr'⟩ := row_act
          replace hd' := Lib.hid hd'
          replace hrA := Lib.hid hrA
          replace hg := Lib.hid hg
          have hrl := R.lt
          have hbs := hBr.size
          have W0 := Lib.hid W
          have R0 := Lib.hid R
          replace hnw := bounds_i64 hnw
          clear hr HA W R
          go_upto_region 11 with (first
            | ((with_reducible show wpList _ _ _ (⟨_, .load 32 _, _, _, _, _⟩ :: _) _ _); refine wpList_load_mid rfl 32 _ rfl b (o + k * 2) rfl (actC kk nn) d' hrA.out hd'.out hdr' size_act ?_)
            | ((with_reducible show wpList _ _ _ (⟨_, .alloc _, _, _, _, _⟩ :: _) _ _); refine wpList_alloc_blk rfl 32 rfl actZ zero_act ?_; intro W10 B10 K10 S10; clear S10; have l10 := K10.lt)
            | ((with_reducible show wpList _ _ _ (⟨none, .store 32 _ _, _, _, _, _⟩ :: _) _ _); refine wpList_store_blk rfl 32 _ _ rfl wr.heap.size 32 actZ (actC kk nn) 2 rfl rfl K10 rfl (act_cellsN kk nn) size_act ?_; intro W11 T11 K S11; clear S11))
          have BS : Below wr.heap.size wr W11 := B10.trans (T11.below (by omega) (by simp))
          have W := W0.out.below BS (by omega)
          have R := R0.out.below BS hrl
          have c0 : W11.cell? ⟨wr.heap.size, 0, none⟩ = some (.int .u8 kk) := K.cell 0
          have c1 := act_num K
          have hB1 : Below w.heap.size w W11 := hBr.trans (BS.mono hBr.size)
          clear K10 B10 T11 BS W0 R0 hrA l10 hBr
          generalize wr.heap.size = x at *
          have hks : kk % 5 = 3 ∨ kk % 5 = 4 ∨ kk % 5 = 0 ∨ kk % 5 = 1 ∨ kk % 5 = 2 := by omega
          rcases hks with ek | ek | ek | ek | ek
          · as_aux_lemma =>
              go_wp2_with fail
              replace W : BAt W11.drew p v := ⟨W.blk, W.ok⟩
              replace R : RAt W11.drew r v := ⟨R.blk, R.ok⟩
              replace K : Blk W11.drew x 32 (actC kk nn) := K
              replace hB1 : Below w.heap.size w W11.drew := ⟨hB1.os, hB1.tape, hB1.output, hB1.size, hB1.block⟩
              have z1 : ((v.bring nn).m != (v.bring nn).m) = false := by simp
              go_region_with (first
                | (go_at_call 9; refine (left_at _ p _ W nn).mono ?_; rintro e wa ⟨rfl, W', T⟩; replace R := R.keep T (by simp; omega); replace K := T.blk K (by simp; omega); have c1 := act_num K; replace hB1 := hB1.trans (T.below hB1.size (by simp; omega)); replace W := W'; clear W' T)
                | (go_at_call 10; refine (rleft_at _ r _ R nn).mono ?_; rintro e wb ⟨rfl, R', T⟩; replace W := W.keep T (by simp; omega); replace K := T.blk K (by simp; omega); have c1 := act_num K; replace hB1 := hB1.trans (T.below hB1.size (by simp; omega)); replace R := R'; clear R' T))
              all_goals go_wp2_with fail
              all_goals (go_roundg (ln2 - (k + 1)))
              all_goals first | exact ⟨k + 1, _, rfl, by omega, by go_num, W, R, hB1⟩ | (have := hg.out; omega)
          · as_aux_lemma =>
              go_wp2_with fail
              refine (copy_at _ p v W).mono ?_
              rintro e w4 ⟨pc, rfl, C, hpc, B4⟩
              have hxl := K.lt
              replace W := W.below B4 W.lt
              replace R := R.below B4 R.lt
              replace hB1 := hB1.trans (B4.mono hB1.size)
              clear c1
              go_wp2_with fail
              refine (take_at _ pc _ C 1099511627776).mono ?_
              rintro e w5 ⟨rfl, C5, T⟩
              replace W := W.keep T (by simp; omega)
              replace R := R.keep T (by simp; omega)
              replace hB1 := hB1.trans (T.below hB1.size (by simp; omega))
              go_wp2_with fail
              go_roundg (ln2 - (k + 1))
              case measure => have := hg.out; omega
              case rel => exact ⟨k + 1, _, rfl, by omega, by go_num, W, R, hB1⟩
          · as_aux_lemma =>
              go_wp2_with fail
              replace W : BAt W11.drew p v := ⟨W.blk, W.ok⟩
              replace R : RAt W11.drew r v := ⟨R.blk, R.ok⟩
              replace K : Blk W11.drew x 32 (actC kk nn) := K
              replace hB1 : Below w.heap.size w W11.drew := ⟨hB1.os, hB1.tape, hB1.output, hB1.size, hB1.block⟩
              have z1 : (v.takes nn != v.takes nn) = false := by simp
              go_region_with (first
                | (go_at_call 12; refine (take_at _ p _ W nn).mono ?_; rintro e wa ⟨rfl, W', T⟩; replace R := R.keep T (by simp; omega); replace K := T.blk K (by simp; omega); have c1 := act_num K; replace hB1 := hB1.trans (T.below hB1.size (by simp; omega)); replace W := W'; clear W' T)
                | (go_at_call 13; refine (rtake_at _ r _ R nn).mono ?_; rintro e wb ⟨rfl, R', T⟩; replace W := W.keep T (by simp; omega); replace K := T.blk K (by simp; omega); have c1 := act_num K; replace hB1 := hB1.trans (T.below hB1.size (by simp; omega)); replace R := R'; clear R' T))
              all_goals go_wp2_with fail
              all_goals (go_roundg (ln2 - (k + 1)))
              all_goals first | exact ⟨k + 1, _, rfl, by omega, by go_num, W, R, hB1⟩ | (have := hg.out; omega)
          · as_aux_lemma =>
              go_wp2_with fail
              replace W : BAt W11.drew p v := ⟨W.blk, W.ok⟩
              replace R : RAt W11.drew r v := ⟨R.blk, R.ok⟩
              replace K : Blk W11.drew x 32 (actC kk nn) := K
              replace hB1 : Below w.heap.size w W11.drew := ⟨hB1.os, hB1.tape, hB1.output, hB1.size, hB1.block⟩
              have z1 : (v.takes nn != v.takes nn) = false := by simp
              go_region_with (first
                | (go_at_call 12; refine (take_at _ p _ W nn).mono ?_; rintro e wa ⟨rfl, W', T⟩; replace R := R.keep T (by simp; omega); replace K := T.blk K (by simp; omega); have c1 := act_num K; replace hB1 := hB1.trans (T.below hB1.size (by simp; omega)); replace W := W'; clear W' T)
                | (go_at_call 13; refine (rtake_at _ r _ R nn).mono ?_; rintro e wb ⟨rfl, R', T⟩; replace W := W.keep T (by simp; omega); replace K := T.blk K (by simp; omega); have c1 := act_num K; replace hB1 := hB1.trans (T.below hB1.size (by simp; omega)); replace R := R'; clear R' T))
              all_goals go_wp2_with fail
              all_goals (go_roundg (ln2 - (k + 1)))
              all_goals first | exact ⟨k + 1, _, rfl, by omega, by go_num, W, R, hB1⟩ | (have := hg.out; omega)
          · as_aux_lemma =>
              go_wp2_with fail
              replace W : BAt W11.drew p v := ⟨W.blk, W.ok⟩
              replace R : RAt W11.drew r v := ⟨R.blk, R.ok⟩
              replace K : Blk W11.drew x 32 (actC kk nn) := K
              replace hB1 : Below w.heap.size w W11.drew := ⟨hB1.os, hB1.tape, hB1.output, hB1.size, hB1.block⟩
              have z1 : (v.takes nn != v.takes nn) = false := by simp
              go_region_with (first
                | (go_at_call 12; refine (take_at _ p _ W nn).mono ?_; rintro e wa ⟨rfl, W', T⟩; replace R := R.keep T (by simp; omega); replace K := T.blk K (by simp; omega); have c1 := act_num K; replace hB1 := hB1.trans (T.below hB1.size (by simp; omega)); replace W := W'; clear W' T)
                | (go_at_call 13; refine (rtake_at _ r _ R nn).mono ?_; rintro e wb ⟨rfl, R', T⟩; replace W := W.keep T (by simp; omega); replace K := T.blk K (by simp; omega); have c1 := act_num K; replace hB1 := hB1.trans (T.below hB1.size (by simp; omega)); replace R := R'; clear R' T))
              all_goals go_wp2_with fail
              all_goals (go_roundg (ln2 - (k + 1)))
              all_goals first | exact ⟨k + 1, _, rfl, by omega, by go_num, W, R, hB1⟩ | (have := hg.out; omega)
        · have hkk : k = ln2 := by omega
          subst hkk
          go_wp2_with fail
          refine (copy_at _ p v W).mono ?_
          rintro e w4 ⟨pc, rfl, C, hpc, B4⟩
          have hpl := W.lt
          have hrl := R.lt
          replace W := W.below B4 W.lt
          replace R := R.below B4 R.lt
          replace hBr := hBr.trans (B4.mono hBr.size)
          have okv := Lib.hid C.ok
          go_wp2_with fail
          refine (left_at _ pc _ C 0).mono ?_
          rintro e w5 ⟨rfl, C5, T5⟩
          replace W := W.keep T5 (by simp; omega)
          replace R := R.keep T5 (by simp; omega)
          replace hBr := hBr.trans (T5.below hBr.size (by have := hBr.size; simp; omega))
          clear C T5
          go_wp2_with fail
          refine (rleft_at _ r _ R 0).mono ?_
          rintro e w6 ⟨rfl, R6, T6⟩
          replace W := W.keep T6 (by simp; omega)
          replace hBr := hBr.trans (T6.below hBr.size (by have := hBr.size; simp; omega))
          clear R T6 C5
          go_wp2_with fail
          refine (left_at _ p _ W (-1)).mono ?_
          rintro e w7 ⟨rfl, W7, T7⟩
          replace R6 := R6.keep T7 (by simp; omega)
          replace hBr := hBr.trans (T7.below hBr.size (by have := hBr.size; simp; omega))
          clear W T7
          go_wp2_with fail
          refine (rleft_at _ r _ R6 (-1)).mono ?_
          rintro e w8 ⟨rfl, R8, T8⟩
          replace hBr := hBr.trans (T8.below hBr.size (by have := hBr.size; simp; omega))
          clear R6 T8 W7
          have em : ((v.bring 0).bring (-1)).m = (v.bring (-1)).m := by rw [V.bring_twice okv.out]
          go_wp2_with (go_at_call 6; refine (filled_any _).mono ?_; rintro e w9 ⟨rfl, hn⟩)
          go_ret
          exact ⟨rfl, hBr.trans (hn.mono hBr.size)⟩

/-! ### The row. -/
set_option maxRecDepth 100000 in
theorem lifted (os : Os) (started : os.Started) (H : Type) (enc : TypeId × Value → H) :
    ReturnsInHanded {} Try.checked os 3 .any (Rows.bucketsPlaySpec.pre6 enc Try.prog Try.f3 Rows.bucketsPlayRow.domain false) (Rows.bucketsPlaySpec.post enc Try.prog Try.f3 false true false false) := by
  refine returnsInHanded_of_change (C := Try.checked) own started (by kernel_rfl) Try.func3
    (ChangeSpec.witness6 (enc := enc) (C := Try.checked) false ⟨#[], #[.int .i64 0, .int .i64 0, .slice none 0 0], []⟩ 8 (by kernel_rfl) (by kernel_rfl) (by kernel_rfl) (by kernel_rfl)) ?_
  intro W base args ds gs before hval0 hW hcnd _
  have hval : ∀ (j : Nat) t v, Try.f3.params[j]? = some t → args[j]? = some v → Value.okWide Try.prog W .any base t v := hval0
  have hW' := hW
  obtain ⟨p, q, hA0, hV, rfl, hfz, hnd⟩ := hW
  have hA : DataW.TrodAll enc Try.prog W 0 (fun _ => true) true Try.f3.params.toList args.toList ds p := hA0
  rw [Try.params3] at hA hval
  obtain ⟨v0, vs0, d0, ds0, p0, q0, hargs, rfl, rfl, h0, r0⟩ := trodAll_cons hA
  obtain ⟨v1, vs1, d1, ds1, p1, q1, rfl, rfl, rfl, h1, r1⟩ := trodAll_cons r0
  obtain ⟨v2, vs2, d2, ds2, p2, q2, rfl, rfl, rfl, h2, r2⟩ := trodAll_cons r1
  obtain ⟨rfl, rfl, rfl⟩ := trodAll_nil r2
  obtain rfl : args = #[v0, v1, v2] := by cases args; simp_all
  obtain ⟨rfl, rfl⟩ := trodVars_none hV
  have k0 := h0
  have lt0 : ∀ x ∈ p0, x.block < W.heap.size := by obtain ⟨m, hm⟩ := k0; exact DataW.trod_lt m _ _ _ hm
  obtain ⟨a0, rfl, rfl, rfl, w0⟩ := open_int Try.underlying3 (hval 0 3 v0 rfl rfl) h0
  have k1 := h1
  have lt1 : ∀ x ∈ p1, x.block < W.heap.size := by obtain ⟨m, hm⟩ := k1; exact DataW.trod_lt m _ _ _ hm
  obtain ⟨a1, rfl, rfl, rfl, w1⟩ := open_int Try.underlying3 (hval 1 3 v1 rfl rfl) h1
  have k2 := h2
  have lt2 : ∀ x ∈ p2, x.block < W.heap.size := by obtain ⟨m, hm⟩ := k2; exact DataW.trod_lt m _ _ _ hm
  have f2 := fits_of_Trod sh2 h2; obtain ⟨ao2, ln2, cp2, rfl⟩ := okWide_slice Try.underlying22 (hval 2 22 v2 rfl rfl)
  clear hA0 hval0
  refine (walk W a0 a1 ao2 ln2 cp2 w0 w1 f2).mono fun e W' ⟨he, bel⟩ => ?_
  subst he
  exact ⟨_, rfl, _, _, _, [], _, [], hW', trodAll_mk1 (shut_bool Try.underlying4 _), (trodAll_cons_mk (Below.trod laidOut (by kernel_rfl) (of_decide_eq_true (by kernel_rfl)) k0 bel lt0) (trodAll_cons_mk (Below.trod laidOut (by kernel_rfl) (of_decide_eq_true (by kernel_rfl)) k1 bel lt1) (trodAll_cons_mk (Below.trod laidOut (by kernel_rfl) (of_decide_eq_true (by kernel_rfl)) k2 bel lt2) trodAll_mk0))), rfl, bel.frame _, fun h => by cases h⟩

theorem over : Rows.bucketsPlayRow.holds Try.pinned (OpenSpec.ofChange Rows.bucketsPlaySpec) :=
  OpenClaim.holds_of_wide 3 Try.f3 rfl rfl rfl rfl rfl rfl rfl ⟨rfl, rfl, rfl, rfl, rfl⟩ rfl rfl rfl rfl rfl (by kernel_rfl) Try.func3 (by kernel_rfl)
    (of_decide_eq_true (by kernel_rfl)) (by unfold Func.isWrapper; first | (rw [if_pos (by decide +kernel)]; kernel_rfl) | (rw [if_neg (by decide +kernel)]; exact ⟨rfl, rfl⟩))
    (fun os started H enc _ => lifted os started H enc)

/-- THE STATEMENT. -/
theorem proved : Rows.BucketsPlaySaid := over
#print axioms proved
end Go.Proofs.Ythncfpgmgpnclaa.bucketsPlay
