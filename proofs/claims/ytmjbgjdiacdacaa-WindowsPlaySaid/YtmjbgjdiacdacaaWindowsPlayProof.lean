/-
  Law WindowsPlay answers true for every capacity, two indices and list of acts, and leaves them as they were: whatever is done with a window, each answer and all indices are the document's, and what a copy does makes no difference. Conditions: none.
-/
import Derived.Test.YtmjbgjdiacdacaaRows
import Derived.WalkKit
import Derived.ProofKit
import Derived.OpenShut
import Derived.ShutString
import Derived.ChangeOld
import Derived.Below
import Derived.Test.YtmjbgjdiacdacaaTyped
import Derived.Test.YtmjbgjdiacdacaaWinS
import Derived.Deep.DeepCutAuto
import Derived.Deep.CutBlock
import Derived.Deep.LoopGhost
import Derived.Deep.RegionWith
open Go.Proofs.Ytmjbgjdiacdacaa.Mem Go.Proofs.Ytmjbgjdiacdacaa.Win
namespace Go.Proofs.Ytmjbgjdiacdacaa.windowsPlay
open Go.ChangeShapes Go.WideShapes Go.ChangeAt Go.RowKit
open Go.ChangeMaps (open_string shut_string)
open Go.Proofs.Ytmjbgjdiacdacaa.Mem
set_option linter.unusedVariables false

theorem own : ownKnob Try.prog.godebug = none := by kernel_rfl
theorem laidOut : laidOutB Try.prog = true := by kernel_rfl

def ty1 : Ty := tyArr (.int .i64) 2
def wit1 : List Value := [.int .i64 0, .int .i64 0]
def ty2 : Ty := .slice actTy
theorem act_num {w : World} {x : Nat} {T : TypeId} {k n : Int} (h : Blk w x T (actC k n)) : w.cell? ⟨x, 1, none⟩ = some (.int .i64 n) := h.cell 1
theorem ref_done {w : World} {r : Nat} {v : V} (h : WAt TR w r v) : w.cell? ⟨r, 2, none⟩ = some (.int .i64 v.d) := h.blk.cell 2
theorem ref_last {w : World} {r : Nat} {v : V} (h : WAt TR w r v) : w.cell? ⟨r, 1, none⟩ = some (.int .i64 v.l) := h.blk.cell 1

theorem sh1 : tyOf Try.prog 20 22 = some ty1 := by kernel_rfl
theorem sh2 : tyOf Try.prog 20 23 = some ty2 := by kernel_rfl

/-! ### The walk: the law answers true, and writes nothing that was there. -/
set_option maxRecDepth 100000
set_option maxHeartbeats 8000000
theorem walk (w : World) (a0 : Int) (c1 : List Value) (ao2 : Option Addr) (ln2 cp2 : Nat) (w0 : (Lit.int .i64 a0).wf = true) (f1 : Fits w ty1 c1) (f2 : Fits w ty2 [.slice ao2 ln2 cp2]) :
    Calls Try.prog 3 #[.int .i64 a0, .agg c1.toArray, .slice ao2 ln2 cp2] w fun e w' => e = .returned (.bool true) ∧ Below w.heap.size w w' := by
  have hB := Below.refl w.heap.size w
  have hl := len_le f2
  obtain ⟨_, _, rfl, ⟨l0, rfl, wl⟩, _, _, rfl, ⟨d0, rfl, wd⟩, rfl⟩ := f1
  simp only [List.cons_append, List.nil_append]
  have b0 := bounds_i64 w0
  have b1 := bounds_i64 wl
  have b2 := bounds_i64 wd
  by_cases hs : 200 < (ln2 : Int)
  · go_enter Try.func3, Try.ntmps3
    go_wp2_with (first
      | ((with_reducible show wpList _ _ _ (⟨_, .box _ _, _, _, _, _⟩ :: _) _ _); refine wpList_box_blk rfl 22 _ rfl [.int .i64 l0, .int .i64 d0] rfl ?_; intro W1 B1 K1 S1; clear S1)
      | (go_at_call 6; refine (framed_any _).mono ?_; rintro e w2 ⟨rfl, hn⟩))
    go_ret
    exact ⟨rfl, B1.trans (hn.mono B1.size)⟩
  · have HA := Lib.hid (fun i hi => act_at f2 i hi)
    clear f2
    cases hg : good a0 l0 d0 with
    | false =>
      go_enter Try.func3, Try.ntmps3
      go_wp2_with (first
        | ((with_reducible show wpList _ _ _ (⟨_, .box _ _, _, _, _, _⟩ :: _) _ _); refine wpList_box_blk rfl 22 _ rfl [.int .i64 l0, .int .i64 d0] rfl ?_; intro W1 B1 K1 S1; clear S1; have q0 := K1.cell 0; have q1 := K1.cell 1; simp only [List.getElem?_cons_zero, List.getElem?_cons_succ] at q0 q1)
        | (go_at_call 7; refine (new_bad _ a0 l0 d0 hg).mono ?_; rintro e w2 ⟨rfl, rfl⟩)
        | (go_at_call 8; refine (rnew_bad _ a0 l0 d0 hg).mono ?_; rintro e w2 ⟨rfl, rfl⟩)
        | (go_at_call 6; refine (framed_any _).mono ?_; rintro e w2 ⟨rfl, hn⟩))
      go_ret
      exact ⟨rfl, B1.trans (hn.mono B1.size)⟩
    | true =>
      go_enter Try.func3, Try.ntmps3
      go_wp2_with ((with_reducible show wpList _ _ _ (⟨_, .box _ _, _, _, _, _⟩ :: _) _ _); refine wpList_box_blk rfl 22 _ rfl [.int .i64 l0, .int .i64 d0] rfl ?_; intro W1 B1 K1 S1; clear S1; have q0 := K1.cell 0; have q1 := K1.cell 1; simp only [List.getElem?_cons_zero, List.getElem?_cons_succ] at q0 q1)
      refine (new_good _ a0 l0 d0 hg).mono ?_
      rintro e w2 ⟨p, rfl, W, hp, B2⟩
      have K2 := K1.below B2 K1.lt
      have q0' := K2.cell 0
      have q1' := K2.cell 1
      simp only [List.getElem?_cons_zero, List.getElem?_cons_succ] at q0' q1'
      go_wp2_with fail
      refine (rnew_good _ a0 l0 d0 hg).mono ?_
      rintro e w3 ⟨r, rfl, R, hr, B3⟩
      have hpl := W.lt
      have s1 := B1.size
      have s2 := B2.size
      have hB3 : Below w.heap.size w w3 := (B1.trans (B2.mono B1.size)).trans (B3.mono (by omega))
      replace W := W.below B3 hpl
      have hwp : w.heap.size ≤ p := by omega
      have hpr : p < r := by omega
      clear hpl s1 s2 q0 q1 q0' q1' K1 K2 B1 B2 B3 hp hr hB hg
      go_wp2_with fail
      go_loopg [11] ln2 (fun g i wr => ∃ (k : Nat) (v : V), g = ln2 - k ∧ k ≤ ln2 ∧ i = .int .i64 (k : Int) ∧ WAt TW wr p v ∧ WAt TR wr r v ∧ Below w.heap.size w wr)
      case atStart => exact ⟨0, _, rfl, Nat.zero_le _, rfl, W, R, hB3⟩
      case round =>
        clear W R hB3
        obtain ⟨k, v, hg, hk, rfl, W, R, hBr⟩ := hrel
        by_cases hlt : k < ln2
        · obtain ⟨b, o, kk, nn, rfl, hr, ⟨hk0, hk1⟩, hnw, hbw⟩ := HA.out k hlt
          have hrA : wr.rangeAt b (o + k * 2) (actC kk nn) := rangeAt_below hr hBr (fun _ => hbw)
          obtain ⟨d', hd', hdr'⟩ := row_act
          replace hd' := Lib.hid hd'
          replace hrA := Lib.hid hrA
          replace hg := Lib.hid hg
          have hrl := R.lt
          have hbs := hBr.size
          obtain ⟨g1, g2, g3, g4, g5, g6, g7, g8, g9⟩ := W.ok
          have W0 := Lib.hid W
          have R0 := Lib.hid R
          replace hnw := bounds_i64 hnw
          clear hr HA W R
          go_upto_region 13 with (first
            | ((with_reducible show wpList _ _ _ (⟨_, .load 33 _, _, _, _, _⟩ :: _) _ _); refine wpList_load_mid rfl 33 _ rfl b (o + k * 2) rfl (actC kk nn) d' hrA.out hd'.out hdr' size_act ?_)
            | ((with_reducible show wpList _ _ _ (⟨_, .alloc _, _, _, _, _⟩ :: _) _ _); refine wpList_alloc_blk rfl 33 rfl actZ zero_act ?_; intro W10 B10 K10 S10; clear S10; have l10 := K10.lt)
            | ((with_reducible show wpList _ _ _ (⟨none, .store 33 _ _, _, _, _, _⟩ :: _) _ _); refine wpList_store_blk rfl 33 _ _ rfl wr.heap.size 33 actZ (actC kk nn) 2 rfl rfl K10 rfl (act_cellsN kk nn) size_act ?_; intro W11 T11 K S11; clear S11))
          have BS : Below wr.heap.size wr W11 := B10.trans (T11.below (by omega) (by simp))
          have W := W0.out.below BS (by omega)
          have R := R0.out.below BS hrl
          have c0 : W11.cell? ⟨wr.heap.size, 0, none⟩ = some (.int .u8 kk) := K.cell 0
          have c1 := act_num K
          have c2 := ref_done R
          have c3 := ref_last R
          have hB1 : Below w.heap.size w W11 := hBr.trans (BS.mono hBr.size)
          clear K10 B10 T11 BS W0 R0 hrA l10 hBr
          generalize wr.heap.size = x at *
          have hks : kk % 13 = 3 ∨ kk % 13 = 4 ∨ kk % 13 = 5 ∨ kk % 13 = 6 ∨ kk % 13 = 7 ∨ kk % 13 = 8 ∨ kk % 13 = 9 ∨ kk % 13 = 10 ∨ kk % 13 = 11 ∨ kk % 13 = 12 ∨ kk % 13 = 0 ∨ kk % 13 = 1 ∨ kk % 13 = 2 := by omega
          replace hks := Lib.hid hks
          go_upto_block 2 with fail
          clear c0
          go_cut [13, 14, 15, 16, 17] from 57 to 187 (fun ok is a b _ wx => ∃ (bb : Bool) (z : Int) (v' : V), ok = .bool bb ∧ is = .bool bb ∧ a = .int .i64 z ∧ b = .int .i64 z ∧ WAt TW wx p v' ∧ WAt TR wx r v' ∧ Below w.heap.size w wx)
          case rest =>
            obtain ⟨bb, z, v', rfl, rfl, rfl, rfl, W', R', BX⟩ := hcut
            clear W R K c1 c2 c3 hB1
            have z1 : (bb != bb) = false := by simp
            have z2 : (z != z) = false := by simp
            go_wp2_with (go_at_call 22; refine (alike_yes _ p r v' W' R').mono ?_; rintro e w5 ⟨rfl, kf, rfl⟩)
            go_roundg (ln2 - (k + 1))
            case measure => have := hg.out; omega
            case rel => exact ⟨k + 1, v', rfl, by omega, by go_num, W'.drewN kf, R'.drewN kf, below_drewN BX kf⟩
          replace hks := hks.out
          rcases hks with ek | ek | ek | ek | ek | ek | ek | ek | ek | ek | ek | ek | ek
          · as_aux_lemma =>
              go_wp2_with fail
              replace W : WAt TW W11.drew p v := ⟨W.blk, W.ok⟩
              replace R : WAt TR W11.drew r v := ⟨R.blk, R.ok⟩
              replace K : Blk W11.drew x 33 (actC kk nn) := K
              replace hB1 : Below w.heap.size w W11.drew := ⟨hB1.os, hB1.tape, hB1.output, hB1.size, hB1.block⟩
              go_region_with (first
                | (go_at_call 9; refine (ack_at _ p _ W nn).mono ?_; rintro e wa ⟨rfl, W', T⟩; replace R := R.keep T (by simp; omega); replace K := T.blk K (by simp; omega); have c1 := act_num K; have c2 := ref_done R; have c3 := ref_last R; replace hB1 := hB1.trans (T.below hB1.size (by simp; omega)); replace W := W'; clear W' T)
                | (go_at_call 10; refine (rack_at _ r _ R nn).mono ?_; rintro e wb ⟨rfl, R', T⟩; replace W := W.keep T (by simp; omega); replace K := T.blk K (by simp; omega); have c1 := act_num K; replace hB1 := hB1.trans (T.below hB1.size (by simp; omega)); replace R := R'; clear R' T; have c2 := ref_done R; have c3 := ref_last R))
              all_goals (go_wp2_with fail; go_meet; exact ⟨_, 0, _, rfl, rfl, rfl, rfl, W, R, hB1⟩)
          · as_aux_lemma =>
              go_wp2_with (first
                | (go_at_call 11; refine (grant_at _ p _ W nn).mono ?_; rintro e wa ⟨rfl, W', T⟩; replace R := R.keep T (by simp; omega); replace K := T.blk K (by simp; omega); have c1 := act_num K; have c2 := ref_done R; have c3 := ref_last R; replace hB1 := hB1.trans (T.below hB1.size (by simp; omega)); replace W := W'; clear W' T)
                | (go_at_call 12; refine (rgrant_at _ r _ R nn).mono ?_; rintro e wb ⟨rfl, R', T⟩; replace W := W.keep T (by simp; omega); replace K := T.blk K (by simp; omega); have c1 := act_num K; replace hB1 := hB1.trans (T.below hB1.size (by simp; omega)); replace R := R'; clear R' T; have c2 := ref_done R; have c3 := ref_last R))
              go_meet
              case rel => exact ⟨false, 0, _, rfl, rfl, rfl, rfl, W, R, hB1⟩
          · as_aux_lemma =>
              go_wp2_with (first
                | (go_at_call 13; refine (next_at _ p _ W).mono ?_; rintro e wa ⟨rfl, W', T⟩; replace R := R.keep T (by simp; omega); replace K := T.blk K (by simp; omega); have c1 := act_num K; have c2 := ref_done R; have c3 := ref_last R; replace hB1 := hB1.trans (T.below hB1.size (by simp; omega)); replace W := W'; clear W' T)
                | (go_at_call 14; refine (rnext_at _ r _ R).mono ?_; rintro e wb ⟨rfl, R', T⟩; replace W := W.keep T (by simp; omega); replace K := T.blk K (by simp; omega); have c1 := act_num K; replace hB1 := hB1.trans (T.below hB1.size (by simp; omega)); replace R := R'; clear R' T; have c2 := ref_done R; have c3 := ref_last R))
              go_meet
              case rel => exact ⟨_, _, _, rfl, rfl, rfl, rfl, W, R, hB1⟩
          · as_aux_lemma =>
              go_wp2_with (first
                | (go_at_call 13; refine (next_at _ p _ W).mono ?_; rintro e wa ⟨rfl, W', T⟩; replace R := R.keep T (by simp; omega); replace K := T.blk K (by simp; omega); have c1 := act_num K; have c2 := ref_done R; have c3 := ref_last R; replace hB1 := hB1.trans (T.below hB1.size (by simp; omega)); replace W := W'; clear W' T)
                | (go_at_call 14; refine (rnext_at _ r _ R).mono ?_; rintro e wb ⟨rfl, R', T⟩; replace W := W.keep T (by simp; omega); replace K := T.blk K (by simp; omega); have c1 := act_num K; replace hB1 := hB1.trans (T.below hB1.size (by simp; omega)); replace R := R'; clear R' T; have c2 := ref_done R; have c3 := ref_last R))
              go_meet
              case rel => exact ⟨_, _, _, rfl, rfl, rfl, rfl, W, R, hB1⟩
          · as_aux_lemma =>
              go_wp2_with (first
                | (go_at_call 13; refine (next_at _ p _ W).mono ?_; rintro e wa ⟨rfl, W', T⟩; replace R := R.keep T (by simp; omega); replace K := T.blk K (by simp; omega); have c1 := act_num K; have c2 := ref_done R; have c3 := ref_last R; replace hB1 := hB1.trans (T.below hB1.size (by simp; omega)); replace W := W'; clear W' T)
                | (go_at_call 14; refine (rnext_at _ r _ R).mono ?_; rintro e wb ⟨rfl, R', T⟩; replace W := W.keep T (by simp; omega); replace K := T.blk K (by simp; omega); have c1 := act_num K; replace hB1 := hB1.trans (T.below hB1.size (by simp; omega)); replace R := R'; clear R' T; have c2 := ref_done R; have c3 := ref_last R))
              go_meet
              case rel => exact ⟨_, _, _, rfl, rfl, rfl, rfl, W, R, hB1⟩
          · as_aux_lemma =>
              go_wp2_with (first
                | (go_at_call 15; refine (back_at _ p _ W nn).mono ?_; rintro e wa ⟨rfl, W', T⟩; replace R := R.keep T (by simp; omega); replace K := T.blk K (by simp; omega); have c1 := act_num K; have c2 := ref_done R; have c3 := ref_last R; replace hB1 := hB1.trans (T.below hB1.size (by simp; omega)); replace W := W'; clear W' T)
                | (go_at_call 16; refine (rback_at _ r _ R nn).mono ?_; rintro e wb ⟨rfl, R', T⟩; replace W := W.keep T (by simp; omega); replace K := T.blk K (by simp; omega); have c1 := act_num K; replace hB1 := hB1.trans (T.below hB1.size (by simp; omega)); replace R := R'; clear R' T; have c2 := ref_done R; have c3 := ref_last R))
              go_meet
              case rel => exact ⟨false, 0, _, rfl, rfl, rfl, rfl, W, R, hB1⟩
          · as_aux_lemma =>
              go_wp2_with (first
                | (go_at_call 17; refine (renew_at _ p _ W).mono ?_; rintro e wa ⟨rfl, W', T⟩; replace R := R.keep T (by simp; omega); replace K := T.blk K (by simp; omega); have c1 := act_num K; have c2 := ref_done R; have c3 := ref_last R; replace hB1 := hB1.trans (T.below hB1.size (by simp; omega)); replace W := W'; clear W' T)
                | (go_at_call 18; refine (rrenew_at _ r _ R).mono ?_; rintro e wb ⟨rfl, R', T⟩; replace W := W.keep T (by simp; omega); replace K := T.blk K (by simp; omega); have c1 := act_num K; replace hB1 := hB1.trans (T.below hB1.size (by simp; omega)); replace R := R'; clear R' T; have c2 := ref_done R; have c3 := ref_last R))
              go_meet
              case rel => exact ⟨false, 0, _, rfl, rfl, rfl, rfl, W, R, hB1⟩
          · as_aux_lemma =>
              go_wp2_with (first
                | (go_at_call 9; refine (ack_at _ p _ W (v.d + 1)).mono ?_; rintro e wa ⟨rfl, W', T⟩; replace R := R.keep T (by simp; omega); replace K := T.blk K (by simp; omega); have c1 := act_num K; have c2 := ref_done R; have c3 := ref_last R; replace hB1 := hB1.trans (T.below hB1.size (by simp; omega)); replace W := W'; clear W' T)
                | (go_at_call 10; refine (rack_at _ r _ R (v.d + 1)).mono ?_; rintro e wb ⟨rfl, R', T⟩; replace W := W.keep T (by simp; omega); replace K := T.blk K (by simp; omega); have c1 := act_num K; replace hB1 := hB1.trans (T.below hB1.size (by simp; omega)); replace R := R'; clear R' T; have c2 := ref_done R; have c3 := ref_last R))
              go_meet
              case rel => exact ⟨_, 0, _, rfl, rfl, rfl, rfl, W, R, hB1⟩
          · as_aux_lemma =>
              go_wp2_with (first
                | (go_at_call 11; refine (grant_at _ p _ W (v.l + 2)).mono ?_; rintro e wa ⟨rfl, W', T⟩; replace R := R.keep T (by simp; omega); replace K := T.blk K (by simp; omega); have c1 := act_num K; have c2 := ref_done R; have c3 := ref_last R; replace hB1 := hB1.trans (T.below hB1.size (by simp; omega)); replace W := W'; clear W' T)
                | (go_at_call 12; refine (rgrant_at _ r _ R (v.l + 2)).mono ?_; rintro e wb ⟨rfl, R', T⟩; replace W := W.keep T (by simp; omega); replace K := T.blk K (by simp; omega); have c1 := act_num K; replace hB1 := hB1.trans (T.below hB1.size (by simp; omega)); replace R := R'; clear R' T; have c2 := ref_done R; have c3 := ref_last R))
              go_meet
              case rel => exact ⟨false, 0, _, rfl, rfl, rfl, rfl, W, R, hB1⟩
          · as_aux_lemma =>
              go_wp2_with fail
              refine (copy_at _ p v W).mono ?_
              rintro e w4 ⟨pc, rfl, C, hpc, B4⟩
              have hxl := K.lt
              replace W := W.below B4 W.lt
              replace R := R.below B4 R.lt
              replace K := K.below B4 hxl
              replace hB1 := hB1.trans (B4.mono hB1.size)
              clear c1 c2 c3
              have c1 := act_num K
              go_wp2_with (first
                | (go_at_call 20; refine (push_at _ pc _ C).mono ?_; rintro e wa ⟨rfl, C', T⟩; replace W := W.keep T (by simp; omega); replace R := R.keep T (by simp; omega); replace K := T.blk K (by simp; omega); have c1 := act_num K; replace hB1 := hB1.trans (T.below hB1.size (by simp; omega)); replace C := C'; clear C' T)
                | (go_at_call 9; refine (ack_at _ pc _ C nn).mono ?_; rintro e wa ⟨rfl, C', T⟩; replace W := W.keep T (by simp; omega); replace R := R.keep T (by simp; omega); replace K := T.blk K (by simp; omega); have c1 := act_num K; replace hB1 := hB1.trans (T.below hB1.size (by simp; omega)); replace C := C'; clear C' T)
                | (go_at_call 11; refine (grant_at _ pc _ C nn).mono ?_; rintro e wa ⟨rfl, C', T⟩; replace W := W.keep T (by simp; omega); replace R := R.keep T (by simp; omega); replace K := T.blk K (by simp; omega); have c1 := act_num K; replace hB1 := hB1.trans (T.below hB1.size (by simp; omega)); replace C := C'; clear C' T)
                | (go_at_call 13; refine (next_at _ pc _ C).mono ?_; rintro e wa ⟨rfl, C', T⟩; replace W := W.keep T (by simp; omega); replace R := R.keep T (by simp; omega); replace K := T.blk K (by simp; omega); have c1 := act_num K; replace hB1 := hB1.trans (T.below hB1.size (by simp; omega)); replace C := C'; clear C' T)
                | (go_at_call 17; refine (renew_at _ pc _ C).mono ?_; rintro e wa ⟨rfl, C', T⟩; replace W := W.keep T (by simp; omega); replace R := R.keep T (by simp; omega); replace K := T.blk K (by simp; omega); have c1 := act_num K; replace hB1 := hB1.trans (T.below hB1.size (by simp; omega)); replace C := C'; clear C' T))
              go_meet
              case rel => exact ⟨false, 0, _, rfl, rfl, rfl, rfl, W, R, hB1⟩
          · as_aux_lemma =>
              go_wp2_with (first
                | (go_at_call 20; refine (push_at _ p _ W).mono ?_; rintro e wa ⟨rfl, W', T⟩; replace R := R.keep T (by simp; omega); replace K := T.blk K (by simp; omega); have c1 := act_num K; have c2 := ref_done R; have c3 := ref_last R; replace hB1 := hB1.trans (T.below hB1.size (by simp; omega)); replace W := W'; clear W' T)
                | (go_at_call 21; refine (rpush_at _ r _ R).mono ?_; rintro e wb ⟨rfl, R', T⟩; replace W := W.keep T (by simp; omega); replace K := T.blk K (by simp; omega); have c1 := act_num K; replace hB1 := hB1.trans (T.below hB1.size (by simp; omega)); replace R := R'; clear R' T; have c2 := ref_done R; have c3 := ref_last R))
              go_meet
              case rel => exact ⟨_, 0, _, rfl, rfl, rfl, rfl, W, R, hB1⟩
          · as_aux_lemma =>
              go_wp2_with (first
                | (go_at_call 20; refine (push_at _ p _ W).mono ?_; rintro e wa ⟨rfl, W', T⟩; replace R := R.keep T (by simp; omega); replace K := T.blk K (by simp; omega); have c1 := act_num K; have c2 := ref_done R; have c3 := ref_last R; replace hB1 := hB1.trans (T.below hB1.size (by simp; omega)); replace W := W'; clear W' T)
                | (go_at_call 21; refine (rpush_at _ r _ R).mono ?_; rintro e wb ⟨rfl, R', T⟩; replace W := W.keep T (by simp; omega); replace K := T.blk K (by simp; omega); have c1 := act_num K; replace hB1 := hB1.trans (T.below hB1.size (by simp; omega)); replace R := R'; clear R' T; have c2 := ref_done R; have c3 := ref_last R))
              go_meet
              case rel => exact ⟨_, 0, _, rfl, rfl, rfl, rfl, W, R, hB1⟩
          · as_aux_lemma =>
              go_wp2_with (first
                | (go_at_call 20; refine (push_at _ p _ W).mono ?_; rintro e wa ⟨rfl, W', T⟩; replace R := R.keep T (by simp; omega); replace K := T.blk K (by simp; omega); have c1 := act_num K; have c2 := ref_done R; have c3 := ref_last R; replace hB1 := hB1.trans (T.below hB1.size (by simp; omega)); replace W := W'; clear W' T)
                | (go_at_call 21; refine (rpush_at _ r _ R).mono ?_; rintro e wb ⟨rfl, R', T⟩; replace W := W.keep T (by simp; omega); replace K := T.blk K (by simp; omega); have c1 := act_num K; replace hB1 := hB1.trans (T.below hB1.size (by simp; omega)); replace R := R'; clear R' T; have c2 := ref_done R; have c3 := ref_last R))
              go_meet
              case rel => exact ⟨_, 0, _, rfl, rfl, rfl, rfl, W, R, hB1⟩
        · have hkk : k = ln2 := by omega
          subst hkk
          go_wp2_with fail
          refine (copy_at _ p v W).mono ?_
          rintro e w4 ⟨pc, rfl, C, hpc, B4⟩
          replace R := R.below B4 R.lt
          replace hBr := hBr.trans (B4.mono hBr.size)
          go_wp2_with (first
            | (go_at_call 22; refine (alike_yes _ pc r v C R).mono ?_; rintro e w5 ⟨rfl, kf, rfl⟩; replace hBr := below_drewN hBr kf)
            | (go_at_call 6; refine (framed_any _).mono ?_; rintro e w9 ⟨rfl, hn⟩))
          go_ret
          exact ⟨rfl, hBr.trans (hn.mono hBr.size)⟩

/-! ### The row. -/
set_option maxRecDepth 100000 in
theorem lifted (os : Os) (started : os.Started) (H : Type) (enc : TypeId × Value → H) :
    ReturnsInHanded {} Try.checked os 3 .any (Rows.windowsPlaySpec.pre6 enc Try.prog Try.f3 Rows.windowsPlayRow.domain false) (Rows.windowsPlaySpec.post enc Try.prog Try.f3 false true false false) := by
  refine returnsInHanded_of_change (C := Try.checked) own started (by kernel_rfl) Try.func3
    (ChangeSpec.witness6 (enc := enc) (C := Try.checked) false ⟨#[], #[.int .i64 0, .agg wit1.toArray, .slice none 0 0], []⟩ 8 (by kernel_rfl) (by kernel_rfl) (by kernel_rfl) (by kernel_rfl)) ?_
  intro W base args ds gs before hval0 hW hcnd _
  have hval : ∀ (j : Nat) t v, Try.f3.params[j]? = some t → args[j]? = some v → Value.okWide Try.prog W .any base t v := hval0
  have hW' := hW
  obtain ⟨p, q, hA0, hV, rfl, hfz, hnd⟩ := hW
  have hA : DataW.TrodAll enc Try.prog W 0 (fun _ => true) true Try.f3.params.toList args.toList ds p := hA0
  rw [Try.params3] at hA hval
  obtain ⟨v0, vs0, d0, ds0, p0, q0, hargs, rfl, rfl, h0, r0⟩ := trodAll_cons hA
  obtain ⟨v1, vs1, d1, ds1, p1, q1, rfl, rfl, rfl, h1, r1⟩ := trodAll_cons r0
  obtain ⟨v2, vs2, d2, ds2, p2, q2, rfl, rfl, rfl, h2, r2⟩ := trodAll_cons r1
  obtain ⟨rfl, rfl, rfl⟩ := trodAll_nil r2
  obtain rfl : args = #[v0, v1, v2] := by cases args; simp_all
  obtain ⟨rfl, rfl⟩ := trodVars_none hV
  have k0 := h0
  have lt0 : ∀ x ∈ p0, x.block < W.heap.size := by obtain ⟨m, hm⟩ := k0; exact DataW.trod_lt m _ _ _ hm
  obtain ⟨a0, rfl, rfl, rfl, w0⟩ := open_int Try.underlying3 (hval 0 3 v0 rfl rfl) h0
  have k1 := h1
  have lt1 : ∀ x ∈ p1, x.block < W.heap.size := by obtain ⟨m, hm⟩ := k1; exact DataW.trod_lt m _ _ _ hm
  have f1 := fits_of_Trod sh1 h1; obtain ⟨⟨c1⟩, rfl, _⟩ := okWide_array Try.underlying22 (hval 1 22 v1 rfl rfl)
  have k2 := h2
  have lt2 : ∀ x ∈ p2, x.block < W.heap.size := by obtain ⟨m, hm⟩ := k2; exact DataW.trod_lt m _ _ _ hm
  have f2 := fits_of_Trod sh2 h2; obtain ⟨ao2, ln2, cp2, rfl⟩ := okWide_slice Try.underlying23 (hval 2 23 v2 rfl rfl)
  clear hA0 hval0
  refine (walk W a0 c1 ao2 ln2 cp2 w0 f1 f2).mono fun e W' ⟨he, bel⟩ => ?_
  subst he
  exact ⟨_, rfl, _, _, _, [], _, [], hW', trodAll_mk1 (shut_bool Try.underlying4 _), (trodAll_cons_mk (Below.trod laidOut (by kernel_rfl) (of_decide_eq_true (by kernel_rfl)) k0 bel lt0) (trodAll_cons_mk (Below.trod laidOut (by kernel_rfl) (of_decide_eq_true (by kernel_rfl)) k1 bel lt1) (trodAll_cons_mk (Below.trod laidOut (by kernel_rfl) (of_decide_eq_true (by kernel_rfl)) k2 bel lt2) trodAll_mk0))), rfl, bel.frame _, fun h => by cases h⟩

theorem over : Rows.windowsPlayRow.holds Try.pinned (OpenSpec.ofChange Rows.windowsPlaySpec) :=
  OpenClaim.holds_of_wide 3 Try.f3 rfl rfl rfl rfl rfl rfl rfl ⟨rfl, rfl, rfl, rfl, rfl⟩ rfl rfl rfl rfl rfl (by kernel_rfl) Try.func3 (by kernel_rfl)
    (of_decide_eq_true (by kernel_rfl)) (by unfold Func.isWrapper; first | (rw [if_pos (by decide +kernel)]; kernel_rfl) | (rw [if_neg (by decide +kernel)]; exact ⟨rfl, rfl⟩))
    (fun os started H enc _ => lifted os started H enc)

/-- THE STATEMENT. -/
theorem proved : Rows.WindowsPlaySaid := over
#print axioms proved
end Go.Proofs.Ytmjbgjdiacdacaa.windowsPlay
