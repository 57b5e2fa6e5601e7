/-
  Law WindowsBounds answers true for every capacity and every list of acts, and leaves them as they were: Done and Sent are never above Last, Done never goes back, what Next tells is never above Limit, and Push is taken as long as fewer than the capacity are not done. Conditions: none.
-/
import Derived.Test.YtmjbgjdiacdacaaRows
import Derived.WalkKit
import Derived.ProofKit
import Derived.OpenShut
import Derived.ShutString
import Derived.ChangeOld
import Derived.Below
import Derived.Test.YtmjbgjdiacdacaaTyped
import Derived.Test.YtmjbgjdiacdacaaWinE
import Derived.Deep.DeepCutAuto
import Derived.Deep.CutBlock
import Derived.Deep.LoopGhost
open Go.Proofs.Ytmjbgjdiacdacaa.Mem Go.Proofs.Ytmjbgjdiacdacaa.Win
namespace Go.Proofs.Ytmjbgjdiacdacaa.windowsBounds
open Go.ChangeShapes Go.WideShapes Go.ChangeAt Go.RowKit
open Go.ChangeMaps (open_string shut_string)
open Go.Proofs.Ytmjbgjdiacdacaa.Mem
set_option linter.unusedVariables false

theorem own : ownKnob Try.prog.godebug = none := by kernel_rfl
theorem laidOut : laidOutB Try.prog = true := by kernel_rfl

def ty1 : Ty := .slice actTy

theorem sh1 : tyOf Try.prog 20 23 = some ty1 := by kernel_rfl

/-! ### The walk: the law answers true, and writes nothing that was there. -/
set_option maxRecDepth 100000
set_option maxHeartbeats 8000000
theorem walk (w : World) (a0 : Int) (ao1 : Option Addr) (ln1 cp1 : Nat) (w0 : (Lit.int .u8 a0).wf = true) (f1 : Fits w ty1 [.slice ao1 ln1 cp1]) :
    Calls Try.prog 5 #[.int .u8 a0, .slice ao1 ln1 cp1] w fun e w' => e = .returned (.bool true) ∧ Below w.heap.size w w' := by
  have hB := Below.refl w.heap.size w
  have hl := len_le f1
  obtain ⟨m0, m1⟩ := bounds_u8 w0
  by_cases hs : 200 < (ln1 : Int)
  · go_enter Try.func5, Try.ntmps5
    go_wp2_with (go_at_call 6; refine (framed_any _).mono ?_; rintro e w2 ⟨rfl, hn⟩)
    go_ret
    exact ⟨rfl, hn⟩
  · have HA := Lib.hid (fun i hi => act_at f1 i hi)
    clear f1
    go_enter Try.func5, Try.ntmps5
    go_wp2_with fail
    obtain ⟨n, hn, n1, n2⟩ : ∃ n : Int, 1 + a0 % 16 = n ∧ 1 ≤ n ∧ n ≤ 16 := ⟨_, rfl, by omega, by omega⟩
    rw [hn]
    clear hn
    refine (new_good w n 0 0 (good_iff.2 ⟨by omega, by omega, by omega, by omega, by omega⟩)).mono ?_
    rintro e w1 ⟨p, rfl, W1, hp, B1⟩
    go_wp2_with fail
    go_loopg [8] ln1 (fun g i wr => ∃ (k : Nat) (v : V), g = ln1 - k ∧ k ≤ ln1 ∧ i = .int .i64 (k : Int) ∧ WAt TW wr p v ∧ Hid (v.c = n) ∧ v.l - v.d ≤ n ∧ v.l ≤ k ∧ Below w.heap.size w wr)
    case atStart => exact ⟨0, v0 n 0 0, rfl, Nat.zero_le _, rfl, W1, Lib.hid rfl, by simp [v0]; omega, by simp [v0], B1⟩
    case round =>
      obtain ⟨k, v, hg, hk, rfl, W, hc, hld, hlk, hBr⟩ := hrel
      clear W1 B1 hB
      by_cases hlt : k < ln1
      · obtain ⟨b, o, kk, nn, rfl, hr, ⟨hk0, hk1⟩, hnw, hbw⟩ := HA.out k hlt
        have hrA : wr.rangeAt b (o + k * 2) (actC kk nn) := rangeAt_below hr hBr (fun _ => hbw)
        obtain ⟨d', hd', hdr'⟩ := row_act
        replace hd' := Lib.hid hd'
        replace hrA := Lib.hid hrA
        have hpl := W.lt
        have hbs := hBr.size
        have ok := W.ok
        obtain ⟨g1, g2, g3, g4, g5, g6, g7, g8, g9⟩ := ok
        have W0 := Lib.hid W
        replace hnw := bounds_i64 hnw
        clear hr HA W
        go_upto_region 12 with (first
          | ((with_reducible show wpList _ _ _ (⟨_, .load 33 _, _, _, _, _⟩ :: _) _ _); refine wpList_load_mid rfl 33 _ rfl b (o + k * 2) rfl (actC kk nn) d' hrA.out hd'.out hdr' size_act ?_)
          | ((with_reducible show wpList _ _ _ (⟨_, .alloc _, _, _, _, _⟩ :: _) _ _); refine wpList_alloc_blk rfl 33 rfl actZ zero_act ?_; intro W10 B10 K10 S10; clear S10; have l10 := K10.lt)
          | ((with_reducible show wpList _ _ _ (⟨none, .store 33 _ _, _, _, _, _⟩ :: _) _ _); refine wpList_store_blk rfl 33 _ _ rfl wr.heap.size 33 actZ (actC kk nn) 2 rfl rfl K10 rfl (act_cellsN kk nn) size_act ?_; intro W11 T11 K11 S11; clear S11; have BS : Below wr.heap.size wr W11 := B10.trans (T11.below (by omega) (by simp)); have W := W0.out.below BS hpl)
          | (go_at_call 24; refine (done_at _ p v W).mono ?_; rintro e w2 ⟨rfl, rfl⟩)
          | (go_at_call 23; refine (last_at _ p v W).mono ?_; rintro e w3 ⟨rfl, rfl⟩))
        replace hg := Lib.hid hg
        have bs := BS.size
        have c0 := K11.cell 0
        have c1 := K11.cell 1
        simp only [actC, List.getElem?_cons_zero, List.getElem?_cons_succ] at c0 c1
        have hB1 : Below w.heap.size w w3 := hBr.trans (BS.mono hBr.size)
        clear K10 B10 T11 BS W0 hrA l10
        have hks : kk % 13 = 3 ∨ kk % 13 = 10 ∨ kk % 13 = 4 ∨ kk % 13 = 11 ∨ kk % 13 = 5 ∨ kk % 13 = 6 ∨ kk % 13 = 7 ∨ kk % 13 = 8 ∨ kk % 13 = 9 ∨ kk % 13 = 0 ∨ kk % 13 = 1 ∨ kk % 13 = 2 ∨ kk % 13 = 12 := by omega
        replace hks := Lib.hid hks
        go_upto_block 2 with fail
        go_cut [12, 13] from 29 to 173 (fun _ _ wx => ∃ v' : V, WAt TW wx p v' ∧ Hid (v'.c = n) ∧ v.d ≤ v'.d ∧ v.l ≤ v'.l ∧ v'.l - v'.d ≤ n ∧ v'.l ≤ (k : Int) + 1 ∧ Below w.heap.size w wx)
        case rest =>
          as_aux_lemma =>
            obtain ⟨v', W', HC, F1, F2, F3, F4, BX⟩ := hcut
            have g := W'.ok
            obtain ⟨q1, q2, q3, q4, q5, q6, q7, q8, q9⟩ := g
            have hf := free_within W'.ok (by rw [HC.out]; exact F3) (by omega)
            rw [HC.out] at hf
            have t1 : decide (v'.d < v.d) = false := decide_eq_false (by omega)
            have t2 : decide (v'.l < v.l) = false := decide_eq_false (by omega)
            have t3 : decide (v'.l < v'.d) = false := decide_eq_false (by omega)
            have t4 : decide (v'.l < v'.s) = false := decide_eq_false (by omega)
            have t5 : decide (v'.s < 0) = false := decide_eq_false (by omega)
            have t6 : decide (n < v'.l - v'.d) = false := decide_eq_false (by omega)
            go_wp2_with (first
              | (go_at_call 24; refine (done_at _ p v' W').mono ?_; rintro e wy ⟨rfl, rfl⟩)
              | (go_at_call 23; refine (last_at _ p v' W').mono ?_; rintro e wy ⟨rfl, rfl⟩)
              | (go_at_call 25; refine (sent_at _ p v' W').mono ?_; rintro e wy ⟨rfl, rfl⟩)
              | (go_at_call 28; refine (free_at _ p v' W').mono ?_; rintro e wy ⟨rfl, kf, rfl⟩; replace W' := W'.drewN kf; replace BX := below_drewN BX kf; rw [hf]))
            go_roundg (ln1 - (k + 1))
            case measure => have := hg.out; omega
            case rel => exact ⟨k + 1, v', rfl, by omega, by go_num, W', HC, F3, by omega, BX⟩
        replace hks := hks.out
        rcases hks with ek | ek | ek | ek | ek | ek | ek | ek | ek | ek | ek | ek | ek
        · as_aux_lemma =>
            go_wp2_with fail
            refine (ack_at _ p v W nn).mono ?_
            rintro e wa ⟨rfl, Wa, Ta⟩
            have ba := hB1.trans (Ta.below hB1.size (by simpa using hp))
            go_wp2_with fail
            refine (ack_at _ p _ Wa (v.d + 1)).mono ?_
            rintro e wb ⟨rfl, W', Tb⟩
            have BX := ba.trans (Tb.below ba.size (by simpa using hp))
            obtain ⟨v', hv'⟩ : ∃ x, x = (v.ack nn).ack (v.d + 1) := ⟨_, rfl⟩
            rw [← hv'] at W'
            have HC : Hid (v'.c = n) := Lib.hid (by rw [hv', ack_c, ack_c]; exact hc.out)
            have e1 := (v.ack nn).ack_d (v.d + 1)
            have e2 := v.ack_d nn
            have e3 : v'.l = v.l := by rw [hv', ack_l, ack_l]
            rw [← hv'] at e1
            have F1 : v.d ≤ v'.d := by omega
            have F2 : v.l ≤ v'.l := by omega
            have F3 : v'.l - v'.d ≤ n := by omega
            have F4 : v'.l ≤ (k : Int) + 1 := by omega
            clear e1 e2 e3
            clear hv'
            go_wp2_with fail
            all_goals (go_meet; exact ⟨v', W', HC, F1, F2, F3, F4, BX⟩)
        · as_aux_lemma =>
            go_wp2_with fail
            refine (ack_at _ p v W nn).mono ?_
            rintro e wa ⟨rfl, Wa, Ta⟩
            have ba := hB1.trans (Ta.below hB1.size (by simpa using hp))
            go_wp2_with fail
            refine (ack_at _ p _ Wa (v.d + 1)).mono ?_
            rintro e wb ⟨rfl, W', Tb⟩
            have BX := ba.trans (Tb.below ba.size (by simpa using hp))
            obtain ⟨v', hv'⟩ : ∃ x, x = (v.ack nn).ack (v.d + 1) := ⟨_, rfl⟩
            rw [← hv'] at W'
            have HC : Hid (v'.c = n) := Lib.hid (by rw [hv', ack_c, ack_c]; exact hc.out)
            have e1 := (v.ack nn).ack_d (v.d + 1)
            have e2 := v.ack_d nn
            have e3 : v'.l = v.l := by rw [hv', ack_l, ack_l]
            rw [← hv'] at e1
            have F1 : v.d ≤ v'.d := by omega
            have F2 : v.l ≤ v'.l := by omega
            have F3 : v'.l - v'.d ≤ n := by omega
            have F4 : v'.l ≤ (k : Int) + 1 := by omega
            clear e1 e2 e3
            clear hv'
            go_wp2_with fail
            all_goals (go_meet; exact ⟨v', W', HC, F1, F2, F3, F4, BX⟩)
        · as_aux_lemma =>
            go_wp2_with fail
            refine (grant_at _ p v W nn).mono ?_
            rintro e wa ⟨rfl, Wa, Ta⟩
            have ba := hB1.trans (Ta.below hB1.size (by simpa using hp))
            go_wp2_with fail
            refine (grant_at _ p _ Wa (v.l + 1)).mono ?_
            rintro e wb ⟨rfl, W', Tb⟩
            have BX := ba.trans (Tb.below ba.size (by simpa using hp))
            obtain ⟨v', hv'⟩ : ∃ x, x = (v.grant nn).grant (v.l + 1) := ⟨_, rfl⟩
            rw [← hv'] at W'
            have HC : Hid (v'.c = n) := Lib.hid (by rw [hv']; exact hc.out)
            have e1 : v'.d = v.d := by rw [hv']; rfl
            have e2 : v'.l = v.l := by rw [hv']; rfl
            have F1 : v.d ≤ v'.d := by omega
            have F2 : v.l ≤ v'.l := by omega
            have F3 : v'.l - v'.d ≤ n := by omega
            have F4 : v'.l ≤ (k : Int) + 1 := by omega
            clear e1 e2
            clear hv'
            go_wp2_with fail
            all_goals (go_meet; exact ⟨v', W', HC, F1, F2, F3, F4, BX⟩)
        · as_aux_lemma =>
            go_wp2_with fail
            refine (grant_at _ p v W nn).mono ?_
            rintro e wa ⟨rfl, Wa, Ta⟩
            have ba := hB1.trans (Ta.below hB1.size (by simpa using hp))
            go_wp2_with fail
            refine (grant_at _ p _ Wa (v.l + 1)).mono ?_
            rintro e wb ⟨rfl, W', Tb⟩
            have BX := ba.trans (Tb.below ba.size (by simpa using hp))
            obtain ⟨v', hv'⟩ : ∃ x, x = (v.grant nn).grant (v.l + 1) := ⟨_, rfl⟩
            rw [← hv'] at W'
            have HC : Hid (v'.c = n) := Lib.hid (by rw [hv']; exact hc.out)
            have e1 : v'.d = v.d := by rw [hv']; rfl
            have e2 : v'.l = v.l := by rw [hv']; rfl
            have F1 : v.d ≤ v'.d := by omega
            have F2 : v.l ≤ v'.l := by omega
            have F3 : v'.l - v'.d ≤ n := by omega
            have F4 : v'.l ≤ (k : Int) + 1 := by omega
            clear e1 e2
            clear hv'
            go_wp2_with fail
            all_goals (go_meet; exact ⟨v', W', HC, F1, F2, F3, F4, BX⟩)
        · as_aux_lemma =>
            by_cases hne : v.s < v.l ∧ v.s < v.m
            · have tn : v.nexts = true := decide_eq_true hne
              have tN : v.nextN = v.s + 1 := if_pos hne
              have hpu : v.next = { v with s := v.s + 1 } := if_pos hne
              go_wp2_with fail
              refine (next_at _ p v W).mono ?_
              rintro e wb ⟨rfl, W', Tb⟩
              have BX := hB1.trans (Tb.below hB1.size (by simpa using hp))
              rw [tn, tN]
              clear tn tN
              obtain ⟨v', hv'⟩ : ∃ x, x = v.next := ⟨_, rfl⟩
              rw [← hv'] at W'
              rw [hpu] at hv'
              have HC : Hid (v'.c = n) := Lib.hid (by rw [hv']; exact hc.out)
              have e1 : v'.d = v.d := by rw [hv']
              have e2 : v'.l = v.l := by rw [hv']
              have e3 : v'.m = v.m := by rw [hv']
              have F1 : v.d ≤ v'.d := by omega
              have F2 : v.l ≤ v'.l := by omega
              have F3 : v'.l - v'.d ≤ n := by omega
              have F4 : v'.l ≤ (k : Int) + 1 := by omega
              have u1 : decide (v'.m < v.s + 1) = false := decide_eq_false (by omega)
              have u2 : decide (v.l < v.s + 1) = false := decide_eq_false (by omega)
              have u3 : decide (v.s + 1 < 1) = false := decide_eq_false (by omega)
              clear e1 e2 e3 hpu
              clear hv'
              go_wp2_with (first
                | (go_at_call 26; refine (limit_at _ p v' W').mono ?_; rintro e wy ⟨rfl, rfl⟩)
                | (go_at_call 25; refine (sent_at _ p v' W').mono ?_; rintro e wy ⟨rfl, rfl⟩))
              all_goals (go_meet; exact ⟨v', W', HC, F1, F2, F3, F4, BX⟩)
            · have tn : v.nexts = false := decide_eq_false hne
              have tN : v.nextN = 0 := if_neg hne
              have hpu : v.next = v := if_neg hne
              go_wp2_with fail
              refine (next_at _ p v W).mono ?_
              rintro e wb ⟨rfl, W', Tb⟩
              have BX := hB1.trans (Tb.below hB1.size (by simpa using hp))
              rw [tn, tN]
              clear tn tN
              obtain ⟨v', hv'⟩ : ∃ x, x = v.next := ⟨_, rfl⟩
              rw [← hv'] at W'
              rw [hpu] at hv'
              have HC : Hid (v'.c = n) := Lib.hid (by rw [hv']; exact hc.out)
              have e1 : v'.d = v.d := by rw [hv']
              have e2 : v'.l = v.l := by rw [hv']
              have e3 : v'.m = v.m := by rw [hv']
              have e4 : v'.s = v.s := by rw [hv']
              have F1 : v.d ≤ v'.d := by omega
              have F2 : v.l ≤ v'.l := by omega
              have F3 : v'.l - v'.d ≤ n := by omega
              have F4 : v'.l ≤ (k : Int) + 1 := by omega
              have u1 : decide (v'.s < min v.l v'.m) = false := decide_eq_false (by omega)
              have u2 : ¬ (v'.s < v.l ∧ v'.s < v'.m) := by omega
              clear e1 e2 e3 e4 hpu
              clear hv'
              go_wp2_with (first
                | (go_at_call 26; refine (limit_at _ p v' W').mono ?_; rintro e wy ⟨rfl, rfl⟩)
                | (go_at_call 25; refine (sent_at _ p v' W').mono ?_; rintro e wy ⟨rfl, rfl⟩))
              all_goals (go_meet; exact ⟨v', W', HC, F1, F2, F3, F4, BX⟩)
        · as_aux_lemma =>
            by_cases hne : v.s < v.l ∧ v.s < v.m
            · have tn : v.nexts = true := decide_eq_true hne
              have tN : v.nextN = v.s + 1 := if_pos hne
              have hpu : v.next = { v with s := v.s + 1 } := if_pos hne
              go_wp2_with fail
              refine (next_at _ p v W).mono ?_
              rintro e wb ⟨rfl, W', Tb⟩
              have BX := hB1.trans (Tb.below hB1.size (by simpa using hp))
              rw [tn, tN]
              clear tn tN
              obtain ⟨v', hv'⟩ : ∃ x, x = v.next := ⟨_, rfl⟩
              rw [← hv'] at W'
              rw [hpu] at hv'
              have HC : Hid (v'.c = n) := Lib.hid (by rw [hv']; exact hc.out)
              have e1 : v'.d = v.d := by rw [hv']
              have e2 : v'.l = v.l := by rw [hv']
              have e3 : v'.m = v.m := by rw [hv']
              have F1 : v.d ≤ v'.d := by omega
              have F2 : v.l ≤ v'.l := by omega
              have F3 : v'.l - v'.d ≤ n := by omega
              have F4 : v'.l ≤ (k : Int) + 1 := by omega
              have u1 : decide (v'.m < v.s + 1) = false := decide_eq_false (by omega)
              have u2 : decide (v.l < v.s + 1) = false := decide_eq_false (by omega)
              have u3 : decide (v.s + 1 < 1) = false := decide_eq_false (by omega)
              clear e1 e2 e3 hpu
              clear hv'
              go_wp2_with (first
                | (go_at_call 26; refine (limit_at _ p v' W').mono ?_; rintro e wy ⟨rfl, rfl⟩)
                | (go_at_call 25; refine (sent_at _ p v' W').mono ?_; rintro e wy ⟨rfl, rfl⟩))
              all_goals (go_meet; exact ⟨v', W', HC, F1, F2, F3, F4, BX⟩)
            · have tn : v.nexts = false := decide_eq_false hne
              have tN : v.nextN = 0 := if_neg hne
              have hpu : v.next = v := if_neg hne
              go_wp2_with fail
              refine (next_at _ p v W).mono ?_
              rintro e wb ⟨rfl, W', Tb⟩
              have BX := hB1.trans (Tb.below hB1.size (by simpa using hp))
              rw [tn, tN]
              clear tn tN
              obtain ⟨v', hv'⟩ : ∃ x, x = v.next := ⟨_, rfl⟩
              rw [← hv'] at W'
              rw [hpu] at hv'
              have HC : Hid (v'.c = n) := Lib.hid (by rw [hv']; exact hc.out)
              have e1 : v'.d = v.d := by rw [hv']
              have e2 : v'.l = v.l := by rw [hv']
              have e3 : v'.m = v.m := by rw [hv']
              have e4 : v'.s = v.s := by rw [hv']
              have F1 : v.d ≤ v'.d := by omega
              have F2 : v.l ≤ v'.l := by omega
              have F3 : v'.l - v'.d ≤ n := by omega
              have F4 : v'.l ≤ (k : Int) + 1 := by omega
              have u1 : decide (v'.s < min v.l v'.m) = false := decide_eq_false (by omega)
              have u2 : ¬ (v'.s < v.l ∧ v'.s < v'.m) := by omega
              clear e1 e2 e3 e4 hpu
              clear hv'
              go_wp2_with (first
                | (go_at_call 26; refine (limit_at _ p v' W').mono ?_; rintro e wy ⟨rfl, rfl⟩)
                | (go_at_call 25; refine (sent_at _ p v' W').mono ?_; rintro e wy ⟨rfl, rfl⟩))
              all_goals (go_meet; exact ⟨v', W', HC, F1, F2, F3, F4, BX⟩)
        · as_aux_lemma =>
            by_cases hne : v.s < v.l ∧ v.s < v.m
            · have tn : v.nexts = true := decide_eq_true hne
              have tN : v.nextN = v.s + 1 := if_pos hne
              have hpu : v.next = { v with s := v.s + 1 } := if_pos hne
              go_wp2_with fail
              refine (next_at _ p v W).mono ?_
              rintro e wb ⟨rfl, W', Tb⟩
              have BX := hB1.trans (Tb.below hB1.size (by simpa using hp))
              rw [tn, tN]
              clear tn tN
              obtain ⟨v', hv'⟩ : ∃ x, x = v.next := ⟨_, rfl⟩
              rw [← hv'] at W'
              rw [hpu] at hv'
              have HC : Hid (v'.c = n) := Lib.hid (by rw [hv']; exact hc.out)
              have e1 : v'.d = v.d := by rw [hv']
              have e2 : v'.l = v.l := by rw [hv']
              have e3 : v'.m = v.m := by rw [hv']
              have F1 : v.d ≤ v'.d := by omega
              have F2 : v.l ≤ v'.l := by omega
              have F3 : v'.l - v'.d ≤ n := by omega
              have F4 : v'.l ≤ (k : Int) + 1 := by omega
              have u1 : decide (v'.m < v.s + 1) = false := decide_eq_false (by omega)
              have u2 : decide (v.l < v.s + 1) = false := decide_eq_false (by omega)
              have u3 : decide (v.s + 1 < 1) = false := decide_eq_false (by omega)
              clear e1 e2 e3 hpu
              clear hv'
              go_wp2_with (first
                | (go_at_call 26; refine (limit_at _ p v' W').mono ?_; rintro e wy ⟨rfl, rfl⟩)
                | (go_at_call 25; refine (sent_at _ p v' W').mono ?_; rintro e wy ⟨rfl, rfl⟩))
              all_goals (go_meet; exact ⟨v', W', HC, F1, F2, F3, F4, BX⟩)
            · have tn : v.nexts = false := decide_eq_false hne
              have tN : v.nextN = 0 := if_neg hne
              have hpu : v.next = v := if_neg hne
              go_wp2_with fail
              refine (next_at _ p v W).mono ?_
              rintro e wb ⟨rfl, W', Tb⟩
              have BX := hB1.trans (Tb.below hB1.size (by simpa using hp))
              rw [tn, tN]
              clear tn tN
              obtain ⟨v', hv'⟩ : ∃ x, x = v.next := ⟨_, rfl⟩
              rw [← hv'] at W'
              rw [hpu] at hv'
              have HC : Hid (v'.c = n) := Lib.hid (by rw [hv']; exact hc.out)
              have e1 : v'.d = v.d := by rw [hv']
              have e2 : v'.l = v.l := by rw [hv']
              have e3 : v'.m = v.m := by rw [hv']
              have e4 : v'.s = v.s := by rw [hv']
              have F1 : v.d ≤ v'.d := by omega
              have F2 : v.l ≤ v'.l := by omega
              have F3 : v'.l - v'.d ≤ n := by omega
              have F4 : v'.l ≤ (k : Int) + 1 := by omega
              have u1 : decide (v'.s < min v.l v'.m) = false := decide_eq_false (by omega)
              have u2 : ¬ (v'.s < v.l ∧ v'.s < v'.m) := by omega
              clear e1 e2 e3 e4 hpu
              clear hv'
              go_wp2_with (first
                | (go_at_call 26; refine (limit_at _ p v' W').mono ?_; rintro e wy ⟨rfl, rfl⟩)
                | (go_at_call 25; refine (sent_at _ p v' W').mono ?_; rintro e wy ⟨rfl, rfl⟩))
              all_goals (go_meet; exact ⟨v', W', HC, F1, F2, F3, F4, BX⟩)
        · as_aux_lemma =>
            go_wp2_with fail
            refine (back_at _ p v W nn).mono ?_
            rintro e wb ⟨rfl, W', Tb⟩
            have BX := hB1.trans (Tb.below hB1.size (by simpa using hp))
            obtain ⟨v', hv'⟩ : ∃ x, x = v.back nn := ⟨_, rfl⟩
            rw [← hv'] at W'
            have HC : Hid (v'.c = n) := Lib.hid (by rw [hv']; exact hc.out)
            have e1 : v'.d = v.d := by rw [hv']; rfl
            have e2 : v'.l = v.l := by rw [hv']; rfl
            have F1 : v.d ≤ v'.d := by omega
            have F2 : v.l ≤ v'.l := by omega
            have F3 : v'.l - v'.d ≤ n := by omega
            have F4 : v'.l ≤ (k : Int) + 1 := by omega
            clear e1 e2
            clear hv'
            go_wp2_with fail
            all_goals (go_meet; exact ⟨v', W', HC, F1, F2, F3, F4, BX⟩)
        · as_aux_lemma =>
            go_wp2_with fail
            refine (renew_at _ p v W).mono ?_
            rintro e wb ⟨rfl, W', Tb⟩
            have BX := hB1.trans (Tb.below hB1.size (by simpa using hp))
            obtain ⟨v', hv'⟩ : ∃ x, x = v.renew := ⟨_, rfl⟩
            rw [← hv'] at W'
            have HC : Hid (v'.c = n) := Lib.hid (by rw [hv']; exact hc.out)
            have e1 : v'.d = v.d := by rw [hv']; rfl
            have e2 : v'.l = v.l := by rw [hv']; rfl
            have F1 : v.d ≤ v'.d := by omega
            have F2 : v.l ≤ v'.l := by omega
            have F3 : v'.l - v'.d ≤ n := by omega
            have F4 : v'.l ≤ (k : Int) + 1 := by omega
            clear e1 e2
            clear hv'
            go_wp2_with fail
            all_goals (go_meet; exact ⟨v', W', HC, F1, F2, F3, F4, BX⟩)
        · as_aux_lemma =>
            have hpb : v.pushes = decide (v.l - v.d < n) := by
              have := free_within W.ok (by rw [hc.out]; exact hld) (by omega)
              rw [hc.out] at this
              unfold V.pushes
              rw [this]
              exact decide_eq_decide.2 (by omega)
            by_cases hfu : v.l - v.d < n
            · have t0 : decide (v.l - v.d < n) = true := decide_eq_true hfu
              have tp : v.pushes = true := by rw [hpb, t0]
              have hpu : v.push = { v with l := v.l + 1 } := if_pos (of_decide_eq_true tp)
              clear hpb
              go_wp2_with fail
              refine (push_at _ p v W).mono ?_
              rintro e wb ⟨rfl, W', Tb⟩
              have BX := hB1.trans (Tb.below hB1.size (by simpa using hp))
              rw [tp]
              clear tp
              obtain ⟨v', hv'⟩ : ∃ x, x = v.push := ⟨_, rfl⟩
              rw [← hv'] at W'
              rw [hpu] at hv'
              have HC : Hid (v'.c = n) := Lib.hid (by rw [hv']; exact hc.out)
              have e1 : v'.d = v.d := by rw [hv']
              have e2 : v'.l = v.l + 1 := by rw [hv']
              have F1 : v.d ≤ v'.d := by omega
              have F2 : v.l ≤ v'.l := by omega
              have F3 : v'.l - v'.d ≤ n := by omega
              have F4 : v'.l ≤ (k : Int) + 1 := by omega
              clear e1 e2 hpu
              clear hv'
              go_wp2_with fail
              all_goals (go_meet; exact ⟨v', W', HC, F1, F2, F3, F4, BX⟩)
            · have t0 : decide (v.l - v.d < n) = false := decide_eq_false hfu
              have tp : v.pushes = false := by rw [hpb, t0]
              have hpu : v.push = v := if_neg (of_decide_eq_false tp)
              clear hpb
              go_wp2_with fail
              refine (push_at _ p v W).mono ?_
              rintro e wb ⟨rfl, W', Tb⟩
              have BX := hB1.trans (Tb.below hB1.size (by simpa using hp))
              rw [tp]
              clear tp
              obtain ⟨v', hv'⟩ : ∃ x, x = v.push := ⟨_, rfl⟩
              rw [← hv'] at W'
              rw [hpu] at hv'
              have HC : Hid (v'.c = n) := Lib.hid (by rw [hv']; exact hc.out)
              have e1 : v'.d = v.d := by rw [hv']
              have e2 : v'.l = v.l := by rw [hv']
              have F1 : v.d ≤ v'.d := by omega
              have F2 : v.l ≤ v'.l := by omega
              have F3 : v'.l - v'.d ≤ n := by omega
              have F4 : v'.l ≤ (k : Int) + 1 := by omega
              clear e1 e2 hpu
              clear hv'
              go_wp2_with fail
              all_goals (go_meet; exact ⟨v', W', HC, F1, F2, F3, F4, BX⟩)
        · as_aux_lemma =>
            have hpb : v.pushes = decide (v.l - v.d < n) := by
              have := free_within W.ok (by rw [hc.out]; exact hld) (by omega)
              rw [hc.out] at this
              unfold V.pushes
              rw [this]
              exact decide_eq_decide.2 (by omega)
            by_cases hfu : v.l - v.d < n
            · have t0 : decide (v.l - v.d < n) = true := decide_eq_true hfu
              have tp : v.pushes = true := by rw [hpb, t0]
              have hpu : v.push = { v with l := v.l + 1 } := if_pos (of_decide_eq_true tp)
              clear hpb
              go_wp2_with fail
              refine (push_at _ p v W).mono ?_
              rintro e wb ⟨rfl, W', Tb⟩
              have BX := hB1.trans (Tb.below hB1.size (by simpa using hp))
              rw [tp]
              clear tp
              obtain ⟨v', hv'⟩ : ∃ x, x = v.push := ⟨_, rfl⟩
              rw [← hv'] at W'
              rw [hpu] at hv'
              have HC : Hid (v'.c = n) := Lib.hid (by rw [hv']; exact hc.out)
              have e1 : v'.d = v.d := by rw [hv']
              have e2 : v'.l = v.l + 1 := by rw [hv']
              have F1 : v.d ≤ v'.d := by omega
              have F2 : v.l ≤ v'.l := by omega
              have F3 : v'.l - v'.d ≤ n := by omega
              have F4 : v'.l ≤ (k : Int) + 1 := by omega
              clear e1 e2 hpu
              clear hv'
              go_wp2_with fail
              all_goals (go_meet; exact ⟨v', W', HC, F1, F2, F3, F4, BX⟩)
            · have t0 : decide (v.l - v.d < n) = false := decide_eq_false hfu
              have tp : v.pushes = false := by rw [hpb, t0]
              have hpu : v.push = v := if_neg (of_decide_eq_false tp)
              clear hpb
              go_wp2_with fail
              refine (push_at _ p v W).mono ?_
              rintro e wb ⟨rfl, W', Tb⟩
              have BX := hB1.trans (Tb.below hB1.size (by simpa using hp))
              rw [tp]
              clear tp
              obtain ⟨v', hv'⟩ : ∃ x, x = v.push := ⟨_, rfl⟩
              rw [← hv'] at W'
              rw [hpu] at hv'
              have HC : Hid (v'.c = n) := Lib.hid (by rw [hv']; exact hc.out)
              have e1 : v'.d = v.d := by rw [hv']
              have e2 : v'.l = v.l := by rw [hv']
              have F1 : v.d ≤ v'.d := by omega
              have F2 : v.l ≤ v'.l := by omega
              have F3 : v'.l - v'.d ≤ n := by omega
              have F4 : v'.l ≤ (k : Int) + 1 := by omega
              clear e1 e2 hpu
              clear hv'
              go_wp2_with fail
              all_goals (go_meet; exact ⟨v', W', HC, F1, F2, F3, F4, BX⟩)
        · as_aux_lemma =>
            have hpb : v.pushes = decide (v.l - v.d < n) := by
              have := free_within W.ok (by rw [hc.out]; exact hld) (by omega)
              rw [hc.out] at this
              unfold V.pushes
              rw [this]
              exact decide_eq_decide.2 (by omega)
            by_cases hfu : v.l - v.d < n
            · have t0 : decide (v.l - v.d < n) = true := decide_eq_true hfu
              have tp : v.pushes = true := by rw [hpb, t0]
              have hpu : v.push = { v with l := v.l + 1 } := if_pos (of_decide_eq_true tp)
              clear hpb
              go_wp2_with fail
              refine (push_at _ p v W).mono ?_
              rintro e wb ⟨rfl, W', Tb⟩
              have BX := hB1.trans (Tb.below hB1.size (by simpa using hp))
              rw [tp]
              clear tp
              obtain ⟨v', hv'⟩ : ∃ x, x = v.push := ⟨_, rfl⟩
              rw [← hv'] at W'
              rw [hpu] at hv'
              have HC : Hid (v'.c = n) := Lib.hid (by rw [hv']; exact hc.out)
              have e1 : v'.d = v.d := by rw [hv']
              have e2 : v'.l = v.l + 1 := by rw [hv']
              have F1 : v.d ≤ v'.d := by omega
              have F2 : v.l ≤ v'.l := by omega
              have F3 : v'.l - v'.d ≤ n := by omega
              have F4 : v'.l ≤ (k : Int) + 1 := by omega
              clear e1 e2 hpu
              clear hv'
              go_wp2_with fail
              all_goals (go_meet; exact ⟨v', W', HC, F1, F2, F3, F4, BX⟩)
            · have t0 : decide (v.l - v.d < n) = false := decide_eq_false hfu
              have tp : v.pushes = false := by rw [hpb, t0]
              have hpu : v.push = v := if_neg (of_decide_eq_false tp)
              clear hpb
              go_wp2_with fail
              refine (push_at _ p v W).mono ?_
              rintro e wb ⟨rfl, W', Tb⟩
              have BX := hB1.trans (Tb.below hB1.size (by simpa using hp))
              rw [tp]
              clear tp
              obtain ⟨v', hv'⟩ : ∃ x, x = v.push := ⟨_, rfl⟩
              rw [← hv'] at W'
              rw [hpu] at hv'
              have HC : Hid (v'.c = n) := Lib.hid (by rw [hv']; exact hc.out)
              have e1 : v'.d = v.d := by rw [hv']
              have e2 : v'.l = v.l := by rw [hv']
              have F1 : v.d ≤ v'.d := by omega
              have F2 : v.l ≤ v'.l := by omega
              have F3 : v'.l - v'.d ≤ n := by omega
              have F4 : v'.l ≤ (k : Int) + 1 := by omega
              clear e1 e2 hpu
              clear hv'
              go_wp2_with fail
              all_goals (go_meet; exact ⟨v', W', HC, F1, F2, F3, F4, BX⟩)
        · as_aux_lemma =>
            have hpb : v.pushes = decide (v.l - v.d < n) := by
              have := free_within W.ok (by rw [hc.out]; exact hld) (by omega)
              rw [hc.out] at this
              unfold V.pushes
              rw [this]
              exact decide_eq_decide.2 (by omega)
            by_cases hfu : v.l - v.d < n
            · have t0 : decide (v.l - v.d < n) = true := decide_eq_true hfu
              have tp : v.pushes = true := by rw [hpb, t0]
              have hpu : v.push = { v with l := v.l + 1 } := if_pos (of_decide_eq_true tp)
              clear hpb
              go_wp2_with fail
              refine (push_at _ p v W).mono ?_
              rintro e wb ⟨rfl, W', Tb⟩
              have BX := hB1.trans (Tb.below hB1.size (by simpa using hp))
              rw [tp]
              clear tp
              obtain ⟨v', hv'⟩ : ∃ x, x = v.push := ⟨_, rfl⟩
              rw [← hv'] at W'
              rw [hpu] at hv'
              have HC : Hid (v'.c = n) := Lib.hid (by rw [hv']; exact hc.out)
              have e1 : v'.d = v.d := by rw [hv']
              have e2 : v'.l = v.l + 1 := by rw [hv']
              have F1 : v.d ≤ v'.d := by omega
              have F2 : v.l ≤ v'.l := by omega
              have F3 : v'.l - v'.d ≤ n := by omega
              have F4 : v'.l ≤ (k : Int) + 1 := by omega
              clear e1 e2 hpu
              clear hv'
              go_wp2_with fail
              all_goals (go_meet; exact ⟨v', W', HC, F1, F2, F3, F4, BX⟩)
            · have t0 : decide (v.l - v.d < n) = false := decide_eq_false hfu
              have tp : v.pushes = false := by rw [hpb, t0]
              have hpu : v.push = v := if_neg (of_decide_eq_false tp)
              clear hpb
              go_wp2_with fail
              refine (push_at _ p v W).mono ?_
              rintro e wb ⟨rfl, W', Tb⟩
              have BX := hB1.trans (Tb.below hB1.size (by simpa using hp))
              rw [tp]
              clear tp
              obtain ⟨v', hv'⟩ : ∃ x, x = v.push := ⟨_, rfl⟩
              rw [← hv'] at W'
              rw [hpu] at hv'
              have HC : Hid (v'.c = n) := Lib.hid (by rw [hv']; exact hc.out)
              have e1 : v'.d = v.d := by rw [hv']
              have e2 : v'.l = v.l := by rw [hv']
              have F1 : v.d ≤ v'.d := by omega
              have F2 : v.l ≤ v'.l := by omega
              have F3 : v'.l - v'.d ≤ n := by omega
              have F4 : v'.l ≤ (k : Int) + 1 := by omega
              clear e1 e2 hpu
              clear hv'
              go_wp2_with fail
              all_goals (go_meet; exact ⟨v', W', HC, F1, F2, F3, F4, BX⟩)
      · have hkk : k = ln1 := by omega
        subst hkk
        go_wp2_with (go_at_call 6; refine (framed_any _).mono ?_; rintro e w9 ⟨rfl, hn⟩)
        go_ret
        exact ⟨rfl, hBr.trans (hn.mono hBr.size)⟩

/-! ### The row. -/
set_option maxRecDepth 100000 in
theorem lifted (os : Os) (started : os.Started) (H : Type) (enc : TypeId × Value → H) :
    ReturnsInHanded {} Try.checked os 5 .any (Rows.windowsBoundsSpec.pre6 enc Try.prog Try.f5 Rows.windowsBoundsRow.domain false) (Rows.windowsBoundsSpec.post enc Try.prog Try.f5 false true false false) := by
  refine returnsInHanded_of_change (C := Try.checked) own started (by kernel_rfl) Try.func5
    (ChangeSpec.witness6 (enc := enc) (C := Try.checked) false ⟨#[], #[.int .u8 0, .slice none 0 0], []⟩ 8 (by kernel_rfl) (by kernel_rfl) (by kernel_rfl) (by kernel_rfl)) ?_
  intro W base args ds gs before hval0 hW hcnd _
  have hval : ∀ (j : Nat) t v, Try.f5.params[j]? = some t → args[j]? = some v → Value.okWide Try.prog W .any base t v := hval0
  have hW' := hW
  obtain ⟨p, q, hA0, hV, rfl, hfz, hnd⟩ := hW
  have hA : DataW.TrodAll enc Try.prog W 0 (fun _ => true) true Try.f5.params.toList args.toList ds p := hA0
  rw [Try.params5] at hA hval
  obtain ⟨v0, vs0, d0, ds0, p0, q0, hargs, rfl, rfl, h0, r0⟩ := trodAll_cons hA
  obtain ⟨v1, vs1, d1, ds1, p1, q1, rfl, rfl, rfl, h1, r1⟩ := trodAll_cons r0
  obtain ⟨rfl, rfl, rfl⟩ := trodAll_nil r1
  obtain rfl : args = #[v0, v1] := by cases args; simp_all
  obtain ⟨rfl, rfl⟩ := trodVars_none hV
  have k0 := h0
  have lt0 : ∀ x ∈ p0, x.block < W.heap.size := by obtain ⟨m, hm⟩ := k0; exact DataW.trod_lt m _ _ _ hm
  obtain ⟨a0, rfl, rfl, rfl, w0⟩ := open_int Try.underlying5 (hval 0 5 v0 rfl rfl) h0
  have k1 := h1
  have lt1 : ∀ x ∈ p1, x.block < W.heap.size := by obtain ⟨m, hm⟩ := k1; exact DataW.trod_lt m _ _ _ hm
  have f1 := fits_of_Trod sh1 h1; obtain ⟨ao1, ln1, cp1, rfl⟩ := okWide_slice Try.underlying23 (hval 1 23 v1 rfl rfl)
  clear hA0 hval0
  refine (walk W a0 ao1 ln1 cp1 w0 f1).mono fun e W' ⟨he, bel⟩ => ?_
  subst he
  exact ⟨_, rfl, _, _, _, [], _, [], hW', trodAll_mk1 (shut_bool Try.underlying4 _), (trodAll_cons_mk (Below.trod laidOut (by kernel_rfl) (of_decide_eq_true (by kernel_rfl)) k0 bel lt0) (trodAll_cons_mk (Below.trod laidOut (by kernel_rfl) (of_decide_eq_true (by kernel_rfl)) k1 bel lt1) trodAll_mk0)), rfl, bel.frame _, fun h => by cases h⟩

theorem over : Rows.windowsBoundsRow.holds Try.pinned (OpenSpec.ofChange Rows.windowsBoundsSpec) :=
  OpenClaim.holds_of_wide 5 Try.f5 rfl rfl rfl rfl rfl rfl rfl ⟨rfl, rfl, rfl, rfl, rfl⟩ rfl rfl rfl rfl rfl (by kernel_rfl) Try.func5 (by kernel_rfl)
    (of_decide_eq_true (by kernel_rfl)) (by unfold Func.isWrapper; first | (rw [if_pos (by decide +kernel)]; kernel_rfl) | (rw [if_neg (by decide +kernel)]; exact ⟨rfl, rfl⟩))
    (fun os started H enc _ => lifted os started H enc)

/-- THE STATEMENT. -/
theorem proved : Rows.WindowsBoundsSaid := over
#print axioms proved
end Go.Proofs.Ytmjbgjdiacdacaa.windowsBounds
