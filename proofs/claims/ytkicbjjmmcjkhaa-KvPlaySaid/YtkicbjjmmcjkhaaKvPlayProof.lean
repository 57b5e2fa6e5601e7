/-
  Law KvPlay answers true for every list of acts, and leaves them as they were: whatever is applied, and looked at, each result, and all keys, are the document's; what a copy does makes no difference. Conditions: none.
-/
import Derived.Test.YtkicbjjmmcjkhaaRows
import Derived.WalkKit
import Derived.ProofKit
import Derived.OpenShut
import Derived.ShutString
import Derived.ChangeOld
import Derived.Below
import Derived.Test.YtkicbjjmmcjkhaaTyped
import Derived.Test.YtkicbjjmmcjkhaaKvB
import Derived.Deep.DeepCutAuto
import Derived.Deep.CutBlock
import Derived.Deep.RegionHeld3
open Go.Proofs.Ytkicbjjmmcjkhaa.Mem Go.Proofs.Ytkicbjjmmcjkhaa.Ops Go.Proofs.Ytkicbjjmmcjkhaa.Kv
namespace Go.Proofs.Ytkicbjjmmcjkhaa.kvPlay
open Go.ChangeShapes Go.WideShapes Go.ChangeAt Go.RowKit
open Go.ChangeMaps (open_string shut_string)
open Go.Proofs.Ytkicbjjmmcjkhaa.Mem
set_option linter.unusedVariables false

theorem own : ownKnob Try.prog.godebug = none := by kernel_rfl
theorem laidOut : laidOutB Try.prog = true := by kernel_rfl

def ty0 : Ty := .slice actTy
abbrev TA : TypeId := 31
theorem zero_act : ∀ w, (zeroValue TA).run Try.prog w = .ok (.agg (A.mk 0 0 zeroO).cells.toArray) w := fun w => by kernel_rfl
theorem info_actN : (Try.prog.info? TA).map (·.size) = some 6 := by kernel_rfl
theorem row_act : ∃ d, Try.prog.underlying TA = some d ∧ d.isRow = true := ⟨_, Try.underlying31, rfl⟩
structure ACells (w : World) (b : Nat) (a : A) : Prop where
  c0 : w.cell? ⟨b, 0, none⟩ = some (.int .u8 a.kind)
  c1 : w.cell? ⟨b, 1, none⟩ = some (.int .i64 a.idx)
  c3 : w.cell? ⟨b, 3, none⟩ = some (.string ⟨a.op.key.toArray⟩)
  op : ldRun Try.prog TO w (.pointer (some ⟨b, 2, none⟩)) = .ok (.value (.agg a.op.cells.toArray)) w
theorem acells {w : World} {b : Nat} {a : A} (h : Blk w b TA a.cells) : ACells w b a := by
  have hr : w.rangeAt b 2 a.op.cells := by simpa using range_op (off := 0) h.rangeAll
  refine ⟨h.cell 0, h.cell 1, h.cell 3, ?_⟩
  have := ldRun_row w b 2 TO 4 _ Try.underlying29 rfl info_op (hasRow_of_range (n := 4) hr rfl)
  rw [row_of_range (n := 4) hr rfl] at this
  exact this
theorem cso_lt {w : World} {base : Nat} {v : Value} {L : List C} (h : CsO w base v L) : ∀ j, v.ownBlock = some j → j < w.heap.size := fun j hj => (World.ownsRow.lt h j hj).2
attribute [local go_sem ↓] execLoadO execLoadR

theorem sh0 : tyOf Try.prog 20 22 = some ty0 := by kernel_rfl

/-! ### The walk: the law answers true, and writes nothing that was there. -/
set_option maxRecDepth 100000
set_option maxHeartbeats 4000000
theorem walk (w : World) (ao0 : Option Addr) (ln0 cp0 : Nat) (f0 : Fits w ty0 [.slice ao0 ln0 cp0]) :
    Calls Try.prog 3 #[.slice ao0 ln0 cp0] w fun e w' => e = .returned (.bool true) ∧ Below w.heap.size w w' := by
  have hB0 := Below.refl w.heap.size w
  obtain ⟨hlc, hcp, g, hA, hAk⟩ := acts_fits f0
  clear f0
  have hl63 : (ln0 : Int) ≤ 9223372036854775807 := by omega
  have GR := Lib.hid (greatL_any w ao0 ln0 cp0 g hA 100 hl63)
  cases hgr : greatL g ln0 100 with
  | true =>
    rw [hgr] at GR
    clear hgr hA hAk
    go_enter Try.func3, Try.ntmps3
    go_wp2_with (first
      | (go_at_call 6; refine GR.out.mono ?_; rintro e w3 ⟨rfl, hn⟩; replace hB0 := bel hB0 hn; clear hn)
      | (go_at_call 7; refine (stored_any _).mono ?_; rintro e w7 ⟨rfl, hn⟩; replace hB0 := bel hB0 hn; clear hn))
    go_ret
    exact ⟨rfl, hB0⟩
  | false =>
    rw [hgr] at GR
    have hGk : ∀ i, i < ln0 → (g i).op.key.length ≤ 1000000 := fun i hi => by
      unfold greatL at hgr
      simp only [Bool.or_eq_false_iff] at hgr
      have := (great_no (greatF_no hgr.1 hi)).1
      omega
    replace hGk := Lib.hid hGk
    have h100 : ln0 ≤ 100 := by
      unfold greatL at hgr
      simp only [Bool.or_eq_false_iff, decide_eq_false_iff_not] at hgr
      omega
    clear hgr
    replace hA := Lib.hid hA
    replace hAk := Lib.hid hAk
    obtain ⟨d, hd, hdr⟩ := row_act
    replace hd := Lib.hid hd
    obtain ⟨d1, hd1, hdr1⟩ := row_op
    replace hd1 := Lib.hid hd1
    go_enter Try.func3, Try.ntmps3
    go_wp2_with (first
      | (go_at_call 6; refine GR.out.mono ?_; rintro e w3 ⟨rfl, hn⟩; replace hB0 := bel hB0 hn; clear hn)
      | (go_at_call 8; refine (new_any _).mono ?_; rintro e w4 ⟨p, m, rfl, hS, hp, hm, hn⟩; have hwp := Nat.le_trans hB0.size hp; have hwm := Nat.le_trans hB0.size hm; replace hB0 := bel hB0 hn; clear hn hp hm))
    go_loopg [4, 5, 6] (ln0 + 1) (fun gk v nx i wr => ∃ (k : Nat) (L : List C) (n : Int), gk = ln0 + 1 - k ∧ k ≤ ln0 ∧ i = .int .i64 (k : Int) ∧ nx = .int .i64 n ∧ StAt wr p m L ∧ CsO wr w.heap.size v L ∧ Hid (∀ j, v.ownBlock = some j → j ≠ m) ∧ Below w.heap.size w wr ∧ 1 ≤ n ∧ n ≤ k + 1 ∧ L.length ≤ k)
    case atStart => exact ⟨0, [], 1, rfl, Nat.zero_le _, rfl, rfl, hS, CsO.nil _ _, Lib.hid (fun j hj => by simp [Value.ownBlock] at hj), hB0, by omega, by omega, Nat.le_refl _⟩
    case round =>
      clear hS hB0
      obtain ⟨k, L, n, hg, hk, rfl, rfl, ST, MM, vm, hB, hn1, hn2, hLk⟩ := hrel
      replace hg := Lib.hid hg
      obtain ⟨hpl, hml⟩ := ST.lt
      by_cases hlt : k < ln0
      · obtain ⟨b, off, rfl, hb, hr⟩ := (fun hb => (hA.out k hlt).imp fun b h => h) hB
        have hr2 : wr.rangeAt b (off + k * 6) (g k).cells := rangeAt_below hr hB (fun _ => hb)
        have hk9 := hAk.out k hlt
        have hk300 := hGk.out k hlt
        clear hr hA hAk
        generalize g k = y at *
        replace hr2 := Lib.hid hr2
        replace ST := Lib.hid ST
        replace MM := Lib.hid MM
        have hkk : (k : Int) < (ln0 : Int) := by omega
        go_upto_region 11 with (first
          | ((with_reducible show wpList _ _ _ (⟨some 25, .load TA _, _, _, _, _⟩ :: _) _ _); refine wpList_load_mid rfl TA _ rfl b (off + k * 6) rfl y.cells d hr2.out hd.out hdr info_actN ?_)
          | ((with_reducible show wpList _ _ _ (⟨some 7, .alloc _, _, _, _, _⟩ :: _) _ _); refine wpList_alloc_blk rfl TA rfl _ zero_act ?_; intro W5 hn K5 S5; clear S5; replace ST := Lib.hid (ST.out.keep (Turned.of_below hn) (by simp) (by simp)); have mltw := Lib.hid (cso_lt MM.out); replace MM := Lib.hid (MM.out.below hn); replace hB := bel hB hn; clear hn)
          | ((with_reducible show wpList _ _ _ (⟨none, .store TA (.tmp 7) _, _, _, _, _⟩ :: _) _ _); refine wpList_store_blk rfl TA _ _ rfl wr.heap.size TA (A.mk 0 0 zeroO).cells y.cells 6 rfl rfl K5 rfl (A.cellsN _) info_actN ?_; intro W6 T6 K6 S6; clear S6; replace ST := Lib.hid (ST.out.keep T6 (by simp; omega) (by simp; omega)); replace MM := Lib.hid (MM.out.turned T6 (fun j hj e => by have := mltw.out j e; simp at hj; omega)); replace hB := hB.trans (T6.below hB.size (by simp; have := hB.size; omega)); clear K5 T6)
          | (go_at_call 9; refine (copy_at _ p m L ST.out).mono ?_; rintro e W7 ⟨q, r, rfl, SC, hq, hr, hn⟩; have hx := K6.lt; replace ST := Lib.hid (ST.out.keep (Turned.of_below hn) (by simp) (by simp)); replace MM := Lib.hid (MM.out.below hn); have K := K6.below hn hx; have sx := hn.size; replace hB := bel hB hn; have SC0 := SC.lt; replace SC := Lib.hid SC; clear hn K6))
        obtain ⟨c0, c1, c3, cop⟩ := acells K
        replace K := Lib.hid K
        have hx6 := hx
        replace hx := Nat.lt_of_lt_of_le hx sx
        have hwx := Nat.lt_of_lt_of_le hml (Nat.le_refl _)
        clear hr2
        have mlt := Lib.hid (fun j (e : _ = some j) => (mltw.out j e : j < wr.heap.size))
        have hwr : w.heap.size ≤ wr.heap.size := by omega
        generalize wr.heap.size = x at *
        obtain ⟨W, rfl⟩ : ∃ W : World, W = W7 := ⟨_, rfl⟩
        have hks : y.kind % 9 = 7 ∨ y.kind % 9 = 8 ∨ y.kind % 9 = 6 ∨ y.kind % 9 = 0 ∨ y.kind % 9 = 1 ∨ y.kind % 9 = 2 ∨ y.kind % 9 = 3 ∨ y.kind % 9 = 4 ∨ y.kind % 9 = 5 := by omega
        rcases hks with ek | ek | ek | ek | ek | ek | ek | ek | ek
        · as_aux_lemma =>
            go_wp2_with fail
            have LQ := Lib.hid ST
            obtain ⟨S, s0, sK, sB⟩ : ∃ S : World → Prop, S W.drew ∧ (∀ W', S W' → Below W.heap.size W W') ∧ (∀ W1 W2, S W1 → Below W1.heap.size W1 W2 → S W2) := ⟨fun W' => Below W.heap.size W W', ⟨rfl, rfl, rfl, Nat.le_refl _, fun _ _ => rfl⟩, fun _ h => h, fun _ _ h hb => bel h hb⟩
            haveI : Nonempty (Wd S) := ⟨⟨_, s0⟩⟩
            have g1 : ∀ z : Wd S, z.w.cell? ⟨x, 1, none⟩ = some (.int .i64 y.idx) := fun z => ((sK _ z.h).cell (p := ⟨x, 1, none⟩) hx).trans c1
            have g3 : ∀ z : Wd S, z.w.cell? ⟨x, 3, none⟩ = some (.string ⟨y.op.key.toArray⟩) := fun z => ((sK _ z.h).cell (p := ⟨x, 3, none⟩) hx).trans c3
            have LP := Lib.hid (fun z : Wd S => look_at z.w p m L (ST.out.keep (Turned.of_below (sK _ z.h)) (by simp) (by simp)) y.op.key hk300 y.idx)
            have LR := Lib.hid (fun z : Wd S => rlook_any z.w _ _ L (MM.out.below (sK _ z.h)) y.op.key y.idx (by omega))
            unfold LookP at LR
            have e1 := neq_res (Kv.look L y.op.key y.idx)
            have e2 := fun op x' y' => guard_res op x' y' (Kv.look L y.op.key y.idx)
            generalize Kv.look L y.op.key y.idx = R at *
            replace sK := Lib.hid sK
            replace sB := Lib.hid sB
            clear c0 c1 c3 cop
            refine wp_region_wd S s0 (by kernel_rfl) (by kernel_rfl) ?_
            repeat (go_big_quiet_step (first | exact Wd.call (LP.out _) sB.out | exact Wd.call (LR.out _) sB.out))
            refine wpQuiet_nil ?_
            rintro _ ⟨z, rfl⟩
            have hBq := sK.out _ z.h
            generalize z.w = W9 at *
            clear g1 g3 e1 e2
            replace ST := Lib.hid (ST.out.keep (Turned.of_below hBq) (by simp) (by simp))
            replace MM := Lib.hid (MM.out.below hBq)
            replace hB := bel hB hBq
            clear hBq
            go_wp2_with (first
              | (go_at_call 14; refine (alike_any _ p m L ST.out _ _ MM.out (by omega)).mono ?_; rintro e wa ⟨rfl, hn⟩; replace ST := Lib.hid (ST.out.keep (Turned.of_below hn) (by simp) (by simp)); replace MM := Lib.hid (MM.out.below hn); replace hB := bel hB hn; clear hn)
              | (go_at_call 9; refine (copy_at _ p m L ST.out).mono ?_; rintro e wb ⟨q2, r2, rfl, SQ, _, _, hn⟩; replace ST := Lib.hid (ST.out.keep (Turned.of_below hn) (by simp) (by simp)); replace MM := Lib.hid (MM.out.below hn); replace hB := bel hB hn; clear hn)
              | (go_at_call 15; refine (same_yes _ p m q2 r2 L ST.out SQ).mono ?_; rintro e wc ⟨rfl, hn⟩; replace ST := Lib.hid (ST.out.keep (Turned.of_below hn) (by simp) (by simp)); replace MM := Lib.hid (MM.out.below hn); replace hB := bel hB hn; clear hn))
            go_roundg (ln0 + 1 - (k + 1))
            case measure => have := hg.out; omega
            case rel => exact ⟨k + 1, L, n, rfl, by omega, by go_num, rfl, ST.out, MM.out, vm, hB, by omega, by omega, by omega⟩
        · as_aux_lemma =>
            go_wp2_with (first
              | (go_at_call 12; refine (apply_at _ q r L SC.out (by omega) 1 ⟨2, [107], [115, 112, 111, 105, 108, 116], 0⟩).mono ?_; rintro e w5 ⟨rfl, SC5, T5⟩; replace SC := SC5; replace ST := Lib.hid (ST.out.keep T5 (by simp; omega) (by simp; omega)); replace MM := Lib.hid (MM.out.turned T5 (fun j hj e => by have := mlt.out j; simp at hj; subst hj; exact absurd (this e) (by omega))); replace hB := hB.trans (T5.below hB.size (by simp; omega)); replace K := Lib.hid (T5.blk K.out (by simp; omega)); clear c0 c1 c3 cop; obtain ⟨c0, c1, c3, cop⟩ := acells K.out; clear T5 SC5)
              | (go_at_call 12; refine (apply_at _ q r _ SC (by have := next_len L 1 ⟨2, [107], [115, 112, 111, 105, 108, 116], 0⟩; omega) 2 ⟨3, y.op.key, [], 0⟩).mono ?_; rintro e w6 ⟨rfl, SC6, T6⟩; replace ST := Lib.hid (ST.out.keep T6 (by simp; omega) (by simp; omega)); replace MM := Lib.hid (MM.out.turned T6 (fun j hj e => by have := mlt.out j; simp at hj; subst hj; exact absurd (this e) (by omega))); replace hB := hB.trans (T6.below hB.size (by simp; omega)); clear c0 c1 c3 cop T6 SC6)
              | (go_at_call 14; refine (alike_any _ p m L ST.out _ _ MM.out (by omega)).mono ?_; rintro e wa ⟨rfl, hn⟩; replace ST := Lib.hid (ST.out.keep (Turned.of_below hn) (by simp) (by simp)); replace MM := Lib.hid (MM.out.below hn); replace hB := bel hB hn; clear hn)
              | (go_at_call 9; refine (copy_at _ p m L ST.out).mono ?_; rintro e wb ⟨q2, r2, rfl, SQ, _, _, hn⟩; replace ST := Lib.hid (ST.out.keep (Turned.of_below hn) (by simp) (by simp)); replace MM := Lib.hid (MM.out.below hn); replace hB := bel hB hn; clear hn)
              | (go_at_call 15; refine (same_yes _ p m q2 r2 L ST.out SQ).mono ?_; rintro e wc ⟨rfl, hn⟩; replace ST := Lib.hid (ST.out.keep (Turned.of_below hn) (by simp) (by simp)); replace MM := Lib.hid (MM.out.below hn); replace hB := bel hB hn; clear hn))
            go_roundg (ln0 + 1 - (k + 1))
            case measure => have := hg.out; omega
            case rel => exact ⟨k + 1, L, n, rfl, by omega, by go_num, rfl, ST.out, MM.out, vm, hB, by omega, by omega, by omega⟩
        · as_aux_lemma =>
            have AP := Lib.hid (fun (W1 : World) (h : CsO W1 w.heap.size u4 L) (hb : w.heap.size ≤ W1.heap.size) => rapply_any W1 w.heap.size u4 L h (y.idx) y.op (by omega) hb)
            have AQ := Lib.hid (fun (W1 : World) (h : StAt W1 p m L) => apply_at W1 p m L h (by omega) (y.idx) y.op)
            have hnl := next_len L (y.idx) y.op
            have e1 := neq_res (told L (y.idx) y.op)
            have e2 := fun op x' y' => guard_res op x' y' (told L (y.idx) y.op)
            unfold ApplyP at AP
            generalize told L (y.idx) y.op = R at *
            generalize next L (y.idx) y.op = L2 at *
            go_upto_region 16 with (first
              | ((with_reducible show wpList _ _ _ (⟨some 42, .load TO _, _, _, _, _⟩ :: _) _ _); refine wpList_load_mid rfl TO _ rfl x 2 rfl y.op.cells d1 (by simpa using range_op (off := 0) K.out.rangeAll) hd1.out hdr1 info_op ?_)
              | (go_at_call 13; refine (AP.out _ MM.out hB.size).mono ?_; rintro e w5 ⟨v2, rfl, MN, hn, hv2⟩; have vm2 : ∀ j, v2.ownBlock = some j → j ≠ m := (fun j hj => hv2.elim (fun e => by subst e; exact vm.out j hj) (fun f => by have := f j hj; omega)); replace vm2 := Lib.hid vm2; replace ST := Lib.hid (ST.out.keep (Turned.of_below hn) (by simp) (by simp)); replace SC := Lib.hid (SC.out.keep (Turned.of_below hn) (by simp) (by simp)); replace MM := Lib.hid (MM.out.below hn); have ML := Lib.hid MN; replace hB := bel hB hn; replace K := Lib.hid (K.out.below hn hx); have s5 := hn.size; clear MN hn hv2)
              | ((with_reducible show wpList _ _ _ (⟨some 11, .alloc _, _, _, _, _⟩ :: _) _ _); refine wpList_alloc_blk rfl TR rfl _ zero_res ?_; intro w6 hn K6 S6; clear S6; replace ST := Lib.hid (ST.out.keep (Turned.of_below hn) (by simp) (by simp)); replace SC := Lib.hid (SC.out.keep (Turned.of_below hn) (by simp) (by simp)); replace MM := Lib.hid (MM.out.below hn); have mlt5 := Lib.hid (cso_lt MM.out); have mlt6 := Lib.hid (cso_lt ML.out); replace ML := Lib.hid (ML.out.below hn); replace hB := bel hB hn; replace K := Lib.hid (K.out.below hn (by omega)); clear hn)
              | ((with_reducible show wpList _ _ _ (⟨none, .store TR (.tmp 11) _, _, _, _, _⟩ :: _) _ _); refine wpList_store_blk rfl TR _ _ rfl w5.heap.size TR zeroR.cells R.cells 4 rfl rfl K6 rfl (Rs.cellsN _) info_res ?_; intro w7 T7 K7 S7; clear S7; replace ST := Lib.hid (ST.out.keep T7 (by simp; omega) (by simp; omega)); replace SC := Lib.hid (SC.out.keep T7 (by have := SC0; simp; omega) (by have := SC0; simp; omega)); replace ML := Lib.hid (ML.out.turned T7 (fun j hj e => by have := mlt6.out j e; simp at hj; omega)); replace MM := Lib.hid (MM.out.turned T7 (fun j hj e => by have := mltw.out j e; simp at hj; omega)); replace K := Lib.hid (T7.blk K.out (by simp; omega)); replace hB := hB.trans (T7.below hB.size (by have := hB.size; simp; omega)); have l7 := K7.lt; clear K6 T7 c0 c1 c3 cop))
            have TD : Turned [] w7 w7.drew := ⟨rfl, rfl, rfl, Nat.le_refl _, fun _ _ _ => rfl⟩
            replace ST := Lib.hid (ST.out.keep TD (by simp) (by simp))
            replace SC := Lib.hid (SC.out.keep TD (by simp) (by simp))
            replace MM := Lib.hid (MM.out.turned TD (by simp))
            replace ML := Lib.hid (ML.out.turned TD (by simp))
            replace K := Lib.hid (TD.blk K.out (by simp))
            replace K7 := Lib.hid (TD.blk K7 (by simp))
            replace hB := hB.trans (TD.below hB.size (by simp))
            obtain ⟨_, _, _, cop⟩ := acells K.out
            have r0 := ldR K7.out
            clear TD
            go_region_held3 (fun W' => ldRun Try.prog TO W' (.pointer (some ⟨x, 2, none⟩)) = .ok (.value (.agg y.op.cells.toArray)) W' ∧ ldRun Try.prog TR W' (.pointer (some ⟨w5.heap.size, 0, none⟩)) = .ok (.value (.agg R.cells.toArray)) W') (first | exact ⟨cop, r0⟩) (first
              | (go_at_call 12; refine (AQ.out _ ST.out).mono ?_; rintro e w8 ⟨rfl, ST8, T8⟩; replace ST := Lib.hid ST8; replace SC := Lib.hid (SC.out.keep T8 (by have := SC0; simp; omega) (by have := SC0; simp; omega)); replace MM := Lib.hid (MM.out.turned T8 (fun j hj e => vm.out _ e (by simpa using hj))); replace ML := Lib.hid (ML.out.turned T8 (fun j hj e => vm2.out _ e (by simpa using hj))); replace K7 := Lib.hid (T8.blk K7.out (by simp; omega)); replace hB := hB.trans (T8.below hB.size (by simp; omega)); clear r0 cop; have r0 := ldR K7.out; replace K := Lib.hid (T8.blk K.out (by simp; omega)); obtain ⟨_, _, _, cop⟩ := acells K.out; clear T8 ST8)
              | (go_at_call 14; refine (alike_any _ q r L SC.out _ _ MM.out (by omega)).mono ?_; rintro e w9 ⟨rfl, hn⟩; replace ST := Lib.hid (ST.out.keep (Turned.of_below hn) (by simp) (by simp)); replace ML := Lib.hid (ML.out.below hn); replace K := Lib.hid (K.out.below hn K.out.lt); replace K7 := Lib.hid (K7.out.below hn K7.out.lt); clear r0 cop; have r0 := ldR K7.out; obtain ⟨_, _, _, cop⟩ := acells K.out; replace hB := bel hB hn; clear hn))
            replace MM := ML
            replace vm := vm2
            clear e1 e2 r0 cop
            go_wp2_with (first
              | (go_at_call 14; refine (alike_any _ p m L2 ST.out _ _ MM.out (by omega)).mono ?_; rintro e wa ⟨rfl, hn⟩; replace ST := Lib.hid (ST.out.keep (Turned.of_below hn) (by simp) (by simp)); replace MM := Lib.hid (MM.out.below hn); replace hB := bel hB hn; clear hn)
              | (go_at_call 9; refine (copy_at _ p m L2 ST.out).mono ?_; rintro e wb ⟨q2, r2, rfl, SQ, _, _, hn⟩; replace ST := Lib.hid (ST.out.keep (Turned.of_below hn) (by simp) (by simp)); replace MM := Lib.hid (MM.out.below hn); replace hB := bel hB hn; clear hn)
              | (go_at_call 15; refine (same_yes _ p m q2 r2 L2 ST.out SQ).mono ?_; rintro e wc ⟨rfl, hn⟩; replace ST := Lib.hid (ST.out.keep (Turned.of_below hn) (by simp) (by simp)); replace MM := Lib.hid (MM.out.below hn); replace hB := bel hB hn; clear hn))
            go_roundg (ln0 + 1 - (k + 1))
            case measure => have := hg.out; omega
            case rel => exact ⟨k + 1, L2, n + 1, rfl, by omega, by go_num, rfl, ST.out, MM.out, vm, hB, by omega, by omega, by omega⟩
        · as_aux_lemma =>
            have AP := Lib.hid (fun (W1 : World) (h : CsO W1 w.heap.size u4 L) (hb : w.heap.size ≤ W1.heap.size) => rapply_any W1 w.heap.size u4 L h (n) y.op (by omega) hb)
            have AQ := Lib.hid (fun (W1 : World) (h : StAt W1 p m L) => apply_at W1 p m L h (by omega) (n) y.op)
            have hnl := next_len L (n) y.op
            have e1 := neq_res (told L (n) y.op)
            have e2 := fun op x' y' => guard_res op x' y' (told L (n) y.op)
            unfold ApplyP at AP
            generalize told L (n) y.op = R at *
            generalize next L (n) y.op = L2 at *
            go_upto_region 16 with (first
              | ((with_reducible show wpList _ _ _ (⟨some 42, .load TO _, _, _, _, _⟩ :: _) _ _); refine wpList_load_mid rfl TO _ rfl x 2 rfl y.op.cells d1 (by simpa using range_op (off := 0) K.out.rangeAll) hd1.out hdr1 info_op ?_)
              | (go_at_call 13; refine (AP.out _ MM.out hB.size).mono ?_; rintro e w5 ⟨v2, rfl, MN, hn, hv2⟩; have vm2 : ∀ j, v2.ownBlock = some j → j ≠ m := (fun j hj => hv2.elim (fun e => by subst e; exact vm.out j hj) (fun f => by have := f j hj; omega)); replace vm2 := Lib.hid vm2; replace ST := Lib.hid (ST.out.keep (Turned.of_below hn) (by simp) (by simp)); replace SC := Lib.hid (SC.out.keep (Turned.of_below hn) (by simp) (by simp)); replace MM := Lib.hid (MM.out.below hn); have ML := Lib.hid MN; replace hB := bel hB hn; replace K := Lib.hid (K.out.below hn hx); have s5 := hn.size; clear MN hn hv2)
              | ((with_reducible show wpList _ _ _ (⟨some 11, .alloc _, _, _, _, _⟩ :: _) _ _); refine wpList_alloc_blk rfl TR rfl _ zero_res ?_; intro w6 hn K6 S6; clear S6; replace ST := Lib.hid (ST.out.keep (Turned.of_below hn) (by simp) (by simp)); replace SC := Lib.hid (SC.out.keep (Turned.of_below hn) (by simp) (by simp)); replace MM := Lib.hid (MM.out.below hn); have mlt5 := Lib.hid (cso_lt MM.out); have mlt6 := Lib.hid (cso_lt ML.out); replace ML := Lib.hid (ML.out.below hn); replace hB := bel hB hn; replace K := Lib.hid (K.out.below hn (by omega)); clear hn)
              | ((with_reducible show wpList _ _ _ (⟨none, .store TR (.tmp 11) _, _, _, _, _⟩ :: _) _ _); refine wpList_store_blk rfl TR _ _ rfl w5.heap.size TR zeroR.cells R.cells 4 rfl rfl K6 rfl (Rs.cellsN _) info_res ?_; intro w7 T7 K7 S7; clear S7; replace ST := Lib.hid (ST.out.keep T7 (by simp; omega) (by simp; omega)); replace SC := Lib.hid (SC.out.keep T7 (by have := SC0; simp; omega) (by have := SC0; simp; omega)); replace ML := Lib.hid (ML.out.turned T7 (fun j hj e => by have := mlt6.out j e; simp at hj; omega)); replace MM := Lib.hid (MM.out.turned T7 (fun j hj e => by have := mltw.out j e; simp at hj; omega)); replace K := Lib.hid (T7.blk K.out (by simp; omega)); replace hB := hB.trans (T7.below hB.size (by have := hB.size; simp; omega)); have l7 := K7.lt; clear K6 T7 c0 c1 c3 cop))
            have TD : Turned [] w7 w7.drew := ⟨rfl, rfl, rfl, Nat.le_refl _, fun _ _ _ => rfl⟩
            replace ST := Lib.hid (ST.out.keep TD (by simp) (by simp))
            replace SC := Lib.hid (SC.out.keep TD (by simp) (by simp))
            replace MM := Lib.hid (MM.out.turned TD (by simp))
            replace ML := Lib.hid (ML.out.turned TD (by simp))
            replace K := Lib.hid (TD.blk K.out (by simp))
            replace K7 := Lib.hid (TD.blk K7 (by simp))
            replace hB := hB.trans (TD.below hB.size (by simp))
            obtain ⟨_, _, _, cop⟩ := acells K.out
            have r0 := ldR K7.out
            clear TD
            go_region_held3 (fun W' => ldRun Try.prog TO W' (.pointer (some ⟨x, 2, none⟩)) = .ok (.value (.agg y.op.cells.toArray)) W' ∧ ldRun Try.prog TR W' (.pointer (some ⟨w5.heap.size, 0, none⟩)) = .ok (.value (.agg R.cells.toArray)) W') (first | exact ⟨cop, r0⟩) (first
              | (go_at_call 12; refine (AQ.out _ ST.out).mono ?_; rintro e w8 ⟨rfl, ST8, T8⟩; replace ST := Lib.hid ST8; replace SC := Lib.hid (SC.out.keep T8 (by have := SC0; simp; omega) (by have := SC0; simp; omega)); replace MM := Lib.hid (MM.out.turned T8 (fun j hj e => vm.out _ e (by simpa using hj))); replace ML := Lib.hid (ML.out.turned T8 (fun j hj e => vm2.out _ e (by simpa using hj))); replace K7 := Lib.hid (T8.blk K7.out (by simp; omega)); replace hB := hB.trans (T8.below hB.size (by simp; omega)); clear r0 cop; have r0 := ldR K7.out; replace K := Lib.hid (T8.blk K.out (by simp; omega)); obtain ⟨_, _, _, cop⟩ := acells K.out; clear T8 ST8)
              | (go_at_call 14; refine (alike_any _ q r L SC.out _ _ MM.out (by omega)).mono ?_; rintro e w9 ⟨rfl, hn⟩; replace ST := Lib.hid (ST.out.keep (Turned.of_below hn) (by simp) (by simp)); replace ML := Lib.hid (ML.out.below hn); replace K := Lib.hid (K.out.below hn K.out.lt); replace K7 := Lib.hid (K7.out.below hn K7.out.lt); clear r0 cop; have r0 := ldR K7.out; obtain ⟨_, _, _, cop⟩ := acells K.out; replace hB := bel hB hn; clear hn))
            replace MM := ML
            replace vm := vm2
            clear e1 e2 r0 cop
            go_wp2_with (first
              | (go_at_call 14; refine (alike_any _ p m L2 ST.out _ _ MM.out (by omega)).mono ?_; rintro e wa ⟨rfl, hn⟩; replace ST := Lib.hid (ST.out.keep (Turned.of_below hn) (by simp) (by simp)); replace MM := Lib.hid (MM.out.below hn); replace hB := bel hB hn; clear hn)
              | (go_at_call 9; refine (copy_at _ p m L2 ST.out).mono ?_; rintro e wb ⟨q2, r2, rfl, SQ, _, _, hn⟩; replace ST := Lib.hid (ST.out.keep (Turned.of_below hn) (by simp) (by simp)); replace MM := Lib.hid (MM.out.below hn); replace hB := bel hB hn; clear hn)
              | (go_at_call 15; refine (same_yes _ p m q2 r2 L2 ST.out SQ).mono ?_; rintro e wc ⟨rfl, hn⟩; replace ST := Lib.hid (ST.out.keep (Turned.of_below hn) (by simp) (by simp)); replace MM := Lib.hid (MM.out.below hn); replace hB := bel hB hn; clear hn))
            go_roundg (ln0 + 1 - (k + 1))
            case measure => have := hg.out; omega
            case rel => exact ⟨k + 1, L2, n + 1, rfl, by omega, by go_num, rfl, ST.out, MM.out, vm, hB, by omega, by omega, by omega⟩
        · as_aux_lemma =>
            have AP := Lib.hid (fun (W1 : World) (h : CsO W1 w.heap.size u4 L) (hb : w.heap.size ≤ W1.heap.size) => rapply_any W1 w.heap.size u4 L h (n) y.op (by omega) hb)
            have AQ := Lib.hid (fun (W1 : World) (h : StAt W1 p m L) => apply_at W1 p m L h (by omega) (n) y.op)
            have hnl := next_len L (n) y.op
            have e1 := neq_res (told L (n) y.op)
            have e2 := fun op x' y' => guard_res op x' y' (told L (n) y.op)
            unfold ApplyP at AP
            generalize told L (n) y.op = R at *
            generalize next L (n) y.op = L2 at *
            go_upto_region 16 with (first
              | ((with_reducible show wpList _ _ _ (⟨some 42, .load TO _, _, _, _, _⟩ :: _) _ _); refine wpList_load_mid rfl TO _ rfl x 2 rfl y.op.cells d1 (by simpa using range_op (off := 0) K.out.rangeAll) hd1.out hdr1 info_op ?_)
              | (go_at_call 13; refine (AP.out _ MM.out hB.size).mono ?_; rintro e w5 ⟨v2, rfl, MN, hn, hv2⟩; have vm2 : ∀ j, v2.ownBlock = some j → j ≠ m := (fun j hj => hv2.elim (fun e => by subst e; exact vm.out j hj) (fun f => by have := f j hj; omega)); replace vm2 := Lib.hid vm2; replace ST := Lib.hid (ST.out.keep (Turned.of_below hn) (by simp) (by simp)); replace SC := Lib.hid (SC.out.keep (Turned.of_below hn) (by simp) (by simp)); replace MM := Lib.hid (MM.out.below hn); have ML := Lib.hid MN; replace hB := bel hB hn; replace K := Lib.hid (K.out.below hn hx); have s5 := hn.size; clear MN hn hv2)
              | ((with_reducible show wpList _ _ _ (⟨some 11, .alloc _, _, _, _, _⟩ :: _) _ _); refine wpList_alloc_blk rfl TR rfl _ zero_res ?_; intro w6 hn K6 S6; clear S6; replace ST := Lib.hid (ST.out.keep (Turned.of_below hn) (by simp) (by simp)); replace SC := Lib.hid (SC.out.keep (Turned.of_below hn) (by simp) (by simp)); replace MM := Lib.hid (MM.out.below hn); have mlt5 := Lib.hid (cso_lt MM.out); have mlt6 := Lib.hid (cso_lt ML.out); replace ML := Lib.hid (ML.out.below hn); replace hB := bel hB hn; replace K := Lib.hid (K.out.below hn (by omega)); clear hn)
              | ((with_reducible show wpList _ _ _ (⟨none, .store TR (.tmp 11) _, _, _, _, _⟩ :: _) _ _); refine wpList_store_blk rfl TR _ _ rfl w5.heap.size TR zeroR.cells R.cells 4 rfl rfl K6 rfl (Rs.cellsN _) info_res ?_; intro w7 T7 K7 S7; clear S7; replace ST := Lib.hid (ST.out.keep T7 (by simp; omega) (by simp; omega)); replace SC := Lib.hid (SC.out.keep T7 (by have := SC0; simp; omega) (by have := SC0; simp; omega)); replace ML := Lib.hid (ML.out.turned T7 (fun j hj e => by have := mlt6.out j e; simp at hj; omega)); replace MM := Lib.hid (MM.out.turned T7 (fun j hj e => by have := mltw.out j e; simp at hj; omega)); replace K := Lib.hid (T7.blk K.out (by simp; omega)); replace hB := hB.trans (T7.below hB.size (by have := hB.size; simp; omega)); have l7 := K7.lt; clear K6 T7 c0 c1 c3 cop))
            have TD : Turned [] w7 w7.drew := ⟨rfl, rfl, rfl, Nat.le_refl _, fun _ _ _ => rfl⟩
            replace ST := Lib.hid (ST.out.keep TD (by simp) (by simp))
            replace SC := Lib.hid (SC.out.keep TD (by simp) (by simp))
            replace MM := Lib.hid (MM.out.turned TD (by simp))
            replace ML := Lib.hid (ML.out.turned TD (by simp))
            replace K := Lib.hid (TD.blk K.out (by simp))
            replace K7 := Lib.hid (TD.blk K7 (by simp))
            replace hB := hB.trans (TD.below hB.size (by simp))
            obtain ⟨_, _, _, cop⟩ := acells K.out
            have r0 := ldR K7.out
            clear TD
            go_region_held3 (fun W' => ldRun Try.prog TO W' (.pointer (some ⟨x, 2, none⟩)) = .ok (.value (.agg y.op.cells.toArray)) W' ∧ ldRun Try.prog TR W' (.pointer (some ⟨w5.heap.size, 0, none⟩)) = .ok (.value (.agg R.cells.toArray)) W') (first | exact ⟨cop, r0⟩) (first
              | (go_at_call 12; refine (AQ.out _ ST.out).mono ?_; rintro e w8 ⟨rfl, ST8, T8⟩; replace ST := Lib.hid ST8; replace SC := Lib.hid (SC.out.keep T8 (by have := SC0; simp; omega) (by have := SC0; simp; omega)); replace MM := Lib.hid (MM.out.turned T8 (fun j hj e => vm.out _ e (by simpa using hj))); replace ML := Lib.hid (ML.out.turned T8 (fun j hj e => vm2.out _ e (by simpa using hj))); replace K7 := Lib.hid (T8.blk K7.out (by simp; omega)); replace hB := hB.trans (T8.below hB.size (by simp; omega)); clear r0 cop; have r0 := ldR K7.out; replace K := Lib.hid (T8.blk K.out (by simp; omega)); obtain ⟨_, _, _, cop⟩ := acells K.out; clear T8 ST8)
              | (go_at_call 14; refine (alike_any _ q r L SC.out _ _ MM.out (by omega)).mono ?_; rintro e w9 ⟨rfl, hn⟩; replace ST := Lib.hid (ST.out.keep (Turned.of_below hn) (by simp) (by simp)); replace ML := Lib.hid (ML.out.below hn); replace K := Lib.hid (K.out.below hn K.out.lt); replace K7 := Lib.hid (K7.out.below hn K7.out.lt); clear r0 cop; have r0 := ldR K7.out; obtain ⟨_, _, _, cop⟩ := acells K.out; replace hB := bel hB hn; clear hn))
            replace MM := ML
            replace vm := vm2
            clear e1 e2 r0 cop
            go_wp2_with (first
              | (go_at_call 14; refine (alike_any _ p m L2 ST.out _ _ MM.out (by omega)).mono ?_; rintro e wa ⟨rfl, hn⟩; replace ST := Lib.hid (ST.out.keep (Turned.of_below hn) (by simp) (by simp)); replace MM := Lib.hid (MM.out.below hn); replace hB := bel hB hn; clear hn)
              | (go_at_call 9; refine (copy_at _ p m L2 ST.out).mono ?_; rintro e wb ⟨q2, r2, rfl, SQ, _, _, hn⟩; replace ST := Lib.hid (ST.out.keep (Turned.of_below hn) (by simp) (by simp)); replace MM := Lib.hid (MM.out.below hn); replace hB := bel hB hn; clear hn)
              | (go_at_call 15; refine (same_yes _ p m q2 r2 L2 ST.out SQ).mono ?_; rintro e wc ⟨rfl, hn⟩; replace ST := Lib.hid (ST.out.keep (Turned.of_below hn) (by simp) (by simp)); replace MM := Lib.hid (MM.out.below hn); replace hB := bel hB hn; clear hn))
            go_roundg (ln0 + 1 - (k + 1))
            case measure => have := hg.out; omega
            case rel => exact ⟨k + 1, L2, n + 1, rfl, by omega, by go_num, rfl, ST.out, MM.out, vm, hB, by omega, by omega, by omega⟩
        · as_aux_lemma =>
            have AP := Lib.hid (fun (W1 : World) (h : CsO W1 w.heap.size u4 L) (hb : w.heap.size ≤ W1.heap.size) => rapply_any W1 w.heap.size u4 L h (n) y.op (by omega) hb)
            have AQ := Lib.hid (fun (W1 : World) (h : StAt W1 p m L) => apply_at W1 p m L h (by omega) (n) y.op)
            have hnl := next_len L (n) y.op
            have e1 := neq_res (told L (n) y.op)
            have e2 := fun op x' y' => guard_res op x' y' (told L (n) y.op)
            unfold ApplyP at AP
            generalize told L (n) y.op = R at *
            generalize next L (n) y.op = L2 at *
            go_upto_region 16 with (first
              | ((with_reducible show wpList _ _ _ (⟨some 42, .load TO _, _, _, _, _⟩ :: _) _ _); refine wpList_load_mid rfl TO _ rfl x 2 rfl y.op.cells d1 (by simpa using range_op (off := 0) K.out.rangeAll) hd1.out hdr1 info_op ?_)
              | (go_at_call 13; refine (AP.out _ MM.out hB.size).mono ?_; rintro e w5 ⟨v2, rfl, MN, hn, hv2⟩; have vm2 : ∀ j, v2.ownBlock = some j → j ≠ m := (fun j hj => hv2.elim (fun e => by subst e; exact vm.out j hj) (fun f => by have := f j hj; omega)); replace vm2 := Lib.hid vm2; replace ST := Lib.hid (ST.out.keep (Turned.of_below hn) (by simp) (by simp)); replace SC := Lib.hid (SC.out.keep (Turned.of_below hn) (by simp) (by simp)); replace MM := Lib.hid (MM.out.below hn); have ML := Lib.hid MN; replace hB := bel hB hn; replace K := Lib.hid (K.out.below hn hx); have s5 := hn.size; clear MN hn hv2)
              | ((with_reducible show wpList _ _ _ (⟨some 11, .alloc _, _, _, _, _⟩ :: _) _ _); refine wpList_alloc_blk rfl TR rfl _ zero_res ?_; intro w6 hn K6 S6; clear S6; replace ST := Lib.hid (ST.out.keep (Turned.of_below hn) (by simp) (by simp)); replace SC := Lib.hid (SC.out.keep (Turned.of_below hn) (by simp) (by simp)); replace MM := Lib.hid (MM.out.below hn); have mlt5 := Lib.hid (cso_lt MM.out); have mlt6 := Lib.hid (cso_lt ML.out); replace ML := Lib.hid (ML.out.below hn); replace hB := bel hB hn; replace K := Lib.hid (K.out.below hn (by omega)); clear hn)
              | ((with_reducible show wpList _ _ _ (⟨none, .store TR (.tmp 11) _, _, _, _, _⟩ :: _) _ _); refine wpList_store_blk rfl TR _ _ rfl w5.heap.size TR zeroR.cells R.cells 4 rfl rfl K6 rfl (Rs.cellsN _) info_res ?_; intro w7 T7 K7 S7; clear S7; replace ST := Lib.hid (ST.out.keep T7 (by simp; omega) (by simp; omega)); replace SC := Lib.hid (SC.out.keep T7 (by have := SC0; simp; omega) (by have := SC0; simp; omega)); replace ML := Lib.hid (ML.out.turned T7 (fun j hj e => by have := mlt6.out j e; simp at hj; omega)); replace MM := Lib.hid (MM.out.turned T7 (fun j hj e => by have := mltw.out j e; simp at hj; omega)); replace K := Lib.hid (T7.blk K.out (by simp; omega)); replace hB := hB.trans (T7.below hB.size (by have := hB.size; simp; omega)); have l7 := K7.lt; clear K6 T7 c0 c1 c3 cop))
            have TD : Turned [] w7 w7.drew := ⟨rfl, rfl, rfl, Nat.le_refl _, fun _ _ _ => rfl⟩
            replace ST := Lib.hid (ST.out.keep TD (by simp) (by simp))
            replace SC := Lib.hid (SC.out.keep TD (by simp) (by simp))
            replace MM := Lib.hid (MM.out.turned TD (by simp))
            replace ML := Lib.hid (ML.out.turned TD (by simp))
            replace K := Lib.hid (TD.blk K.out (by simp))
            replace K7 := Lib.hid (TD.blk K7 (by simp))
            replace hB := hB.trans (TD.below hB.size (by simp))
            obtain ⟨_, _, _, cop⟩ := acells K.out
            have r0 := ldR K7.out
            clear TD
            go_region_held3 (fun W' => ldRun Try.prog TO W' (.pointer (some ⟨x, 2, none⟩)) = .ok (.value (.agg y.op.cells.toArray)) W' ∧ ldRun Try.prog TR W' (.pointer (some ⟨w5.heap.size, 0, none⟩)) = .ok (.value (.agg R.cells.toArray)) W') (first | exact ⟨cop, r0⟩) (first
              | (go_at_call 12; refine (AQ.out _ ST.out).mono ?_; rintro e w8 ⟨rfl, ST8, T8⟩; replace ST := Lib.hid ST8; replace SC := Lib.hid (SC.out.keep T8 (by have := SC0; simp; omega) (by have := SC0; simp; omega)); replace MM := Lib.hid (MM.out.turned T8 (fun j hj e => vm.out _ e (by simpa using hj))); replace ML := Lib.hid (ML.out.turned T8 (fun j hj e => vm2.out _ e (by simpa using hj))); replace K7 := Lib.hid (T8.blk K7.out (by simp; omega)); replace hB := hB.trans (T8.below hB.size (by simp; omega)); clear r0 cop; have r0 := ldR K7.out; replace K := Lib.hid (T8.blk K.out (by simp; omega)); obtain ⟨_, _, _, cop⟩ := acells K.out; clear T8 ST8)
              | (go_at_call 14; refine (alike_any _ q r L SC.out _ _ MM.out (by omega)).mono ?_; rintro e w9 ⟨rfl, hn⟩; replace ST := Lib.hid (ST.out.keep (Turned.of_below hn) (by simp) (by simp)); replace ML := Lib.hid (ML.out.below hn); replace K := Lib.hid (K.out.below hn K.out.lt); replace K7 := Lib.hid (K7.out.below hn K7.out.lt); clear r0 cop; have r0 := ldR K7.out; obtain ⟨_, _, _, cop⟩ := acells K.out; replace hB := bel hB hn; clear hn))
            replace MM := ML
            replace vm := vm2
            clear e1 e2 r0 cop
            go_wp2_with (first
              | (go_at_call 14; refine (alike_any _ p m L2 ST.out _ _ MM.out (by omega)).mono ?_; rintro e wa ⟨rfl, hn⟩; replace ST := Lib.hid (ST.out.keep (Turned.of_below hn) (by simp) (by simp)); replace MM := Lib.hid (MM.out.below hn); replace hB := bel hB hn; clear hn)
              | (go_at_call 9; refine (copy_at _ p m L2 ST.out).mono ?_; rintro e wb ⟨q2, r2, rfl, SQ, _, _, hn⟩; replace ST := Lib.hid (ST.out.keep (Turned.of_below hn) (by simp) (by simp)); replace MM := Lib.hid (MM.out.below hn); replace hB := bel hB hn; clear hn)
              | (go_at_call 15; refine (same_yes _ p m q2 r2 L2 ST.out SQ).mono ?_; rintro e wc ⟨rfl, hn⟩; replace ST := Lib.hid (ST.out.keep (Turned.of_below hn) (by simp) (by simp)); replace MM := Lib.hid (MM.out.below hn); replace hB := bel hB hn; clear hn))
            go_roundg (ln0 + 1 - (k + 1))
            case measure => have := hg.out; omega
            case rel => exact ⟨k + 1, L2, n + 1, rfl, by omega, by go_num, rfl, ST.out, MM.out, vm, hB, by omega, by omega, by omega⟩
        · as_aux_lemma =>
            have AP := Lib.hid (fun (W1 : World) (h : CsO W1 w.heap.size u4 L) (hb : w.heap.size ≤ W1.heap.size) => rapply_any W1 w.heap.size u4 L h (n) y.op (by omega) hb)
            have AQ := Lib.hid (fun (W1 : World) (h : StAt W1 p m L) => apply_at W1 p m L h (by omega) (n) y.op)
            have hnl := next_len L (n) y.op
            have e1 := neq_res (told L (n) y.op)
            have e2 := fun op x' y' => guard_res op x' y' (told L (n) y.op)
            unfold ApplyP at AP
            generalize told L (n) y.op = R at *
            generalize next L (n) y.op = L2 at *
            go_upto_region 16 with (first
              | ((with_reducible show wpList _ _ _ (⟨some 42, .load TO _, _, _, _, _⟩ :: _) _ _); refine wpList_load_mid rfl TO _ rfl x 2 rfl y.op.cells d1 (by simpa using range_op (off := 0) K.out.rangeAll) hd1.out hdr1 info_op ?_)
              | (go_at_call 13; refine (AP.out _ MM.out hB.size).mono ?_; rintro e w5 ⟨v2, rfl, MN, hn, hv2⟩; have vm2 : ∀ j, v2.ownBlock = some j → j ≠ m := (fun j hj => hv2.elim (fun e => by subst e; exact vm.out j hj) (fun f => by have := f j hj; omega)); replace vm2 := Lib.hid vm2; replace ST := Lib.hid (ST.out.keep (Turned.of_below hn) (by simp) (by simp)); replace SC := Lib.hid (SC.out.keep (Turned.of_below hn) (by simp) (by simp)); replace MM := Lib.hid (MM.out.below hn); have ML := Lib.hid MN; replace hB := bel hB hn; replace K := Lib.hid (K.out.below hn hx); have s5 := hn.size; clear MN hn hv2)
              | ((with_reducible show wpList _ _ _ (⟨some 11, .alloc _, _, _, _, _⟩ :: _) _ _); refine wpList_alloc_blk rfl TR rfl _ zero_res ?_; intro w6 hn K6 S6; clear S6; replace ST := Lib.hid (ST.out.keep (Turned.of_below hn) (by simp) (by simp)); replace SC := Lib.hid (SC.out.keep (Turned.of_below hn) (by simp) (by simp)); replace MM := Lib.hid (MM.out.below hn); have mlt5 := Lib.hid (cso_lt MM.out); have mlt6 := Lib.hid (cso_lt ML.out); replace ML := Lib.hid (ML.out.below hn); replace hB := bel hB hn; replace K := Lib.hid (K.out.below hn (by omega)); clear hn)
              | ((with_reducible show wpList _ _ _ (⟨none, .store TR (.tmp 11) _, _, _, _, _⟩ :: _) _ _); refine wpList_store_blk rfl TR _ _ rfl w5.heap.size TR zeroR.cells R.cells 4 rfl rfl K6 rfl (Rs.cellsN _) info_res ?_; intro w7 T7 K7 S7; clear S7; replace ST := Lib.hid (ST.out.keep T7 (by simp; omega) (by simp; omega)); replace SC := Lib.hid (SC.out.keep T7 (by have := SC0; simp; omega) (by have := SC0; simp; omega)); replace ML := Lib.hid (ML.out.turned T7 (fun j hj e => by have := mlt6.out j e; simp at hj; omega)); replace MM := Lib.hid (MM.out.turned T7 (fun j hj e => by have := mltw.out j e; simp at hj; omega)); replace K := Lib.hid (T7.blk K.out (by simp; omega)); replace hB := hB.trans (T7.below hB.size (by have := hB.size; simp; omega)); have l7 := K7.lt; clear K6 T7 c0 c1 c3 cop))
            have TD : Turned [] w7 w7.drew := ⟨rfl, rfl, rfl, Nat.le_refl _, fun _ _ _ => rfl⟩
            replace ST := Lib.hid (ST.out.keep TD (by simp) (by simp))
            replace SC := Lib.hid (SC.out.keep TD (by simp) (by simp))
            replace MM := Lib.hid (MM.out.turned TD (by simp))
            replace ML := Lib.hid (ML.out.turned TD (by simp))
            replace K := Lib.hid (TD.blk K.out (by simp))
            replace K7 := Lib.hid (TD.blk K7 (by simp))
            replace hB := hB.trans (TD.below hB.size (by simp))
            obtain ⟨_, _, _, cop⟩ := acells K.out
            have r0 := ldR K7.out
            clear TD
            go_region_held3 (fun W' => ldRun Try.prog TO W' (.pointer (some ⟨x, 2, none⟩)) = .ok (.value (.agg y.op.cells.toArray)) W' ∧ ldRun Try.prog TR W' (.pointer (some ⟨w5.heap.size, 0, none⟩)) = .ok (.value (.agg R.cells.toArray)) W') (first | exact ⟨cop, r0⟩) (first
              | (go_at_call 12; refine (AQ.out _ ST.out).mono ?_; rintro e w8 ⟨rfl, ST8, T8⟩; replace ST := Lib.hid ST8; replace SC := Lib.hid (SC.out.keep T8 (by have := SC0; simp; omega) (by have := SC0; simp; omega)); replace MM := Lib.hid (MM.out.turned T8 (fun j hj e => vm.out _ e (by simpa using hj))); replace ML := Lib.hid (ML.out.turned T8 (fun j hj e => vm2.out _ e (by simpa using hj))); replace K7 := Lib.hid (T8.blk K7.out (by simp; omega)); replace hB := hB.trans (T8.below hB.size (by simp; omega)); clear r0 cop; have r0 := ldR K7.out; replace K := Lib.hid (T8.blk K.out (by simp; omega)); obtain ⟨_, _, _, cop⟩ := acells K.out; clear T8 ST8)
              | (go_at_call 14; refine (alike_any _ q r L SC.out _ _ MM.out (by omega)).mono ?_; rintro e w9 ⟨rfl, hn⟩; replace ST := Lib.hid (ST.out.keep (Turned.of_below hn) (by simp) (by simp)); replace ML := Lib.hid (ML.out.below hn); replace K := Lib.hid (K.out.below hn K.out.lt); replace K7 := Lib.hid (K7.out.below hn K7.out.lt); clear r0 cop; have r0 := ldR K7.out; obtain ⟨_, _, _, cop⟩ := acells K.out; replace hB := bel hB hn; clear hn))
            replace MM := ML
            replace vm := vm2
            clear e1 e2 r0 cop
            go_wp2_with (first
              | (go_at_call 14; refine (alike_any _ p m L2 ST.out _ _ MM.out (by omega)).mono ?_; rintro e wa ⟨rfl, hn⟩; replace ST := Lib.hid (ST.out.keep (Turned.of_below hn) (by simp) (by simp)); replace MM := Lib.hid (MM.out.below hn); replace hB := bel hB hn; clear hn)
              | (go_at_call 9; refine (copy_at _ p m L2 ST.out).mono ?_; rintro e wb ⟨q2, r2, rfl, SQ, _, _, hn⟩; replace ST := Lib.hid (ST.out.keep (Turned.of_below hn) (by simp) (by simp)); replace MM := Lib.hid (MM.out.below hn); replace hB := bel hB hn; clear hn)
              | (go_at_call 15; refine (same_yes _ p m q2 r2 L2 ST.out SQ).mono ?_; rintro e wc ⟨rfl, hn⟩; replace ST := Lib.hid (ST.out.keep (Turned.of_below hn) (by simp) (by simp)); replace MM := Lib.hid (MM.out.below hn); replace hB := bel hB hn; clear hn))
            go_roundg (ln0 + 1 - (k + 1))
            case measure => have := hg.out; omega
            case rel => exact ⟨k + 1, L2, n + 1, rfl, by omega, by go_num, rfl, ST.out, MM.out, vm, hB, by omega, by omega, by omega⟩
        · as_aux_lemma =>
            have AP := Lib.hid (fun (W1 : World) (h : CsO W1 w.heap.size u4 L) (hb : w.heap.size ≤ W1.heap.size) => rapply_any W1 w.heap.size u4 L h (n) y.op (by omega) hb)
            have AQ := Lib.hid (fun (W1 : World) (h : StAt W1 p m L) => apply_at W1 p m L h (by omega) (n) y.op)
            have hnl := next_len L (n) y.op
            have e1 := neq_res (told L (n) y.op)
            have e2 := fun op x' y' => guard_res op x' y' (told L (n) y.op)
            unfold ApplyP at AP
            generalize told L (n) y.op = R at *
            generalize next L (n) y.op = L2 at *
            go_upto_region 16 with (first
              | ((with_reducible show wpList _ _ _ (⟨some 42, .load TO _, _, _, _, _⟩ :: _) _ _); refine wpList_load_mid rfl TO _ rfl x 2 rfl y.op.cells d1 (by simpa using range_op (off := 0) K.out.rangeAll) hd1.out hdr1 info_op ?_)
              | (go_at_call 13; refine (AP.out _ MM.out hB.size).mono ?_; rintro e w5 ⟨v2, rfl, MN, hn, hv2⟩; have vm2 : ∀ j, v2.ownBlock = some j → j ≠ m := (fun j hj => hv2.elim (fun e => by subst e; exact vm.out j hj) (fun f => by have := f j hj; omega)); replace vm2 := Lib.hid vm2; replace ST := Lib.hid (ST.out.keep (Turned.of_below hn) (by simp) (by simp)); replace SC := Lib.hid (SC.out.keep (Turned.of_below hn) (by simp) (by simp)); replace MM := Lib.hid (MM.out.below hn); have ML := Lib.hid MN; replace hB := bel hB hn; replace K := Lib.hid (K.out.below hn hx); have s5 := hn.size; clear MN hn hv2)
              | ((with_reducible show wpList _ _ _ (⟨some 11, .alloc _, _, _, _, _⟩ :: _) _ _); refine wpList_alloc_blk rfl TR rfl _ zero_res ?_; intro w6 hn K6 S6; clear S6; replace ST := Lib.hid (ST.out.keep (Turned.of_below hn) (by simp) (by simp)); replace SC := Lib.hid (SC.out.keep (Turned.of_below hn) (by simp) (by simp)); replace MM := Lib.hid (MM.out.below hn); have mlt5 := Lib.hid (cso_lt MM.out); have mlt6 := Lib.hid (cso_lt ML.out); replace ML := Lib.hid (ML.out.below hn); replace hB := bel hB hn; replace K := Lib.hid (K.out.below hn (by omega)); clear hn)
              | ((with_reducible show wpList _ _ _ (⟨none, .store TR (.tmp 11) _, _, _, _, _⟩ :: _) _ _); refine wpList_store_blk rfl TR _ _ rfl w5.heap.size TR zeroR.cells R.cells 4 rfl rfl K6 rfl (Rs.cellsN _) info_res ?_; intro w7 T7 K7 S7; clear S7; replace ST := Lib.hid (ST.out.keep T7 (by simp; omega) (by simp; omega)); replace SC := Lib.hid (SC.out.keep T7 (by have := SC0; simp; omega) (by have := SC0; simp; omega)); replace ML := Lib.hid (ML.out.turned T7 (fun j hj e => by have := mlt6.out j e; simp at hj; omega)); replace MM := Lib.hid (MM.out.turned T7 (fun j hj e => by have := mltw.out j e; simp at hj; omega)); replace K := Lib.hid (T7.blk K.out (by simp; omega)); replace hB := hB.trans (T7.below hB.size (by have := hB.size; simp; omega)); have l7 := K7.lt; clear K6 T7 c0 c1 c3 cop))
            have TD : Turned [] w7 w7.drew := ⟨rfl, rfl, rfl, Nat.le_refl _, fun _ _ _ => rfl⟩
            replace ST := Lib.hid (ST.out.keep TD (by simp) (by simp))
            replace SC := Lib.hid (SC.out.keep TD (by simp) (by simp))
            replace MM := Lib.hid (MM.out.turned TD (by simp))
            replace ML := Lib.hid (ML.out.turned TD (by simp))
            replace K := Lib.hid (TD.blk K.out (by simp))
            replace K7 := Lib.hid (TD.blk K7 (by simp))
            replace hB := hB.trans (TD.below hB.size (by simp))
            obtain ⟨_, _, _, cop⟩ := acells K.out
            have r0 := ldR K7.out
            clear TD
            go_region_held3 (fun W' => ldRun Try.prog TO W' (.pointer (some ⟨x, 2, none⟩)) = .ok (.value (.agg y.op.cells.toArray)) W' ∧ ldRun Try.prog TR W' (.pointer (some ⟨w5.heap.size, 0, none⟩)) = .ok (.value (.agg R.cells.toArray)) W') (first | exact ⟨cop, r0⟩) (first
              | (go_at_call 12; refine (AQ.out _ ST.out).mono ?_; rintro e w8 ⟨rfl, ST8, T8⟩; replace ST := Lib.hid ST8; replace SC := Lib.hid (SC.out.keep T8 (by have := SC0; simp; omega) (by have := SC0; simp; omega)); replace MM := Lib.hid (MM.out.turned T8 (fun j hj e => vm.out _ e (by simpa using hj))); replace ML := Lib.hid (ML.out.turned T8 (fun j hj e => vm2.out _ e (by simpa using hj))); replace K7 := Lib.hid (T8.blk K7.out (by simp; omega)); replace hB := hB.trans (T8.below hB.size (by simp; omega)); clear r0 cop; have r0 := ldR K7.out; replace K := Lib.hid (T8.blk K.out (by simp; omega)); obtain ⟨_, _, _, cop⟩ := acells K.out; clear T8 ST8)
              | (go_at_call 14; refine (alike_any _ q r L SC.out _ _ MM.out (by omega)).mono ?_; rintro e w9 ⟨rfl, hn⟩; replace ST := Lib.hid (ST.out.keep (Turned.of_below hn) (by simp) (by simp)); replace ML := Lib.hid (ML.out.below hn); replace K := Lib.hid (K.out.below hn K.out.lt); replace K7 := Lib.hid (K7.out.below hn K7.out.lt); clear r0 cop; have r0 := ldR K7.out; obtain ⟨_, _, _, cop⟩ := acells K.out; replace hB := bel hB hn; clear hn))
            replace MM := ML
            replace vm := vm2
            clear e1 e2 r0 cop
            go_wp2_with (first
              | (go_at_call 14; refine (alike_any _ p m L2 ST.out _ _ MM.out (by omega)).mono ?_; rintro e wa ⟨rfl, hn⟩; replace ST := Lib.hid (ST.out.keep (Turned.of_below hn) (by simp) (by simp)); replace MM := Lib.hid (MM.out.below hn); replace hB := bel hB hn; clear hn)
              | (go_at_call 9; refine (copy_at _ p m L2 ST.out).mono ?_; rintro e wb ⟨q2, r2, rfl, SQ, _, _, hn⟩; replace ST := Lib.hid (ST.out.keep (Turned.of_below hn) (by simp) (by simp)); replace MM := Lib.hid (MM.out.below hn); replace hB := bel hB hn; clear hn)
              | (go_at_call 15; refine (same_yes _ p m q2 r2 L2 ST.out SQ).mono ?_; rintro e wc ⟨rfl, hn⟩; replace ST := Lib.hid (ST.out.keep (Turned.of_below hn) (by simp) (by simp)); replace MM := Lib.hid (MM.out.below hn); replace hB := bel hB hn; clear hn))
            go_roundg (ln0 + 1 - (k + 1))
            case measure => have := hg.out; omega
            case rel => exact ⟨k + 1, L2, n + 1, rfl, by omega, by go_num, rfl, ST.out, MM.out, vm, hB, by omega, by omega, by omega⟩
        · as_aux_lemma =>
            have AP := Lib.hid (fun (W1 : World) (h : CsO W1 w.heap.size u4 L) (hb : w.heap.size ≤ W1.heap.size) => rapply_any W1 w.heap.size u4 L h (n) y.op (by omega) hb)
            have AQ := Lib.hid (fun (W1 : World) (h : StAt W1 p m L) => apply_at W1 p m L h (by omega) (n) y.op)
            have hnl := next_len L (n) y.op
            have e1 := neq_res (told L (n) y.op)
            have e2 := fun op x' y' => guard_res op x' y' (told L (n) y.op)
            unfold ApplyP at AP
            generalize told L (n) y.op = R at *
            generalize next L (n) y.op = L2 at *
            go_upto_region 16 with (first
              | ((with_reducible show wpList _ _ _ (⟨some 42, .load TO _, _, _, _, _⟩ :: _) _ _); refine wpList_load_mid rfl TO _ rfl x 2 rfl y.op.cells d1 (by simpa using range_op (off := 0) K.out.rangeAll) hd1.out hdr1 info_op ?_)
              | (go_at_call 13; refine (AP.out _ MM.out hB.size).mono ?_; rintro e w5 ⟨v2, rfl, MN, hn, hv2⟩; have vm2 : ∀ j, v2.ownBlock = some j → j ≠ m := (fun j hj => hv2.elim (fun e => by subst e; exact vm.out j hj) (fun f => by have := f j hj; omega)); replace vm2 := Lib.hid vm2; replace ST := Lib.hid (ST.out.keep (Turned.of_below hn) (by simp) (by simp)); replace SC := Lib.hid (SC.out.keep (Turned.of_below hn) (by simp) (by simp)); replace MM := Lib.hid (MM.out.below hn); have ML := Lib.hid MN; replace hB := bel hB hn; replace K := Lib.hid (K.out.below hn hx); have s5 := hn.size; clear MN hn hv2)
              | ((with_reducible show wpList _ _ _ (⟨some 11, .alloc _, _, _, _, _⟩ :: _) _ _); refine wpList_alloc_blk rfl TR rfl _ zero_res ?_; intro w6 hn K6 S6; clear S6; replace ST := Lib.hid (ST.out.keep (Turned.of_below hn) (by simp) (by simp)); replace SC := Lib.hid (SC.out.keep (Turned.of_below hn) (by simp) (by simp)); replace MM := Lib.hid (MM.out.below hn); have mlt5 := Lib.hid (cso_lt MM.out); have mlt6 := Lib.hid (cso_lt ML.out); replace ML := Lib.hid (ML.out.below hn); replace hB := bel hB hn; replace K := Lib.hid (K.out.below hn (by omega)); clear hn)
              | ((with_reducible show wpList _ _ _ (⟨none, .store TR (.tmp 11) _, _, _, _, _⟩ :: _) _ _); refine wpList_store_blk rfl TR _ _ rfl w5.heap.size TR zeroR.cells R.cells 4 rfl rfl K6 rfl (Rs.cellsN _) info_res ?_; intro w7 T7 K7 S7; clear S7; replace ST := Lib.hid (ST.out.keep T7 (by simp; omega) (by simp; omega)); replace SC := Lib.hid (SC.out.keep T7 (by have := SC0; simp; omega) (by have := SC0; simp; omega)); replace ML := Lib.hid (ML.out.turned T7 (fun j hj e => by have := mlt6.out j e; simp at hj; omega)); replace MM := Lib.hid (MM.out.turned T7 (fun j hj e => by have := mltw.out j e; simp at hj; omega)); replace K := Lib.hid (T7.blk K.out (by simp; omega)); replace hB := hB.trans (T7.below hB.size (by have := hB.size; simp; omega)); have l7 := K7.lt; clear K6 T7 c0 c1 c3 cop))
            have TD : Turned [] w7 w7.drew := ⟨rfl, rfl, rfl, Nat.le_refl _, fun _ _ _ => rfl⟩
            replace ST := Lib.hid (ST.out.keep TD (by simp) (by simp))
            replace SC := Lib.hid (SC.out.keep TD (by simp) (by simp))
            replace MM := Lib.hid (MM.out.turned TD (by simp))
            replace ML := Lib.hid (ML.out.turned TD (by simp))
            replace K := Lib.hid (TD.blk K.out (by simp))
            replace K7 := Lib.hid (TD.blk K7 (by simp))
            replace hB := hB.trans (TD.below hB.size (by simp))
            obtain ⟨_, _, _, cop⟩ := acells K.out
            have r0 := ldR K7.out
            clear TD
            go_region_held3 (fun W' => ldRun Try.prog TO W' (.pointer (some ⟨x, 2, none⟩)) = .ok (.value (.agg y.op.cells.toArray)) W' ∧ ldRun Try.prog TR W' (.pointer (some ⟨w5.heap.size, 0, none⟩)) = .ok (.value (.agg R.cells.toArray)) W') (first | exact ⟨cop, r0⟩) (first
              | (go_at_call 12; refine (AQ.out _ ST.out).mono ?_; rintro e w8 ⟨rfl, ST8, T8⟩; replace ST := Lib.hid ST8; replace SC := Lib.hid (SC.out.keep T8 (by have := SC0; simp; omega) (by have := SC0; simp; omega)); replace MM := Lib.hid (MM.out.turned T8 (fun j hj e => vm.out _ e (by simpa using hj))); replace ML := Lib.hid (ML.out.turned T8 (fun j hj e => vm2.out _ e (by simpa using hj))); replace K7 := Lib.hid (T8.blk K7.out (by simp; omega)); replace hB := hB.trans (T8.below hB.size (by simp; omega)); clear r0 cop; have r0 := ldR K7.out; replace K := Lib.hid (T8.blk K.out (by simp; omega)); obtain ⟨_, _, _, cop⟩ := acells K.out; clear T8 ST8)
              | (go_at_call 14; refine (alike_any _ q r L SC.out _ _ MM.out (by omega)).mono ?_; rintro e w9 ⟨rfl, hn⟩; replace ST := Lib.hid (ST.out.keep (Turned.of_below hn) (by simp) (by simp)); replace ML := Lib.hid (ML.out.below hn); replace K := Lib.hid (K.out.below hn K.out.lt); replace K7 := Lib.hid (K7.out.below hn K7.out.lt); clear r0 cop; have r0 := ldR K7.out; obtain ⟨_, _, _, cop⟩ := acells K.out; replace hB := bel hB hn; clear hn))
            replace MM := ML
            replace vm := vm2
            clear e1 e2 r0 cop
            go_wp2_with (first
              | (go_at_call 14; refine (alike_any _ p m L2 ST.out _ _ MM.out (by omega)).mono ?_; rintro e wa ⟨rfl, hn⟩; replace ST := Lib.hid (ST.out.keep (Turned.of_below hn) (by simp) (by simp)); replace MM := Lib.hid (MM.out.below hn); replace hB := bel hB hn; clear hn)
              | (go_at_call 9; refine (copy_at _ p m L2 ST.out).mono ?_; rintro e wb ⟨q2, r2, rfl, SQ, _, _, hn⟩; replace ST := Lib.hid (ST.out.keep (Turned.of_below hn) (by simp) (by simp)); replace MM := Lib.hid (MM.out.below hn); replace hB := bel hB hn; clear hn)
              | (go_at_call 15; refine (same_yes _ p m q2 r2 L2 ST.out SQ).mono ?_; rintro e wc ⟨rfl, hn⟩; replace ST := Lib.hid (ST.out.keep (Turned.of_below hn) (by simp) (by simp)); replace MM := Lib.hid (MM.out.below hn); replace hB := bel hB hn; clear hn))
            go_roundg (ln0 + 1 - (k + 1))
            case measure => have := hg.out; omega
            case rel => exact ⟨k + 1, L2, n + 1, rfl, by omega, by go_num, rfl, ST.out, MM.out, vm, hB, by omega, by omega, by omega⟩
      · obtain rfl : k = ln0 := by omega
        go_wp2_with (go_at_call 7; refine (stored_any _).mono ?_; rintro e w9 ⟨rfl, hn⟩; replace hB := bel hB hn; clear hn)
        go_ret
        exact ⟨rfl, hB⟩

/-! ### The row. -/
set_option maxRecDepth 100000 in
theorem lifted (os : Os) (started : os.Started) (H : Type) (enc : TypeId × Value → H) :
    ReturnsInHanded {} Try.checked os 3 .any (Rows.kvPlaySpec.pre6 enc Try.prog Try.f3 Rows.kvPlayRow.domain false) (Rows.kvPlaySpec.post enc Try.prog Try.f3 false true false false) := by
  refine returnsInHanded_of_change (C := Try.checked) own started (by kernel_rfl) Try.func3
    (ChangeSpec.witness6 (enc := enc) (C := Try.checked) false ⟨#[], #[.slice none 0 0], []⟩ 8 (by kernel_rfl) (by kernel_rfl) (by kernel_rfl) (by kernel_rfl)) ?_
  intro W base args ds gs before hval0 hW hcnd _
  have hval : ∀ (j : Nat) t v, Try.f3.params[j]? = some t → args[j]? = some v → Value.okWide Try.prog W .any base t v := hval0
  have hW' := hW
  obtain ⟨p, q, hA0, hV, rfl, hfz, hnd⟩ := hW
  have hA : DataW.TrodAll enc Try.prog W 0 (fun _ => true) true Try.f3.params.toList args.toList ds p := hA0
  rw [Try.params3] at hA hval
  obtain ⟨v0, vs0, d0, ds0, p0, q0, hargs, rfl, rfl, h0, r0⟩ := trodAll_cons hA
  obtain ⟨rfl, rfl, rfl⟩ := trodAll_nil r0
  obtain rfl : args = #[v0] := by cases args; simp_all
  obtain ⟨rfl, rfl⟩ := trodVars_none hV
  have k0 := h0
  have lt0 : ∀ x ∈ p0, x.block < W.heap.size := by obtain ⟨m, hm⟩ := k0; exact DataW.trod_lt m _ _ _ hm
  have f0 := fits_of_Trod sh0 h0; obtain ⟨ao0, ln0, cp0, rfl⟩ := okWide_slice Try.underlying22 (hval 0 22 v0 rfl rfl)
  clear hA0 hval0
  refine (walk W ao0 ln0 cp0 f0).mono fun e W' ⟨he, bel⟩ => ?_
  subst he
  exact ⟨_, rfl, _, _, _, [], _, [], hW', trodAll_mk1 (shut_bool Try.underlying4 _), (trodAll_cons_mk (Below.trod laidOut (by kernel_rfl) (of_decide_eq_true (by kernel_rfl)) k0 bel lt0) trodAll_mk0), rfl, bel.frame _, fun h => by cases h⟩

theorem over : Rows.kvPlayRow.holds Try.pinned (OpenSpec.ofChange Rows.kvPlaySpec) :=
  OpenClaim.holds_of_wide 3 Try.f3 rfl rfl rfl rfl rfl rfl rfl ⟨rfl, rfl, rfl, rfl, rfl⟩ rfl rfl rfl rfl rfl (by kernel_rfl) Try.func3 (by kernel_rfl)
    (of_decide_eq_true (by kernel_rfl)) (by unfold Func.isWrapper; first | (rw [if_pos (by decide +kernel)]; kernel_rfl) | (rw [if_neg (by decide +kernel)]; exact ⟨rfl, rfl⟩))
    (fun os started H enc _ => lifted os started H enc)

/-- THE STATEMENT. -/
theorem proved : Rows.KvPlaySaid := over
#print axioms proved
end Go.Proofs.Ytkicbjjmmcjkhaa.kvPlay
