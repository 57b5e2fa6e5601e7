/-
  Law KvSwap answers true for every list of acts, every swap and every version, and leaves them as they were: behind whatever was applied, a swap with the version that Look tells is done, with another one it is not and tells what is there; what is applied to one key makes no difference to another one. Conditions: none.
-/
import Derived.Test.YtkicbjjmmcjkhaaRows
import Derived.WalkKit
import Derived.ProofKit
import Derived.OpenShut
import Derived.ShutString
import Derived.ChangeOld
import Derived.Below
import Derived.Test.YtkicbjjmmcjkhaaTyped
import Derived.Test.YtkicbjjmmcjkhaaKvB
import Derived.Test.YtkicbjjmmcjkhaaOpsC
import Derived.Test.YtkicbjjmmcjkhaaCell
import Derived.Deep.DeepCutAuto
import Derived.Deep.CutBlock
import Derived.Deep.RegionHeld3
open Go.Proofs.Ytkicbjjmmcjkhaa.Mem Go.Proofs.Ytkicbjjmmcjkhaa.Ops Go.Proofs.Ytkicbjjmmcjkhaa.Kv
namespace Go.Proofs.Ytkicbjjmmcjkhaa.kvSwap
open Go.ChangeShapes Go.WideShapes Go.ChangeAt Go.RowKit
open Go.ChangeMaps (open_string shut_string)
open Go.Proofs.Ytkicbjjmmcjkhaa.Mem
set_option linter.unusedVariables false

theorem own : ownKnob Try.prog.godebug = none := by kernel_rfl
theorem laidOut : laidOutB Try.prog = true := by kernel_rfl

def ty0 : Ty := .slice actTy
def ty1 : Ty := opTy
def wit1 : List Value := zeroO.cells
theorem info_int : (Try.prog.info? 3).map (·.size) = some 1 := by kernel_rfl
attribute [local go_sem ↓] execLoadO execLoadR

theorem sh0 : tyOf Try.prog 20 22 = some ty0 := by kernel_rfl
theorem sh1 : tyOf Try.prog 20 29 = some ty1 := by kernel_rfl

/-! ### The walk: the law answers true, and writes nothing that was there. -/
set_option maxRecDepth 100000
set_option maxHeartbeats 8000000
theorem walk (w : World) (ao0 : Option Addr) (ln0 cp0 : Nat) (c1 : List Value) (a2 : Int) (f0 : Fits w ty0 [.slice ao0 ln0 cp0]) (f1 : Fits w ty1 c1) (w2 : (Lit.int .u16 a2).wf = true) :
    Calls Try.prog 5 #[.slice ao0 ln0 cp0, .agg c1.toArray, .int .u16 a2] w fun e w' => e = .returned (.bool true) ∧ Below w.heap.size w w' := by
  obtain ⟨hlc, hcp, g, hA, hAk⟩ := acts_fits f0
  obtain ⟨⟨kd, ky, vl, vr⟩, rfl⟩ := op_fits f1
  obtain ⟨v0, v1⟩ := bounds_u16 w2
  clear f0 f1 hAk
  have hl63 : (ln0 : Int) ≤ 9223372036854775807 := by omega
  have GR := Lib.hid (fun (W : World) (h : Below w.heap.size w W) => greatL_any W ao0 ln0 cp0 g (hA.below h) 60 hl63)
  have CK := Lib.hid (fun (W : World) => check_any (O.mk 4 ky vl 0) W)
  obtain ⟨d1, hd1, hdr1⟩ := row_op
  replace hd1 := Lib.hid hd1
  cases hgr : greatL g ln0 60 with
  | true =>
    rw [hgr] at GR
    clear hgr hA
    go_enter Try.func5, Try.ntmps5
    go_wp2_with (first
      | ((with_reducible show wpList _ _ _ (⟨some 4, .box _ _, _, _, _, _⟩ :: _) _ _); refine wpList_box_blk rfl TO _ rfl (O.mk kd ky vl vr).cells rfl ?_; intro W1 B1 K1 S1; clear S1; have HK := ((Kept.start w).below B1).add K1; clear B1 K1)
      | ((with_reducible show wpList _ _ _ (⟨none, .store _ (.tmp 16) _, _, _, _, _⟩ :: _) _ _); refine wpList_store_cell rfl 3 _ _ rfl w.heap.size 0 (.int .i64 4) TO (O.mk kd ky vl vr).cells rfl rfl (HK.blk (List.mem_cons_self)) (by simp [O.cells]) rfl info_int ?_; intro W2 T2 K2 S2; clear S2; replace HK := HK.swap T2 (Nat.le_refl _) (by simp) K2; clear T2 K2)
      | ((with_reducible show wpList _ _ _ (⟨none, .store _ (.tmp 17) _, _, _, _, _⟩ :: _) _ _); refine wpList_store_cell rfl 3 _ _ rfl w.heap.size 3 (.int .i64 0) TO _ rfl rfl (HK.blk (List.mem_cons_self)) (by simp [O.cells]) rfl info_int ?_; intro W3 T3 K3 S3; clear S3; replace HK := HK.swap T3 (Nat.le_refl _) (by simp) (show Blk W3 w.heap.size TO (O.mk 4 ky vl 0).cells from K3); have g0 := ldO (HK.blk (List.mem_cons_self)); clear T3 K3)
      | (go_at_call 6; (refine (GR.out _ HK.ends).mono ?_; rintro e w4 ⟨rfl, hn⟩; replace HK := HK.below hn; clear g0; have g0 := ldO (HK.blk (List.mem_cons_self)); clear hn))
      | (go_at_call 7; refine (stored_any _).mono ?_; rintro e w7 ⟨rfl, hn⟩; replace HK := HK.below hn; clear hn))
    go_ret
    exact ⟨rfl, HK.ends⟩
  | false =>
    rw [hgr] at GR
    have h60 : ln0 ≤ 60 := by
      unfold greatL at hgr
      simp only [Bool.or_eq_false_iff, decide_eq_false_iff_not] at hgr
      omega
    clear hgr
    replace hA := Lib.hid hA
    rcases check_three (O.mk 4 ky vl 0) with hc | hc | hc
    rotate_left
    · rw [hc] at CK
      go_enter Try.func5, Try.ntmps5
      go_wp2_with (first
        | ((with_reducible show wpList _ _ _ (⟨some 4, .box _ _, _, _, _, _⟩ :: _) _ _); refine wpList_box_blk rfl TO _ rfl (O.mk kd ky vl vr).cells rfl ?_; intro W1 B1 K1 S1; clear S1; have HK := ((Kept.start w).below B1).add K1; clear B1 K1)
        | ((with_reducible show wpList _ _ _ (⟨none, .store _ (.tmp 16) _, _, _, _, _⟩ :: _) _ _); refine wpList_store_cell rfl 3 _ _ rfl w.heap.size 0 (.int .i64 4) TO (O.mk kd ky vl vr).cells rfl rfl (HK.blk (List.mem_cons_self)) (by simp [O.cells]) rfl info_int ?_; intro W2 T2 K2 S2; clear S2; replace HK := HK.swap T2 (Nat.le_refl _) (by simp) K2; clear T2 K2)
        | ((with_reducible show wpList _ _ _ (⟨none, .store _ (.tmp 17) _, _, _, _, _⟩ :: _) _ _); refine wpList_store_cell rfl 3 _ _ rfl w.heap.size 3 (.int .i64 0) TO _ rfl rfl (HK.blk (List.mem_cons_self)) (by simp [O.cells]) rfl info_int ?_; intro W3 T3 K3 S3; clear S3; replace HK := HK.swap T3 (Nat.le_refl _) (by simp) (show Blk W3 w.heap.size TO (O.mk 4 ky vl 0).cells from K3); have g0 := ldO (HK.blk (List.mem_cons_self)); clear T3 K3)
        | (go_at_call 6; (refine (GR.out _ HK.ends).mono ?_; rintro e w4 ⟨rfl, hn⟩; replace HK := HK.below hn; clear g0; have g0 := ldO (HK.blk (List.mem_cons_self)); clear hn))
        | (go_at_call 18; refine (CK.out _).mono ?_; rintro e w5 ⟨rfl, hn⟩; replace HK := HK.below hn; clear g0 hn)
        | (go_at_call 7; refine (stored_any _).mono ?_; rintro e w7 ⟨rfl, hn⟩; replace HK := HK.below hn; clear hn))
      go_ret
      exact ⟨rfl, HK.ends⟩
    · rw [hc] at CK
      go_enter Try.func5, Try.ntmps5
      go_wp2_with (first
        | ((with_reducible show wpList _ _ _ (⟨some 4, .box _ _, _, _, _, _⟩ :: _) _ _); refine wpList_box_blk rfl TO _ rfl (O.mk kd ky vl vr).cells rfl ?_; intro W1 B1 K1 S1; clear S1; have HK := ((Kept.start w).below B1).add K1; clear B1 K1)
        | ((with_reducible show wpList _ _ _ (⟨none, .store _ (.tmp 16) _, _, _, _, _⟩ :: _) _ _); refine wpList_store_cell rfl 3 _ _ rfl w.heap.size 0 (.int .i64 4) TO (O.mk kd ky vl vr).cells rfl rfl (HK.blk (List.mem_cons_self)) (by simp [O.cells]) rfl info_int ?_; intro W2 T2 K2 S2; clear S2; replace HK := HK.swap T2 (Nat.le_refl _) (by simp) K2; clear T2 K2)
        | ((with_reducible show wpList _ _ _ (⟨none, .store _ (.tmp 17) _, _, _, _, _⟩ :: _) _ _); refine wpList_store_cell rfl 3 _ _ rfl w.heap.size 3 (.int .i64 0) TO _ rfl rfl (HK.blk (List.mem_cons_self)) (by simp [O.cells]) rfl info_int ?_; intro W3 T3 K3 S3; clear S3; replace HK := HK.swap T3 (Nat.le_refl _) (by simp) (show Blk W3 w.heap.size TO (O.mk 4 ky vl 0).cells from K3); have g0 := ldO (HK.blk (List.mem_cons_self)); clear T3 K3)
        | (go_at_call 6; (refine (GR.out _ HK.ends).mono ?_; rintro e w4 ⟨rfl, hn⟩; replace HK := HK.below hn; clear g0; have g0 := ldO (HK.blk (List.mem_cons_self)); clear hn))
        | (go_at_call 18; refine (CK.out _).mono ?_; rintro e w5 ⟨rfl, hn⟩; replace HK := HK.below hn; clear g0 hn)
        | (go_at_call 7; refine (stored_any _).mono ?_; rintro e w7 ⟨rfl, hn⟩; replace HK := HK.below hn; clear hn))
      go_ret
      exact ⟨rfl, HK.ends⟩
    · rw [hc] at CK
      replace hc := Lib.hid hc
      go_enter Try.func5, Try.ntmps5
      go_wp2_with (first
        | ((with_reducible show wpList _ _ _ (⟨some 4, .box _ _, _, _, _, _⟩ :: _) _ _); refine wpList_box_blk rfl TO _ rfl (O.mk kd ky vl vr).cells rfl ?_; intro W1 B1 K1 S1; clear S1; have HK := ((Kept.start w).below B1).add K1; clear B1 K1)
        | ((with_reducible show wpList _ _ _ (⟨none, .store _ (.tmp 16) _, _, _, _, _⟩ :: _) _ _); refine wpList_store_cell rfl 3 _ _ rfl w.heap.size 0 (.int .i64 4) TO (O.mk kd ky vl vr).cells rfl rfl (HK.blk (List.mem_cons_self)) (by simp [O.cells]) rfl info_int ?_; intro W2 T2 K2 S2; clear S2; replace HK := HK.swap T2 (Nat.le_refl _) (by simp) K2; clear T2 K2)
        | ((with_reducible show wpList _ _ _ (⟨none, .store _ (.tmp 17) _, _, _, _, _⟩ :: _) _ _); refine wpList_store_cell rfl 3 _ _ rfl w.heap.size 3 (.int .i64 0) TO _ rfl rfl (HK.blk (List.mem_cons_self)) (by simp [O.cells]) rfl info_int ?_; intro W3 T3 K3 S3; clear S3; replace HK := HK.swap T3 (Nat.le_refl _) (by simp) (show Blk W3 w.heap.size TO (O.mk 4 ky vl 0).cells from K3); have g0 := ldO (HK.blk (List.mem_cons_self)); clear T3 K3)
        | (go_at_call 6; (refine (GR.out _ HK.ends).mono ?_; rintro e w4 ⟨rfl, hn⟩; replace HK := HK.below hn; clear g0; have g0 := ldO (HK.blk (List.mem_cons_self)); clear hn))
        | (go_at_call 18; refine (CK.out _).mono ?_; rintro e w5 ⟨rfl, hn⟩; replace HK := HK.below hn; clear g0 hn)
        | (go_at_call 8; refine (new_any _).mono ?_; rintro e w6 ⟨p, m, rfl, ST, hp, hm, hn⟩; have lo := HK.lt (List.mem_cons_self); replace HK := HK.below hn; have hbm : w.heap.size < m := (by omega); have hbp : w.heap.size < p := (by omega); clear hn hp hm lo))
      go_loopg [8] (ln0 + 1) (fun gk i wr => ∃ (k : Nat) (L : List C), gk = ln0 + 1 - k ∧ k ≤ ln0 ∧ i = .int .i64 (k : Int) ∧ StAt wr p m L ∧ Vers L ∧ L.length ≤ k ∧ Kept w [(w.heap.size, TO, (O.mk 4 ky vl 0).cells)] wr)
      case atStart => exact ⟨0, [], rfl, Nat.zero_le _, rfl, ST, fun _ h => (by simp at h), Nat.le_refl _, HK⟩
      case round =>
        clear HK ST
        obtain ⟨k, L, hg, hk, rfl, ST, hV, hLk, HK⟩ := hrel
        replace hg := Lib.hid hg
        obtain ⟨hpl, hml⟩ := ST.lt
        by_cases hlt : k < ln0
        · obtain ⟨b, off, rfl, hb, hr⟩ := hA.out.below HK.ends k hlt
          have hr2 := Lib.hid (range_op hr)
          have hkk : (k : Int) < (ln0 : Int) := by omega
          have hvn := Lib.hid (vers_next hV ((k : Int) + 1) (g k).op)
          have hln := next_len L ((k : Int) + 1) (g k).op
          clear hr hA GR CK
          generalize (g k).op = y at *
          replace hV := Lib.hid hV
          replace HK := Lib.hid HK
          replace ST := Lib.hid ST
          go_wp2_with (first
            | ((with_reducible show wpList _ _ _ (⟨some 40, .load TO _, _, _, _, _⟩ :: _) _ _); refine wpList_load_mid rfl TO _ rfl b (off + k * 6 + 2) rfl y.cells d1 hr2.out hd1.out hdr1 info_op ?_)
            | (go_at_call 12; refine (apply_at _ p m L ST.out (by omega) ((k : Int) + 1) y).mono ?_; rintro e w8 ⟨rfl, ST8, T8⟩; replace HK := Lib.hid (HK.out.turned T8 (by omega) (by simp; omega)); clear T8))
          go_roundg (ln0 + 1 - (k + 1))
          case measure => have := hg.out; omega
          case rel => exact ⟨k + 1, _, rfl, by omega, by go_num, ST8, hvn.out, by omega, HK.out⟩
        · obtain rfl : k = ln0 := by omega
          clear hA GR CK hg hlt
          obtain ⟨I, hI⟩ : ∃ I : Rs, I = Kv.look L ky 0 := ⟨_, rfl⟩
          have hIv := vers_look hV ky 0
          have hky : ky.length ≤ 1000000 := by have : ky.length ≤ 16 := (fine_of hc.out).y2; omega
          have LK := Lib.hid (fun (W : World) (h : StAt W p m L) => look_at W p m L h ky hky 0)
          rw [← hI] at hIv LK
          have hn : 1 ≤ (k : Int) + 1 ∧ (k : Int) + 1 ≤ 4096 := by omega
          obtain ⟨D1, N1⟩ := swap_done (L := L) hIv hc.out hn (by rw [hI])
          have hlo := Lib.hid (fun (key : List UInt8) (h : key ≠ ky) => look_other L ⟨ky, vl, (k : Int) + 1⟩ key h 3)
          have hlw := look_with L ⟨ky, vl, (k : Int) + 1⟩ ((k : Int) + 1)
          have hwl := withC_len L ⟨ky, vl, (k : Int) + 1⟩
          obtain ⟨V, hV2⟩ : ∃ V : Int, V = a2 % 4097 := ⟨_, rfl⟩
          have hVb : 0 ≤ V ∧ V ≤ 4096 := by omega
          have SD := swap_done (L := L) (k := ky) (v := vl) hVb hc.out hn
          have SN := swap_not (L := L) (k := ky) (v := vl) hVb hc.out hn
          rw [← hI] at SD SN
          have AB : ∃ (M : List C) (R : Rs), (∀ (W : World) (q r : Nat), StAt W q r L → Calls Try.prog 12 #[ptr q, .int .i64 ((k : Int) + 1), .agg (O.mk 4 ky vl V).cells.toArray] W fun e w' => e = .returned (.agg R.cells.toArray) ∧ StAt w' q r M ∧ Turned [r] W w') ∧ M.length ≤ L.length + 1 ∧ (∀ key, key ≠ ky → Kv.look M key 3 = Kv.look L key 3) ∧ (I.ver ≠ V → M = L ∧ R = ⟨3, I.val, I.ver, (k : Int) + 1⟩) := by
            by_cases hv : I.ver = V
            · obtain ⟨d, n'⟩ := SD hv
              refine ⟨withC L ⟨ky, vl, (k : Int) + 1⟩, ⟨1, [], (k : Int) + 1, (k : Int) + 1⟩, fun W q r h => ?_, hwl, hlo.out, fun h => absurd hv h⟩
              have := apply_at W q r L h (by omega) ((k : Int) + 1) (O.mk 4 ky vl V)
              rwa [d, n'] at this
            · obtain ⟨d, n'⟩ := SN hv
              refine ⟨L, ⟨3, I.val, I.ver, (k : Int) + 1⟩, fun W q r h => ?_, by omega, fun _ _ => rfl, fun _ => ⟨rfl, rfl⟩⟩
              have := apply_at W q r L h (by omega) ((k : Int) + 1) (O.mk 4 ky vl V)
              rwa [d, n'] at this
          clear SD SN
          obtain ⟨M, R, AB, hML, hMo, hMR⟩ := AB
          replace AB := Lib.hid AB
          replace hMo := Lib.hid hMo
          have AQ : ∀ (W : World), StAt W p m L → Calls Try.prog 12 #[ptr p, .int .i64 ((k : Int) + 1), .agg (O.mk 4 ky vl I.ver).cells.toArray] W fun e w' => e = .returned (.agg #[.int .i64 1, .string ⟨#[]⟩, .int .i64 ((k : Int) + 1), .int .i64 ((k : Int) + 1)]) ∧ StAt w' p m (withC L ⟨ky, vl, (k : Int) + 1⟩) ∧ Turned [m] W w' := fun W h => by
            have := apply_at W p m L h (by omega) ((k : Int) + 1) (O.mk 4 ky vl I.ver)
            rwa [D1, N1] at this
          clear D1 N1
          have LQ : ∀ (W : World), StAt W p m (withC L ⟨ky, vl, (k : Int) + 1⟩) → Calls Try.prog 10 #[ptr p, .string ⟨ky.toArray⟩, .int .i64 ((k : Int) + 1)] W fun e w' => e = .returned (.agg #[.int .i64 1, .string ⟨vl.toArray⟩, .int .i64 ((k : Int) + 1), .int .i64 ((k : Int) + 1)]) ∧ Below W.heap.size W w' := fun W h => by
            have := look_at W p m _ h ky hky ((k : Int) + 1)
            rwa [hlw] at this
          clear hlw
          have hmo : ∀ key, key ≠ ky → Kv.look M key 3 = Kv.look (withC L ⟨ky, vl, (k : Int) + 1⟩) key 3 := fun key h => (hMo.out key h).trans (hlo.out key h).symm
          clear hMo hlo
          generalize withC L ⟨ky, vl, (k : Int) + 1⟩ = L2 at *
          replace AQ := Lib.hid AQ
          replace LQ := Lib.hid LQ
          replace hmo := Lib.hid hmo
          have hk0 := HK.lt (List.mem_cons_self)
          have s1 := HK.cell (List.mem_cons_self) 1 rfl
          replace ST := Lib.hid ST
          clear hI
          replace hV2 := Lib.hid hV2
          go_upto_region 12 with (first
            | (go_at_call 10; refine (LK.out _ ST.out).mono ?_; rintro e w9 ⟨rfl, hn⟩; replace HK := HK.below hn; replace ST := Lib.hid (ST.out.keep (Turned.of_below hn) (by simp) (by simp)); clear s1 hn)
            | ((with_reducible show wpList _ _ _ (⟨some 10, .alloc _, _, _, _, _⟩ :: _) _ _); refine wpList_alloc_blk rfl TR rfl _ zero_res ?_; intro w10 hn K10 S10; clear S10; have HKl := HK.lt (List.mem_cons_self); replace HK := (HK.below hn).add K10; have stl := ST.out.lt; replace ST := Lib.hid (ST.out.keep (Turned.of_below hn) (by simp) (by simp)); clear hn K10; generalize w9.heap.size = bi at *)
            | ((with_reducible show wpList _ _ _ (⟨none, .store TR (.tmp 10) _, _, _, _, _⟩ :: _) _ _); refine wpList_store_blk rfl TR _ _ rfl bi TR zeroR.cells I.cells 4 rfl rfl (HK.blk (List.mem_cons_self)) rfl (Rs.cellsN _) info_res ?_; intro w11 T11 K11 S11; clear S11; replace HK := HK.swap T11 (by omega) (by simp <;> omega) K11; replace ST := Lib.hid (ST.out.keep T11 (by simp <;> omega) (by simp <;> omega)); clear T11 K11)
            | (go_at_call 9; refine (copy_at _ p m L ST.out).mono ?_; rintro e w12 ⟨q, r, rfl, SC, hq, hr, hn⟩; have hbl := HK.lt (List.mem_cons_self); have hrl := SC.lt; have stl2 := ST.out.lt; replace HK := HK.below hn; replace ST := Lib.hid (ST.out.keep (Turned.of_below hn) (by simp) (by simp)); replace SC := Lib.hid SC; clear hn))
          go_upto_region 15 with (first
            | ((with_reducible show wpList _ _ _ (⟨some 51, .load TO _, _, _, _, _⟩ :: _) _ _); refine wpList_load_blk rfl TO _ rfl w.heap.size TO _ d1 rfl (HK.blk (T := TO) (List.mem_cons_of_mem _ (List.mem_cons_self))) hd1.out hdr1 info_op ?_)
            | ((with_reducible show wpList _ _ _ (⟨some 12, .alloc _, _, _, _, _⟩ :: _) _ _); refine wpList_alloc_blk rfl TO rfl _ zero_op ?_; intro w13 hn K13 S13; clear S13; have HKl2 := HK.lt (List.mem_cons_self); have stl3 := ST.out.lt; have scl3 := SC.out.lt; have s13 := hn.size; replace HK := (HK.below hn).add K13; replace ST := Lib.hid (ST.out.keep (Turned.of_below hn) (by simp) (by simp)); replace SC := Lib.hid (SC.out.keep (Turned.of_below hn) (by simp) (by simp)); clear hn K13; generalize w12.heap.size = bb at *)
            | ((with_reducible show wpList _ _ _ (⟨none, .store TO (.tmp 12) _, _, _, _, _⟩ :: _) _ _); refine wpList_store_blk rfl TO _ _ rfl bb TO zeroO.cells (O.mk 4 ky vl 0).cells 4 rfl rfl (HK.blk (List.mem_cons_self)) rfl (O.cellsN _) info_op ?_; intro w14 T14 K14 S14; clear S14; replace HK := HK.swap T14 (by omega) (by simp <;> omega) K14; replace ST := Lib.hid (ST.out.keep T14 (by simp <;> omega) (by simp <;> omega)); replace SC := Lib.hid (SC.out.keep T14 (by simp <;> omega) (by simp <;> omega)); clear T14 K14)
            | ((with_reducible show wpList _ _ _ (⟨none, .store _ (.tmp 55) _, _, _, _, _⟩ :: _) _ _); refine wpList_store_cell rfl 3 _ _ rfl bb 3 (.int .i64 V) TO _ rfl (by rw [hV2.out]; rfl) (HK.blk (List.mem_cons_self)) (by simp [O.cells]) rfl info_int ?_; intro w15 T15 K15 S15; clear S15; replace HK := HK.swap T15 (by omega) (by simp <;> omega) (show Blk w15 bb TO (O.mk 4 ky vl V).cells from K15); replace ST := Lib.hid (ST.out.keep T15 (by simp <;> omega) (by simp <;> omega)); replace SC := Lib.hid (SC.out.keep T15 (by simp <;> omega) (by simp <;> omega)); clear T15 K15)
            | ((with_reducible show wpList _ _ _ (⟨some 58, .load TO _, _, _, _, _⟩ :: _) _ _); refine wpList_load_blk rfl TO _ rfl bb TO _ d1 rfl (HK.blk (T := TO) (List.mem_cons_self)) hd1.out hdr1 info_op ?_)
            | (go_at_call 12; refine (AB.out _ q r SC.out).mono ?_; rintro e w16 ⟨rfl, SC16, T16⟩; replace HK := HK.turned T16 (by omega) (by simp <;> omega); replace ST := Lib.hid (ST.out.keep T16 (by simp <;> omega) (by simp <;> omega)); replace SC := Lib.hid SC16; clear T16 SC16)
            | ((with_reducible show wpList _ _ _ (⟨some 13, .alloc _, _, _, _, _⟩ :: _) _ _); refine wpList_alloc_blk rfl TR rfl _ zero_res ?_; intro w17 hn K17 S17; clear S17; have HKl4 := HK.lt (List.mem_cons_self); have stl4 := ST.out.lt; have scl4 := SC.out.lt; replace HK := (HK.below hn).add K17; replace ST := Lib.hid (ST.out.keep (Turned.of_below hn) (by simp) (by simp)); replace SC := Lib.hid (SC.out.keep (Turned.of_below hn) (by simp) (by simp)); clear hn K17; generalize w16.heap.size = br at *)
            | ((with_reducible show wpList _ _ _ (⟨none, .store TR (.tmp 13) _, _, _, _, _⟩ :: _) _ _); refine wpList_store_blk rfl TR _ _ rfl br TR zeroR.cells R.cells 4 rfl rfl (HK.blk (List.mem_cons_self)) rfl (Rs.cellsN _) info_res ?_; intro w18 T18 K18 S18; clear S18; replace HK := HK.swap T18 (by omega) (by simp <;> omega) K18; replace ST := Lib.hid (ST.out.keep T18 (by simp <;> omega) (by simp <;> omega)); replace SC := Lib.hid (SC.out.keep T18 (by simp <;> omega) (by simp <;> omega)); clear T18 K18))
          have b3 := HK.cell (b := bb) (T := TO) (cs := (O.mk 4 ky vl V).cells) (by simp) 3 rfl
          have i1 := HK.cell (b := bi) (T := TR) (cs := I.cells) (by simp) 1 rfl
          have i2 := HK.cell (b := bi) (T := TR) (cs := I.cells) (by simp) 2 rfl
          have z0 : Blk w18 br TR R.cells := HK.blk (by simp)
          have r0 := ldR z0
          have hmem : ∀ x, x ∈ [(w.heap.size, TO, (O.mk 4 ky vl 0).cells), (bi, TR, I.cells)] → x ∈ [(br, TR, R.cells), (bb, TO, (O.mk 4 ky vl V).cells), (bi, TR, I.cells), (w.heap.size, TO, (O.mk 4 ky vl 0).cells)] := fun x hx => by
            simp only [List.mem_cons, List.not_mem_nil, or_false] at hx ⊢
            rcases hx with rfl | rfl <;> simp
          replace HK := HK.less hmem
          clear hmem z0
          by_cases hv : I.ver = V
          · subst hv
            have t1 : (I.ver != I.ver) = false := by simp
            clear hMR
            as_aux_lemma =>
              go_upto_region 18 with (first
                | ((with_reducible show wpList _ _ _ (⟨none, .store _ (.tmp 83) _, _, _, _, _⟩ :: _) _ _); refine wpList_store_cell rfl 3 _ _ rfl w.heap.size 3 (.int .i64 I.ver) TO _ rfl rfl (HK.blk (List.mem_cons_self)) (by simp [O.cells]) rfl info_int ?_; intro w20 T20 K20 S20; clear S20; replace HK := HK.swap T20 (Nat.le_refl _) (by simp <;> omega) (show Blk w20 w.heap.size TO (O.mk 4 ky vl I.ver).cells from K20); replace ST := Lib.hid (ST.out.keep T20 (by simp <;> omega) (by simp <;> omega)); replace SC := Lib.hid (SC.out.keep T20 (by simp <;> omega) (by simp <;> omega)); clear T20 K20 i2))
              have TD : Turned [] w20 w20.drew := ⟨rfl, rfl, rfl, Nat.le_refl _, fun _ _ _ => rfl⟩
              replace ST := Lib.hid (ST.out.keep TD (by simp) (by simp))
              replace SC := Lib.hid (SC.out.keep TD (by simp) (by simp))
              replace HK := HK.drew
              have r0 := ldO (HK.blk (List.mem_cons_self))
              have k1 := HK.cell (List.mem_cons_self) 1 rfl
              have k2 := HK.cell (List.mem_cons_self) 2 rfl
              have q1 : ∀ w, (binOp .neq TR (.agg #[.int .i64 1, .string ⟨#[]⟩, .int .i64 ((k : Int) + 1), .int .i64 ((k : Int) + 1)]) (.agg #[.int .i64 1, .string ⟨#[]⟩, .int .i64 ((k : Int) + 1), .int .i64 ((k : Int) + 1)])).run Try.prog w = .ok (.bool false) w := neq_res ⟨1, [], (k : Int) + 1, (k : Int) + 1⟩
              have u1 : ∀ op x y w, (eqGuard op TR x y (.agg #[.int .i64 1, .string ⟨#[]⟩, .int .i64 ((k : Int) + 1), .int .i64 ((k : Int) + 1)]) (.agg #[.int .i64 1, .string ⟨#[]⟩, .int .i64 ((k : Int) + 1), .int .i64 ((k : Int) + 1)])).run Try.prog w = .ok () w := fun op x y => guard_res op x y ⟨1, [], (k : Int) + 1, (k : Int) + 1⟩
              have q2 : ∀ w, (binOp .neq TR (.agg #[.int .i64 1, .string ⟨vl.toArray⟩, .int .i64 ((k : Int) + 1), .int .i64 ((k : Int) + 1)]) (.agg #[.int .i64 1, .string ⟨vl.toArray⟩, .int .i64 ((k : Int) + 1), .int .i64 ((k : Int) + 1)])).run Try.prog w = .ok (.bool false) w := neq_res ⟨1, vl, (k : Int) + 1, (k : Int) + 1⟩
              have u2 : ∀ op x y w, (eqGuard op TR x y (.agg #[.int .i64 1, .string ⟨vl.toArray⟩, .int .i64 ((k : Int) + 1), .int .i64 ((k : Int) + 1)]) (.agg #[.int .i64 1, .string ⟨vl.toArray⟩, .int .i64 ((k : Int) + 1), .int .i64 ((k : Int) + 1)])).run Try.prog w = .ok () w := fun op x y => guard_res op x y ⟨1, vl, (k : Int) + 1, (k : Int) + 1⟩
              clear TD
              go_region_held3 (fun W' => ldRun Try.prog TO W' (.pointer (some ⟨w.heap.size, 0, none⟩)) = .ok (.value (.agg (O.mk 4 ky vl I.ver).cells.toArray)) W' ∧ W'.cell? ⟨w.heap.size, 1, none⟩ = some (.string ⟨ky.toArray⟩) ∧ W'.cell? ⟨w.heap.size, 2, none⟩ = some (.string ⟨vl.toArray⟩)) (first | exact ⟨r0, k1, k2⟩) (first
                | (go_at_call 12; refine (AQ.out _ ST.out).mono ?_; rintro e w21 ⟨rfl, ST8, T8⟩; replace ST := Lib.hid ST8; replace SC := Lib.hid (SC.out.keep T8 (by simp; have := hrl; omega) (by simp; have := hrl; omega)); replace HK := HK.turned T8 (by omega) (by simp <;> omega); clear r0 k1 k2 T8 ST8; have r0 := ldO (HK.blk (List.mem_cons_self)); have k1 := HK.cell (List.mem_cons_self) 1 rfl; have k2 := HK.cell (List.mem_cons_self) 2 rfl)
                | (go_at_call 10; refine (LQ.out _ ST.out).mono ?_; rintro e w22 ⟨rfl, hn⟩; replace ST := Lib.hid (ST.out.keep (Turned.of_below hn) (by simp) (by simp)); replace SC := Lib.hid (SC.out.keep (Turned.of_below hn) (by simp) (by simp)); replace HK := HK.below hn; clear r0 k1 k2 hn; have r0 := ldO (HK.blk (List.mem_cons_self)); have k1 := HK.cell (List.mem_cons_self) 1 rfl; have k2 := HK.cell (List.mem_cons_self) 2 rfl))
              go_wp2_with (go_at_call 17; refine (keys_at _ q r M SC.out).mono ?_; rintro e w23 ⟨kv, rfl, hK, hn⟩; have ko := owned_lt hK; obtain ⟨ak, kc, rfl, hk1, hk2⟩ := owned_form hK; replace hK := Lib.hid hK; replace ST := Lib.hid (ST.out.keep (Turned.of_below hn) (by simp) (by simp)); replace SC := Lib.hid (SC.out.keep (Turned.of_below hn) (by simp) (by simp)); replace HK := HK.below hn; clear r0 k1 k2 hn; have f1 := HK.cell (List.mem_cons_self) 1 rfl)
              go_loopg [15] (M.length + 1) (fun gk i wr => ∃ j : Nat, gk = M.length + 1 - j ∧ j ≤ M.length ∧ i = .int .i64 (j : Int) ∧ Below w23.heap.size w23 wr)
              case atStart => exact ⟨0, rfl, Nat.zero_le _, rfl, Below.refl _ _⟩
              case round =>
                obtain ⟨j, hg, hj, rfl, hBr⟩ := hrel
                replace hg := Lib.hid hg
                by_cases hlt : j < M.length
                · obtain ⟨c, hc2⟩ : ∃ c, M[j]? = some c := ⟨_, List.getElem?_eq_getElem hlt⟩
                  have hjj : (j : Int) < (M.length : Int) := by omega
                  obtain ⟨kg, rfl⟩ := hk1 (by omega)
                  have f2 : w23.cell? ⟨kg, j, none⟩ = some (.string ⟨c.key.toArray⟩) := by rw [hK.out.cellAt j (by omega), keyR_get hc2]
                  obtain ⟨S, s0, sK, sB⟩ : ∃ S : World → Prop, S wr.drew ∧ (∀ W, S W → Below w23.heap.size w23 W) ∧ (∀ W W', S W → Below W.heap.size W W' → S W') := ⟨fun W => Below w23.heap.size w23 W, ⟨hBr.os, hBr.tape, hBr.output, hBr.size, hBr.block⟩, fun _ h => h, fun _ _ h hb => bel h hb⟩
                  haveI : Nonempty (Wd S) := ⟨⟨_, s0⟩⟩
                  have g1 : ∀ z : Wd S, z.w.cell? ⟨w.heap.size, 1, none⟩ = some (.string ⟨ky.toArray⟩) := fun z => ((sK _ z.h).cell (p := ⟨w.heap.size, 1, none⟩) (World.block_lt_of_cell? _ _ f1)).trans f1
                  have g2 : ∀ z : Wd S, z.w.cell? ⟨kg, j, none⟩ = some (.string ⟨c.key.toArray⟩) := fun z => ((sK _ z.h).cell (p := ⟨kg, j, none⟩) (World.block_lt_of_cell? _ _ f2)).trans f2
                  have hck : c.key.length ≤ 1000000 := by have := SC.out.keys c (List.mem_of_getElem? hc2); omega
                  have LP := Lib.hid (fun z : Wd S => look_at z.w p m L2 (ST.out.keep (Turned.of_below (sK _ z.h)) (by simp) (by simp)) c.key hck 3)
                  have LR := Lib.hid (fun z : Wd S => look_at z.w q r M (SC.out.keep (Turned.of_below (sK _ z.h)) (by simp) (by simp)) c.key hck 3)
                  clear f2 hk1 hc2
                  replace sK := Lib.hid sK
                  replace sB := Lib.hid sB
                  by_cases hk : c.key = ky
                  · have g3 : (c.key == ky) = true := by simpa using hk
                    replace hk := Lib.hid hk
                    go_wp2_with fail
                    refine wp_region_wd S s0 (by kernel_rfl) (by kernel_rfl) ?_
                    repeat (go_big_quiet_step (fail))
                    refine wpQuiet_nil ?_
                    rintro _ ⟨z, rfl⟩
                    have hBq := sK.out _ z.h
                    generalize z.w = W9 at *
                    clear g1 g2
                    go_wp2_with fail
                    go_roundg (M.length + 1 - (j + 1))
                    case measure => have := hg.out; omega
                    case rel => exact ⟨j + 1, rfl, by omega, by go_num, hBq⟩
                  · have g3 : (c.key == ky) = false := by simpa using hk
                    rw [hmo.out _ hk] at LR
                    replace hk := Lib.hid hk
                    have e1 := neq_res (Kv.look L2 c.key 3)
                    have e2 := fun op x y => guard_res op x y (Kv.look L2 c.key 3)
                    generalize Kv.look L2 c.key 3 = R9 at *
                    go_wp2_with fail
                    refine wp_region_wd S s0 (by kernel_rfl) (by kernel_rfl) ?_
                    repeat (go_big_quiet_step (first | (with_reducible exact Wd.call (LP.out _) sB.out) | (with_reducible exact Wd.call (LR.out _) sB.out)))
                    refine wpQuiet_nil ?_
                    rintro _ ⟨z, rfl⟩
                    have hBq := sK.out _ z.h
                    generalize z.w = W9 at *
                    clear g1 g2 e1 e2
                    go_wp2_with fail
                    go_roundg (M.length + 1 - (j + 1))
                    case measure => have := hg.out; omega
                    case rel => exact ⟨j + 1, rfl, by omega, by go_num, hBq⟩
                · obtain rfl : j = M.length := by omega
                  replace HK := HK.below hBr
                  go_wp2_with (go_at_call 7; refine (stored_any _).mono ?_; rintro e w29 ⟨rfl, hn⟩; replace HK := HK.below hn; clear hn)
                  go_ret
                  exact ⟨rfl, HK.ends⟩
          · obtain ⟨rfl, rfl⟩ := hMR hv
            have t1 : (V != I.ver) = true := by simpa using fun e => hv e.symm
            have q1 : ∀ w, (binOp .neq TR (.agg #[.int .i64 3, .string ⟨I.val.toArray⟩, .int .i64 I.ver, .int .i64 ((k : Int) + 1)]) (.agg #[.int .i64 3, .string ⟨I.val.toArray⟩, .int .i64 I.ver, .int .i64 ((k : Int) + 1)])).run Try.prog w = .ok (.bool false) w := neq_res ⟨3, I.val, I.ver, (k : Int) + 1⟩
            have u1 : ∀ op x y w, (eqGuard op TR x y (.agg #[.int .i64 3, .string ⟨I.val.toArray⟩, .int .i64 I.ver, .int .i64 ((k : Int) + 1)]) (.agg #[.int .i64 3, .string ⟨I.val.toArray⟩, .int .i64 I.ver, .int .i64 ((k : Int) + 1)])).run Try.prog w = .ok () w := fun op x y => guard_res op x y ⟨3, I.val, I.ver, (k : Int) + 1⟩
            replace r0 : ldRun Try.prog TR w18 (.pointer (some ⟨br, 0, none⟩)) = .ok (.value (.agg #[.int .i64 3, .string ⟨I.val.toArray⟩, .int .i64 I.ver, .int .i64 ((k : Int) + 1)])) w18 := r0
            have SM := Lib.hid (fun (W : World) (h1 : StAt W p m M) (h2 : StAt W q r M) => same_yes W p m q r M h1 h2)
            replace hv := Lib.hid hv
            clear hMR
            as_aux_lemma =>
              go_upto_region 18 with (first
                | (go_at_call 15; refine (SM.out _ ST.out SC.out).mono ?_; rintro e w19 ⟨rfl, hn⟩; replace HK := HK.below hn; replace ST := Lib.hid (ST.out.keep (Turned.of_below hn) (by simp) (by simp)); replace SC := Lib.hid (SC.out.keep (Turned.of_below hn) (by simp) (by simp)); clear hn b3 i1 i2 r0 q1 u1; have i2 := HK.cell (b := bi) (T := TR) (cs := I.cells) (by simp) 2 rfl)
                | ((with_reducible show wpList _ _ _ (⟨none, .store _ (.tmp 83) _, _, _, _, _⟩ :: _) _ _); refine wpList_store_cell rfl 3 _ _ rfl w.heap.size 3 (.int .i64 I.ver) TO _ rfl rfl (HK.blk (List.mem_cons_self)) (by simp [O.cells]) rfl info_int ?_; intro w20 T20 K20 S20; clear S20; replace HK := HK.swap T20 (Nat.le_refl _) (by simp <;> omega) (show Blk w20 w.heap.size TO (O.mk 4 ky vl I.ver).cells from K20); replace ST := Lib.hid (ST.out.keep T20 (by simp <;> omega) (by simp <;> omega)); replace SC := Lib.hid (SC.out.keep T20 (by simp <;> omega) (by simp <;> omega)); clear T20 K20 i2))
              have TD : Turned [] w20 w20.drew := ⟨rfl, rfl, rfl, Nat.le_refl _, fun _ _ _ => rfl⟩
              replace ST := Lib.hid (ST.out.keep TD (by simp) (by simp))
              replace SC := Lib.hid (SC.out.keep TD (by simp) (by simp))
              replace HK := HK.drew
              have r0 := ldO (HK.blk (List.mem_cons_self))
              have k1 := HK.cell (List.mem_cons_self) 1 rfl
              have k2 := HK.cell (List.mem_cons_self) 2 rfl
              have q1 : ∀ w, (binOp .neq TR (.agg #[.int .i64 1, .string ⟨#[]⟩, .int .i64 ((k : Int) + 1), .int .i64 ((k : Int) + 1)]) (.agg #[.int .i64 1, .string ⟨#[]⟩, .int .i64 ((k : Int) + 1), .int .i64 ((k : Int) + 1)])).run Try.prog w = .ok (.bool false) w := neq_res ⟨1, [], (k : Int) + 1, (k : Int) + 1⟩
              have u1 : ∀ op x y w, (eqGuard op TR x y (.agg #[.int .i64 1, .string ⟨#[]⟩, .int .i64 ((k : Int) + 1), .int .i64 ((k : Int) + 1)]) (.agg #[.int .i64 1, .string ⟨#[]⟩, .int .i64 ((k : Int) + 1), .int .i64 ((k : Int) + 1)])).run Try.prog w = .ok () w := fun op x y => guard_res op x y ⟨1, [], (k : Int) + 1, (k : Int) + 1⟩
              have q2 : ∀ w, (binOp .neq TR (.agg #[.int .i64 1, .string ⟨vl.toArray⟩, .int .i64 ((k : Int) + 1), .int .i64 ((k : Int) + 1)]) (.agg #[.int .i64 1, .string ⟨vl.toArray⟩, .int .i64 ((k : Int) + 1), .int .i64 ((k : Int) + 1)])).run Try.prog w = .ok (.bool false) w := neq_res ⟨1, vl, (k : Int) + 1, (k : Int) + 1⟩
              have u2 : ∀ op x y w, (eqGuard op TR x y (.agg #[.int .i64 1, .string ⟨vl.toArray⟩, .int .i64 ((k : Int) + 1), .int .i64 ((k : Int) + 1)]) (.agg #[.int .i64 1, .string ⟨vl.toArray⟩, .int .i64 ((k : Int) + 1), .int .i64 ((k : Int) + 1)])).run Try.prog w = .ok () w := fun op x y => guard_res op x y ⟨1, vl, (k : Int) + 1, (k : Int) + 1⟩
              clear TD
              go_region_held3 (fun W' => ldRun Try.prog TO W' (.pointer (some ⟨w.heap.size, 0, none⟩)) = .ok (.value (.agg (O.mk 4 ky vl I.ver).cells.toArray)) W' ∧ W'.cell? ⟨w.heap.size, 1, none⟩ = some (.string ⟨ky.toArray⟩) ∧ W'.cell? ⟨w.heap.size, 2, none⟩ = some (.string ⟨vl.toArray⟩)) (first | exact ⟨r0, k1, k2⟩) (first
                | (go_at_call 12; refine (AQ.out _ ST.out).mono ?_; rintro e w21 ⟨rfl, ST8, T8⟩; replace ST := Lib.hid ST8; replace SC := Lib.hid (SC.out.keep T8 (by simp; have := hrl; omega) (by simp; have := hrl; omega)); replace HK := HK.turned T8 (by omega) (by simp <;> omega); clear r0 k1 k2 T8 ST8; have r0 := ldO (HK.blk (List.mem_cons_self)); have k1 := HK.cell (List.mem_cons_self) 1 rfl; have k2 := HK.cell (List.mem_cons_self) 2 rfl)
                | (go_at_call 10; refine (LQ.out _ ST.out).mono ?_; rintro e w22 ⟨rfl, hn⟩; replace ST := Lib.hid (ST.out.keep (Turned.of_below hn) (by simp) (by simp)); replace SC := Lib.hid (SC.out.keep (Turned.of_below hn) (by simp) (by simp)); replace HK := HK.below hn; clear r0 k1 k2 hn; have r0 := ldO (HK.blk (List.mem_cons_self)); have k1 := HK.cell (List.mem_cons_self) 1 rfl; have k2 := HK.cell (List.mem_cons_self) 2 rfl))
              go_wp2_with (go_at_call 17; refine (keys_at _ q r M SC.out).mono ?_; rintro e w23 ⟨kv, rfl, hK, hn⟩; have ko := owned_lt hK; obtain ⟨ak, kc, rfl, hk1, hk2⟩ := owned_form hK; replace hK := Lib.hid hK; replace ST := Lib.hid (ST.out.keep (Turned.of_below hn) (by simp) (by simp)); replace SC := Lib.hid (SC.out.keep (Turned.of_below hn) (by simp) (by simp)); replace HK := HK.below hn; clear r0 k1 k2 hn; have f1 := HK.cell (List.mem_cons_self) 1 rfl)
              go_loopg [15] (M.length + 1) (fun gk i wr => ∃ j : Nat, gk = M.length + 1 - j ∧ j ≤ M.length ∧ i = .int .i64 (j : Int) ∧ Below w23.heap.size w23 wr)
              case atStart => exact ⟨0, rfl, Nat.zero_le _, rfl, Below.refl _ _⟩
              case round =>
                obtain ⟨j, hg, hj, rfl, hBr⟩ := hrel
                replace hg := Lib.hid hg
                by_cases hlt : j < M.length
                · obtain ⟨c, hc2⟩ : ∃ c, M[j]? = some c := ⟨_, List.getElem?_eq_getElem hlt⟩
                  have hjj : (j : Int) < (M.length : Int) := by omega
                  obtain ⟨kg, rfl⟩ := hk1 (by omega)
                  have f2 : w23.cell? ⟨kg, j, none⟩ = some (.string ⟨c.key.toArray⟩) := by rw [hK.out.cellAt j (by omega), keyR_get hc2]
                  obtain ⟨S, s0, sK, sB⟩ : ∃ S : World → Prop, S wr.drew ∧ (∀ W, S W → Below w23.heap.size w23 W) ∧ (∀ W W', S W → Below W.heap.size W W' → S W') := ⟨fun W => Below w23.heap.size w23 W, ⟨hBr.os, hBr.tape, hBr.output, hBr.size, hBr.block⟩, fun _ h => h, fun _ _ h hb => bel h hb⟩
                  haveI : Nonempty (Wd S) := ⟨⟨_, s0⟩⟩
                  have g1 : ∀ z : Wd S, z.w.cell? ⟨w.heap.size, 1, none⟩ = some (.string ⟨ky.toArray⟩) := fun z => ((sK _ z.h).cell (p := ⟨w.heap.size, 1, none⟩) (World.block_lt_of_cell? _ _ f1)).trans f1
                  have g2 : ∀ z : Wd S, z.w.cell? ⟨kg, j, none⟩ = some (.string ⟨c.key.toArray⟩) := fun z => ((sK _ z.h).cell (p := ⟨kg, j, none⟩) (World.block_lt_of_cell? _ _ f2)).trans f2
                  have hck : c.key.length ≤ 1000000 := by have := SC.out.keys c (List.mem_of_getElem? hc2); omega
                  have LP := Lib.hid (fun z : Wd S => look_at z.w p m L2 (ST.out.keep (Turned.of_below (sK _ z.h)) (by simp) (by simp)) c.key hck 3)
                  have LR := Lib.hid (fun z : Wd S => look_at z.w q r M (SC.out.keep (Turned.of_below (sK _ z.h)) (by simp) (by simp)) c.key hck 3)
                  clear f2 hk1 hc2
                  replace sK := Lib.hid sK
                  replace sB := Lib.hid sB
                  by_cases hk : c.key = ky
                  · have g3 : (c.key == ky) = true := by simpa using hk
                    replace hk := Lib.hid hk
                    go_wp2_with fail
                    refine wp_region_wd S s0 (by kernel_rfl) (by kernel_rfl) ?_
                    repeat (go_big_quiet_step (fail))
                    refine wpQuiet_nil ?_
                    rintro _ ⟨z, rfl⟩
                    have hBq := sK.out _ z.h
                    generalize z.w = W9 at *
                    clear g1 g2
                    go_wp2_with fail
                    go_roundg (M.length + 1 - (j + 1))
                    case measure => have := hg.out; omega
                    case rel => exact ⟨j + 1, rfl, by omega, by go_num, hBq⟩
                  · have g3 : (c.key == ky) = false := by simpa using hk
                    rw [hmo.out _ hk] at LR
                    replace hk := Lib.hid hk
                    have e1 := neq_res (Kv.look L2 c.key 3)
                    have e2 := fun op x y => guard_res op x y (Kv.look L2 c.key 3)
                    generalize Kv.look L2 c.key 3 = R9 at *
                    go_wp2_with fail
                    refine wp_region_wd S s0 (by kernel_rfl) (by kernel_rfl) ?_
                    repeat (go_big_quiet_step (first | (with_reducible exact Wd.call (LP.out _) sB.out) | (with_reducible exact Wd.call (LR.out _) sB.out)))
                    refine wpQuiet_nil ?_
                    rintro _ ⟨z, rfl⟩
                    have hBq := sK.out _ z.h
                    generalize z.w = W9 at *
                    clear g1 g2 e1 e2
                    go_wp2_with fail
                    go_roundg (M.length + 1 - (j + 1))
                    case measure => have := hg.out; omega
                    case rel => exact ⟨j + 1, rfl, by omega, by go_num, hBq⟩
                · obtain rfl : j = M.length := by omega
                  replace HK := HK.below hBr
                  go_wp2_with (go_at_call 7; refine (stored_any _).mono ?_; rintro e w29 ⟨rfl, hn⟩; replace HK := HK.below hn; clear hn)
                  go_ret
                  exact ⟨rfl, HK.ends⟩

/-! ### The row. -/
set_option maxRecDepth 100000 in
theorem lifted (os : Os) (started : os.Started) (H : Type) (enc : TypeId × Value → H) :
    ReturnsInHanded {} Try.checked os 5 .any (Rows.kvSwapSpec.pre6 enc Try.prog Try.f5 Rows.kvSwapRow.domain false) (Rows.kvSwapSpec.post enc Try.prog Try.f5 false true false false) := by
  refine returnsInHanded_of_change (C := Try.checked) own started (by kernel_rfl) Try.func5
    (ChangeSpec.witness6 (enc := enc) (C := Try.checked) false ⟨#[], #[.slice none 0 0, .agg wit1.toArray, .int .u16 0], []⟩ 8 (by kernel_rfl) (by kernel_rfl) (by kernel_rfl) (by kernel_rfl)) ?_
  intro W base args ds gs before hval0 hW hcnd _
  have hval : ∀ (j : Nat) t v, Try.f5.params[j]? = some t → args[j]? = some v → Value.okWide Try.prog W .any base t v := hval0
  have hW' := hW
  obtain ⟨p, q, hA0, hV, rfl, hfz, hnd⟩ := hW
  have hA : DataW.TrodAll enc Try.prog W 0 (fun _ => true) true Try.f5.params.toList args.toList ds p := hA0
  rw [Try.params5] at hA hval
  obtain ⟨v0, vs0, d0, ds0, p0, q0, hargs, rfl, rfl, h0, r0⟩ := trodAll_cons hA
  obtain ⟨v1, vs1, d1, ds1, p1, q1, rfl, rfl, rfl, h1, r1⟩ := trodAll_cons r0
  obtain ⟨v2, vs2, d2, ds2, p2, q2, rfl, rfl, rfl, h2, r2⟩ := trodAll_cons r1
  obtain ⟨rfl, rfl, rfl⟩ := trodAll_nil r2
  obtain rfl : args = #[v0, v1, v2] := by cases args; simp_all
  obtain ⟨rfl, rfl⟩ := trodVars_none hV
  have k0 := h0
  have lt0 : ∀ x ∈ p0, x.block < W.heap.size := by obtain ⟨m, hm⟩ := k0; exact DataW.trod_lt m _ _ _ hm
  have f0 := fits_of_Trod sh0 h0; obtain ⟨ao0, ln0, cp0, rfl⟩ := okWide_slice Try.underlying22 (hval 0 22 v0 rfl rfl)
  have k1 := h1
  have lt1 : ∀ x ∈ p1, x.block < W.heap.size := by obtain ⟨m, hm⟩ := k1; exact DataW.trod_lt m _ _ _ hm
  have f1 := fits_of_Trod sh1 h1; obtain ⟨⟨c1⟩, rfl, _⟩ := okWide_struct Try.underlying29 (hval 1 29 v1 rfl rfl)
  have k2 := h2
  have lt2 : ∀ x ∈ p2, x.block < W.heap.size := by obtain ⟨m, hm⟩ := k2; exact DataW.trod_lt m _ _ _ hm
  obtain ⟨a2, rfl, rfl, rfl, w2⟩ := open_int Try.underlying49 (hval 2 49 v2 rfl rfl) h2
  clear hA0 hval0
  refine (walk W ao0 ln0 cp0 c1 a2 f0 f1 w2).mono fun e W' ⟨he, bel⟩ => ?_
  subst he
  exact ⟨_, rfl, _, _, _, [], _, [], hW', trodAll_mk1 (shut_bool Try.underlying4 _), (trodAll_cons_mk (Below.trod laidOut (by kernel_rfl) (of_decide_eq_true (by kernel_rfl)) k0 bel lt0) (trodAll_cons_mk (Below.trod laidOut (by kernel_rfl) (of_decide_eq_true (by kernel_rfl)) k1 bel lt1) (trodAll_cons_mk (Below.trod laidOut (by kernel_rfl) (of_decide_eq_true (by kernel_rfl)) k2 bel lt2) trodAll_mk0))), rfl, bel.frame _, fun h => by cases h⟩

theorem over : Rows.kvSwapRow.holds Try.pinned (OpenSpec.ofChange Rows.kvSwapSpec) :=
  OpenClaim.holds_of_wide 5 Try.f5 rfl rfl rfl rfl rfl rfl rfl ⟨rfl, rfl, rfl, rfl, rfl⟩ rfl rfl rfl rfl rfl (by kernel_rfl) Try.func5 (by kernel_rfl)
    (of_decide_eq_true (by kernel_rfl)) (by unfold Func.isWrapper; first | (rw [if_pos (by decide +kernel)]; kernel_rfl) | (rw [if_neg (by decide +kernel)]; exact ⟨rfl, rfl⟩))
    (fun os started H enc _ => lifted os started H enc)

/-- THE STATEMENT. -/
theorem proved : Rows.KvSwapSaid := over
#print axioms proved
end Go.Proofs.Ytkicbjjmmcjkhaa.kvSwap
