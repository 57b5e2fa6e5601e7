/-
  Law LogsPlay answers true for every list of acts, and leaves them as they were: whatever is appended, each answer, and all that a log tells, is the document's; what a copy does makes no difference. Conditions: none.
-/
import Derived.Test.YtbmepaglhkndpaaRows
import Derived.WalkKit
import Derived.ProofKit
import Derived.OpenShut
import Derived.ShutString
import Derived.ChangeOld
import Derived.Below
import Derived.Test.YtbmepaglhkndpaaTyped
import Derived.Test.YtbmepaglhkndpaaLogC
import Derived.Test.YtbmepaglhkndpaaLogO
import Derived.Test.YtbmepaglhkndpaaLogG
import Derived.Deep.DeepCutAuto
import Derived.Deep.CutBlock
import Derived.Deep.RegionHeld3
open Go.Proofs.Ytbmepaglhkndpaa.Mem Go.Proofs.Ytbmepaglhkndpaa.Ops Go.Proofs.Ytbmepaglhkndpaa.Kv Go.Proofs.Ytbmepaglhkndpaa.Logs
namespace Go.Proofs.Ytbmepaglhkndpaa.logsPlay
open Go.ChangeShapes Go.WideShapes Go.ChangeAt Go.RowKit
open Go.ChangeMaps (open_string shut_string)
open Go.Proofs.Ytbmepaglhkndpaa.Mem
set_option linter.unusedVariables false

theorem own : ownKnob Try.prog.godebug = none := by kernel_rfl
theorem laidOut : laidOutB Try.prog = true := by kernel_rfl

def ty0 : Ty := .slice actTy
theorem info_tstr : (Try.prog.info? 9).map (·.size) = some 1 := by kernel_rfl
section
variable (ρ : Operand → Value) (dst : Option Tmp) (x : Operand) (tt : TypeId) (pos : String) (af : Array Edge) (g : Option (Nat × Bool)) (w : World)
theorem execLoadA : (execOp ρ ⟨dst, .load TA x, tt, pos, af, g⟩).run Try.prog w = ldRun Try.prog TA w (ρ x) := exec_load _ _ _ _ _ _ _ _ _
end
theorem ldAct {w : World} {b : Nat} {a : A} (h : Blk w b TA a.cells) : ldRun Try.prog TA w (.pointer (some ⟨b, 0, none⟩)) = .ok (.value (.agg a.cells.toArray)) w := by
  have := ldRun_row w b 0 TA 8 _ Try.underlying36 rfl info_actN (h.rows (n := 8) rfl).1
  rw [(h.rows (n := 8) rfl).2] at this
  exact this
attribute [local go_sem ↓] execLoadO execLoadR execLoadA execStoreR

theorem sh0 : tyOf Try.prog 20 22 = some ty0 := by kernel_rfl

/-! ### The walk: the law answers true, and writes nothing that was there. -/
set_option maxRecDepth 100000
set_option maxHeartbeats 4000000
theorem walk (w : World) (ao0 : Option Addr) (ln0 cp0 : Nat) (f0 : Fits w ty0 [.slice ao0 ln0 cp0]) :
    Calls Try.prog 3 #[.slice ao0 ln0 cp0] w fun e w' => e = .returned (.bool true) ∧ Below w.heap.size w w' := by
  have HK0 := Sep.start w
  obtain ⟨hlc, hcp, g, hA, hAk⟩ := acts_fits f0
  clear f0
  have hl63 : (ln0 : Int) ≤ 9223372036854775807 := by omega
  have GR := Lib.hid (greatL_any w ao0 ln0 cp0 g hA 50 hl63)
  cases hgr : greatL g ln0 50 with
  | true =>
    rw [hgr] at GR
    clear hgr hA hAk
    go_enter Try.func3, Try.ntmps3
    go_wp2_with (first
      | (go_at_call 6; refine GR.out.mono ?_; rintro e w3 ⟨rfl, hn⟩; replace HK0 := HK0.below hn; clear hn)
      | (go_at_call 7; refine (logged_any _).mono ?_; rintro e w7 ⟨rfl, hn⟩; replace HK0 := HK0.below hn; clear hn))
    go_ret
    exact ⟨rfl, HK0.ends⟩
  | false =>
    rw [hgr] at GR
    have hGk : ∀ i, i < ln0 → (g i).ent.op.key.length ≤ 1000000 := fun i hi => by
      unfold greatL at hgr
      simp only [Bool.or_eq_false_iff] at hgr
      have := (great_no (greatF_no hgr.1 hi)).1
      omega
    replace hGk := Lib.hid hGk
    have h50 : ln0 ≤ 50 := by
      unfold greatL at hgr
      simp only [Bool.or_eq_false_iff, decide_eq_false_iff_not] at hgr
      omega
    clear hgr
    replace hA := Lib.hid hA
    replace hAk := Lib.hid hAk
    obtain ⟨d, hd, hdr⟩ := row_act
    replace hd := Lib.hid hd
    go_enter Try.func3, Try.ntmps3
    go_wp2_with (first
      | (go_at_call 6; refine GR.out.mono ?_; rintro e w3 ⟨rfl, hn⟩; replace HK0 := HK0.below hn; clear hn)
      | (go_at_call 8; refine (lg_new _).mono ?_; rintro e w4 ⟨p, S0, rfl, hS0, hn0, hB⟩; replace HK0 := HK0.push hB (lgOb p S0 []) hS0 hn0; clear hB hS0 hn0)
      | ((with_reducible show wpList _ _ _ (⟨some 17, .box _ _, _, _, _, _⟩ :: _) _ _); refine wpList_box_blk rfl TRL _ rfl [.slice none 0 0] rfl ?_; intro w5 hn K5 S5; clear S5; replace HK0 := HK0.push hn (refOb w4.heap.size w.heap.size (.slice none 0 0) []) ⟨K5, Kind.Own.nil _ _⟩ (fun x hx => by simp [refOb, Value.ownBlock] at hx; omega); clear hn K5; generalize w4.heap.size = b at *))
    go_loopg [5] (ln0 + 1) (fun gk i wr => ∃ (k : Nat) (L : List E) (S : List Nat) (v : Value), gk = ln0 + 1 - k ∧ k ≤ ln0 ∧ i = .int .i64 (k : Int) ∧ Sep w [refOb b w.heap.size v L, lgOb p S L] wr ∧ L.length ≤ k)
    case atStart => exact ⟨0, [], S0, .slice none 0 0, rfl, Nat.zero_le _, rfl, HK0, Nat.le_refl _⟩
    case round =>
      clear HK0
      obtain ⟨k, L, S, v, hg, hk, rfl, HK, hLk⟩ := hrel
      replace hg := Lib.hid hg
      by_cases hlt : k < ln0
      · obtain ⟨bb, off, rfl, hbb, hr⟩ := hA.out.below HK.ends k hlt
        have hr2 := Lib.hid hr
        have hk9 := hAk.out k hlt
        have hk300 := hGk.out k hlt
        clear hr hA hAk
        generalize g k = y at *
        have hkk : (k : Int) < (ln0 : Int) := by omega
        have hwr := HK.size
        go_upto_region 9 with (first
          | ((with_reducible show wpList _ _ _ (⟨some 27, .load TA _, _, _, _, _⟩ :: _) _ _); refine wpList_load_mid rfl TA _ rfl bb (off + k * 8) rfl y.cells d hr2.out hd.out hdr info_actN ?_)
          | ((with_reducible show wpList _ _ _ (⟨some 6, .alloc _, _, _, _, _⟩ :: _) _ _); refine wpList_alloc_blk rfl TA rfl _ zero_act ?_; intro w5 hn K5 S5; clear S5; replace HK := HK.pushBlk hn K5; clear hn K5; generalize wr.heap.size = x at *)
          | ((with_reducible show wpList _ _ _ (⟨none, .store TA (.tmp 6) _, _, _, _, _⟩ :: _) _ _); refine wpList_store_blk rfl TA _ _ rfl x TA (A.mk 0 zeroE).cells y.cells 8 rfl rfl (HK.blk (by simp)) rfl (A.cellsN _) info_actN ?_; intro w6 T6 K6 S6; clear S6; replace HK := HK.turn [] T6 K6; clear T6 K6)
          | (go_at_call 9; refine (lg_copy _ p S L (HK.has (lgOb p S L) (by simp))).mono ?_; rintro e w7 ⟨q, S', rfl, hQ, hq, hn⟩; replace HK := HK.push hn (lgOb q S' L) hQ hq; clear hQ hq hn; have c0 : w7.cell? ⟨x, 0, none⟩ = some (.int .u8 y.kind) := (HK.blk (b := x) (T := TA) (cs := y.cells) (by simp)).cell 0))
        obtain ⟨av, cv, hav, -⟩ := (HK.has (refOb b w.heap.size v L) (by simp) : RefAt w7 b w.heap.size v L).own.form
        subst hav
        have hks : y.kind % 9 = 7 ∨ y.kind % 9 = 8 ∨ (y.kind % 9 ≠ 7 ∧ y.kind % 9 ≠ 8) := by omega
        have hl9 : L.length ≤ 1000 := by omega
        replace HK : Sep w [lgOb q S' L, blkOb x TA y.cells, refOb b w.heap.size (.slice av L.length cv) L, lgOb p S L] w7 := HK
        clear hr2
        rcases hks with ek | ek | ⟨ek, ek8⟩
        · as_aux_lemma =>
            obtain ⟨Sc, s0, sK, sB⟩ : ∃ Sc : World → Prop, Sc w7.drew ∧ (∀ W, Sc W → Below w7.heap.size w7 W) ∧ (∀ W W', Sc W → Below W.heap.size W W' → Sc W') := ⟨fun W => Below w7.heap.size w7 W, ⟨rfl, rfl, rfl, Nat.le_refl _, fun _ _ => rfl⟩, fun _ h => h, fun _ _ h hb => bel h hb⟩
            haveI : Nonempty (Wd Sc) := ⟨⟨_, s0⟩⟩
            have g5 : ∀ z : Wd Sc, z.w.cell? ⟨x, 5, none⟩ = some (.string ⟨y.ent.op.key.toArray⟩) := fun z => ((HK.below (sK _ z.h)).blk (b := x) (T := TA) (cs := y.cells) (by simp)).cell 5
            have LP := Lib.hid (fun z : Wd Sc => lg_look z.w p S L ((HK.below (sK _ z.h)).has (lgOb p S L) (by simp)) y.ent.op.key hk300)
            have LR := Lib.hid (fun z : Wd Sc => rlog_look_any z.w b w.heap.size _ L ((HK.below (sK _ z.h)).has (refOb b w.heap.size (.slice av L.length cv) L) (by simp)) y.ent.op.key (by omega))
            have e1 := neq_res (Kv.look (Logs.store L) y.ent.op.key L.length)
            have e2 := fun op x' y' => guard_res op x' y' (Kv.look (Logs.store L) y.ent.op.key L.length)
            generalize Kv.look (Logs.store L) y.ent.op.key (L.length : Int) = R at *
            replace sK := Lib.hid sK
            replace sB := Lib.hid sB
            replace HK := Lib.hid HK
            go_wp2_with fail
            refine wp_region_wd Sc s0 (by kernel_rfl) (by kernel_rfl) ?_
            repeat (go_big_quiet_step (first | exact Wd.call (LP.out _) sB.out | exact Wd.call (LR.out _) sB.out))
            refine wpQuiet_nil ?_
            rintro _ ⟨z, rfl⟩
            have hBq := sK.out _ z.h
            generalize z.w = W9 at *
            clear g5 e1 e2 c0
            replace HK := Lib.hid (HK.out.below hBq)
            clear hBq
            go_wp2_with (go_at_call 17; refine (alike_any _ p S b w.heap.size (.slice av L.length cv) L (HK.out.has (lgOb p S L) (by simp)) (HK.out.has (refOb b w.heap.size (.slice av L.length cv) L) (by simp)) (by omega)).mono ?_; rintro e wz ⟨rfl, hn⟩; replace HK := Lib.hid (HK.out.below hn); clear hn)
            go_roundg (ln0 + 1 - (k + 1))
            case measure => have := hg.out; omega
            case rel => exact ⟨k + 1, L, S, (.slice av L.length cv), rfl, by omega, by go_num, sepTail2 HK, by omega⟩
        ·
            have e1 := neq_res (Kv.look (Logs.store L) [107] L.length)
            have e2 := fun op x' y' => guard_res op x' y' (Kv.look (Logs.store L) [107] L.length)
            have LP := Lib.hid (fun (W : World) (h : LgAt W p S L) => lg_look W p S L h [107] (by decide))
            have LR := Lib.hid (fun (W : World) (h : RefAt W b w.heap.size (.slice av L.length cv) L) => rlog_look_any W b w.heap.size _ L h [107] (by omega))
            have LN := Lib.hid (fun (W : World) (h : LgAt W p S L) => lg_len W p S L h)
            generalize Kv.look (Logs.store L) [107] (L.length : Int) = R at *
            obtain ⟨R2, er, L2, LA⟩ : ∃ (R2 : Rs) (er : Int) (L2 : List E), ∀ (W : World), LgAt W q S' L → Calls Try.prog 12 #[ptr q, .agg #[.int .i64 ((L.length : Int) + 1), .int .i64 0, .int .i64 1152921504606846976, .int .i64 2, .string ⟨#[107]⟩, .string ⟨#[]⟩, .int .i64 0]] W fun e w' => e = .returned (.tuple #[.agg R2.cells.toArray, .int .i64 er]) ∧ ∃ S'', LgAt w' q S'' L2 ∧ Turned S' W w' ∧ ∀ b ∈ S'', b ∈ S' ∨ W.heap.size ≤ b := ⟨_, _, _, fun W h => lg_append W q S' L h ⟨(L.length : Int) + 1, 0, 1152921504606846976, ⟨2, [107], [], 0⟩⟩ hl9⟩
            replace LA := Lib.hid LA
            replace HK := Lib.hid HK
            go_wp2_with (first
              | (go_at_call 13; refine (LN.out _ (sepLg HK (memS3 _ _ _ _ _))).mono ?_; rintro e w8 ⟨rfl, hn⟩; replace HK := sepBelow HK hn; clear hn c0)
              | (go_at_call 12; refine (LA.out _ (sepLg HK (memS0 _ _))).mono ?_; rintro e w9 ⟨rfl, S3, hL, hT, hN⟩; replace HK := sepLg0 HK hT hL hN; clear hL hT hN)
              | ((with_reducible show wpList _ _ _ (⟨none, .store _ (.tmp 105) _, _, _, _, _⟩ :: _) _ _); refine wpList_store_cell rfl 9 _ _ rfl x 5 (.string ⟨#[107]⟩) TA y.cells (by kernel_rfl) (by kernel_rfl) (sepBlk HK (memS1 _ _ _)) (by simp [A.cells, E.cells, O.cells]) rfl info_tstr ?_; intro wa T5 K5 S5; clear S5; replace HK := sepBlk1 HK T5 K5; clear T5 K5)
              | (go_at_call 11; refine (LR.out _ (sepRf HK (memS2 _ _ _ _))).mono ?_; rintro e wc ⟨rfl, hn⟩; replace HK := sepBelow HK hn; clear hn)
              | (go_at_call 10; refine (LP.out _ (sepLg HK (memS3 _ _ _ _ _))).mono ?_; rintro e wb ⟨rfl, hn⟩; replace HK := sepBelow HK hn; clear hn)
              | (go_at_call 17; refine (alike_any _ p S b w.heap.size (.slice av L.length cv) L (sepLg HK (memS3 _ _ _ _ _)) (sepRf HK (memS2 _ _ _ _)) (by omega)).mono ?_; rintro e wz ⟨rfl, hn⟩; replace HK := sepBelow HK hn; clear hn))
            go_roundg (ln0 + 1 - (k + 1))
            case measure => have := hg.out; omega
            case rel => exact ⟨k + 1, L, S, (.slice av L.length cv), rfl, by omega, by go_num, sepTail2 HK, by omega⟩
        · as_aux_lemma =>
            have AN := Lib.hid (fun (W : World) => next_any W y hk9 L.length (by omega))
            have hlA := app_len L (y.next (L.length : Int))
            have hz0 : err L (y.next (L.length : Int)) = 0 → ¬ app L (y.next (L.length : Int)) <+: L := fun h hp => by have := hp.length_le; unfold app at this; rw [if_pos h] at this; simp only [List.length_append, List.length_cons, List.length_nil] at this; omega
            have hz1 : err L (y.next (L.length : Int)) ≠ 0 → app L (y.next (L.length : Int)) <+: L := fun h => by unfold app; rw [if_neg h]; exact List.prefix_rfl
            have hz2 : L <+: app L (y.next (L.length : Int)) := by unfold app; split <;> first | exact List.prefix_append _ _ | exact List.prefix_rfl
            have LA := fun (W : World) (h : LgAt W p S L) => lg_append W p S L h (y.next (L.length : Int)) hl9
            have RA := fun (W : World) (h : RefAt W b w.heap.size (.slice av L.length cv) L) (hb : w.heap.size ≤ W.heap.size) => rappend_any W b w.heap.size (.slice av L.length cv) L h (y.next (L.length : Int)) hl9 hb
            unfold AppP at RA
            have e1 := neq_res (ans L (y.next (L.length : Int)))
            have e2 := fun op x' y' => guard_res op x' y' (ans L (y.next (L.length : Int)))
            generalize hR : ans L (y.next (L.length : Int)) = R at *
            generalize hE : err L (y.next (L.length : Int)) = er at *
            generalize hL2 : app L (y.next (L.length : Int)) = L2 at *
            generalize hY : y.next (L.length : Int) = Y at *
            replace hR := Lib.hid hR
            replace hE := Lib.hid hE
            replace hL2 := Lib.hid hL2
            replace hY := Lib.hid hY
            replace hz0 := Lib.hid hz0
            replace hz1 := Lib.hid hz1
            replace hz2 := Lib.hid hz2
            replace hlA := Lib.hid hlA
            replace LA := Lib.hid LA
            replace RA := Lib.hid RA
            replace e1 := Lib.hid e1
            replace e2 := Lib.hid e2
            replace HK := Lib.hid HK
            go_upto_region 10 with fail
            clear c0
            go_cut [8, 9] from 18 to 114 (fun s8 s9 wx => ∃ (a : Nat) (S2 : List Nat), s8 = ptr a ∧ s9 = .int .i64 er ∧ Hid (Sep w [lgOb q S' L, blkOb x TA y.cells, refOb b w.heap.size (.slice av L.length cv) L, lgOb p S2 L2, blkOb a TR R.cells] wx))
            case first =>
              replace HK := sepDrew HK
              have f1 := ldAct (sepBlk HK (memS1 _ _ _))
              have f2 : w7.drew.cell? ⟨b, 0, none⟩ = some (.slice av L.length cv) := (sepRf HK (memS2 _ _ _ _)).blk.cell 0
              have f3 : ∀ o, ldRun Try.prog TA (w7.alloc o).drew (.pointer (some ⟨x, 0, none⟩)) = .ok (.value (.agg y.cells.toArray)) (w7.alloc o).drew := fun o => ldAct ((sepBlk HK (memS1 _ _ _)).alloc o)
              have f4 : ∀ o, (w7.alloc o).cell? ⟨b, 0, none⟩ = some (.slice av L.length cv) := fun o => ((sepRf HK (memS2 _ _ _ _)).blk.alloc o).cell 0
              have f5 : ∀ W : World, stRun Try.prog TR (W.alloc (Obj.cells #[.int .i64 0, .string ⟨#[]⟩, .int .i64 0, .int .i64 0] TR)) (.pointer (some ⟨W.heap.size, 0, none⟩)) (.agg R.cells.toArray) = .ok .skip ((W.alloc (Obj.cells #[.int .i64 0, .string ⟨#[]⟩, .int .i64 0, .int .i64 0] TR)).setCells W.heap.size 0 R.cells) := fun W => stR (r := zeroR) (Blk.new W TR zeroR.cells)
              go_region_law (first
                | (go_simp; go_at_call 14; refine (AN.out _).mono ?_; rintro e w8 ⟨rfl, hn⟩; (first | (replace HK := sepBelow HK hn) | (replace HK := sepBelow (sepAlloc4 (cs := zeroR.cells) HK) hn)); clear hn f1 f2 f3 f4)
                | (go_simp; go_at_call 12; (first | refine (LA.out _ (sepLg HK (memS3 _ _ _ _ _))).mono ?_ | (replace HK := sepAlloc4 (T := TR) (cs := zeroR.cells) HK; refine (LA.out _ (sepLg HK (memS3 _ _ _ _ _))).mono ?_)); rintro e w9 ⟨rfl, S3, hL, hT, hN⟩; replace HK := sepLg3 HK hT hL hN; clear hL hT hN; (first | (have f6 : stRun Try.prog TR w9 (.pointer (some ⟨w7.heap.size, 0, none⟩)) (.agg R.cells.toArray) = .ok .skip (w9.setCells w7.heap.size 0 R.cells) := stR (r' := R) (sepBlk HK (memS4 _ _ _ _ _ _))) | (have f6 : stRun Try.prog TR w9 (.pointer (some ⟨w8.heap.size, 0, none⟩)) (.agg R.cells.toArray) = .ok .skip (w9.setCells w8.heap.size 0 R.cells) := stR (r' := R) (sepBlk HK (memS4 _ _ _ _ _ _))) | skip)))
              all_goals
                (clear f5; try clear f1; try clear f2; try clear f3; try clear f4; try clear f6)
                go_wp2_with fail
                go_meet
                case rel => first | exact ⟨_, S3, rfl, rfl, sepSet4 HK rfl⟩ | exact ⟨_, S3, rfl, rfl, sepSet4 (sepAlloc4 HK) rfl⟩
            case rest =>
              clear HK
              obtain ⟨a8, S2, rfl, rfl, HK⟩ := hcut
              go_upto_region 11 with fail
              go_cut [10, 11] from 18 to 114 (fun s10 s11 wx => ∃ (a : Nat) (v2 : Value), s10 = ptr a ∧ s11 = .int .i64 er ∧ Hid (Sep w [lgOb q S' L, blkOb x TA y.cells, refOb b w.heap.size v2 L2, lgOb p S2 L2, blkOb a8 TR R.cells, blkOb a TR R.cells] wx))
              case first =>
                replace HK := sepDrew HK
                have f1 := ldAct (sepBlk HK (memS1 _ _ _))
                have f2 : wc.drew.cell? ⟨b, 0, none⟩ = some (.slice av L.length cv) := (sepRf HK (memS2 _ _ _ _)).blk.cell 0
                have f3 : ∀ o, ldRun Try.prog TA (wc.alloc o).drew (.pointer (some ⟨x, 0, none⟩)) = .ok (.value (.agg y.cells.toArray)) (wc.alloc o).drew := fun o => ldAct ((sepBlk HK (memS1 _ _ _)).alloc o)
                have f4 : ∀ o, (wc.alloc o).cell? ⟨b, 0, none⟩ = some (.slice av L.length cv) := fun o => ((sepRf HK (memS2 _ _ _ _)).blk.alloc o).cell 0
                have f5 : ∀ W : World, stRun Try.prog TR (W.alloc (Obj.cells #[.int .i64 0, .string ⟨#[]⟩, .int .i64 0, .int .i64 0] TR)) (.pointer (some ⟨W.heap.size, 0, none⟩)) (.agg R.cells.toArray) = .ok .skip ((W.alloc (Obj.cells #[.int .i64 0, .string ⟨#[]⟩, .int .i64 0, .int .i64 0] TR)).setCells W.heap.size 0 R.cells) := fun W => stR (r := zeroR) (Blk.new W TR zeroR.cells)
                go_region_law (first
                  | (go_simp; go_at_call 14; refine (AN.out _).mono ?_; rintro e w8 ⟨rfl, hn⟩; (first | (replace HK := sepBelow HK hn) | (replace HK := sepBelow (sepAlloc5 (cs := zeroR.cells) HK) hn)); clear hn f1 f2 f3 f4)
                  | (go_simp; go_at_call 15; (first | refine (RA.out _ (sepRf HK (memS2 _ _ _ _)) HK.out.size).mono ?_ | (replace HK := sepAlloc5 (T := TR) (cs := zeroR.cells) HK; refine (RA.out _ (sepRf HK (memS2 _ _ _ _)) HK.out.size).mono ?_)); rintro e w9 ⟨rfl, v3, hF, hT, hv⟩; replace HK := sepRf2 HK hT hF hv; clear hF hT hv; (first | (have f6 : stRun Try.prog TR w9 (.pointer (some ⟨wc.heap.size, 0, none⟩)) (.agg R.cells.toArray) = .ok .skip (w9.setCells wc.heap.size 0 R.cells) := stR (r' := R) (sepBlk HK (memS5 _ _ _ _ _ _ _))) | (have f6 : stRun Try.prog TR w9 (.pointer (some ⟨w8.heap.size, 0, none⟩)) (.agg R.cells.toArray) = .ok .skip (w9.setCells w8.heap.size 0 R.cells) := stR (r' := R) (sepBlk HK (memS5 _ _ _ _ _ _ _))) | skip)))
                all_goals
                  (clear f5; try clear f1; try clear f2; try clear f3; try clear f4; try clear f6)
                  go_wp2_with fail
                  go_meet
                  case rel => first | exact ⟨_, v3, rfl, rfl, sepSet5 HK rfl⟩ | exact ⟨_, v3, rfl, rfl, sepSet5 (sepAlloc5 HK) rfl⟩
              case rest =>
                clear HK
                obtain ⟨a10, v2, rfl, rfl, HK⟩ := hcut
                have g8 := ldR (r := R) (sepBlk HK (memS4 _ _ _ _ _ _))
                have g10 := ldR (r := R) (sepBlk HK (memS5 _ _ _ _ _ _ _))
                replace e1 := e1.out
                replace e2 := e2.out
                have hll : L2.length ≤ L.length + 1 := hlA.out
                have B1 := Lib.hid (fun (W : World) (h : LgAt W q S' L) (k : LgAt W p S2 L2) => lg_begins_yes W q S' L h p S2 L2 k hz2.out)
                by_cases he : er = 0
                · have B2 := Lib.hid (fun (W : World) (h : LgAt W p S2 L2) (k : LgAt W q S' L) => lg_begins_no W p S2 L2 h q S' L k (hz0.out he))
                  subst he
                  go_wp2_with (first
                    | (go_at_call 16; with_reducible refine (B1.out _ (sepLg HK (memS0 _ _)) (sepLg HK (memS3 _ _ _ _ _))).mono ?_; rintro e wb ⟨rfl, hn⟩; replace HK := sepBelow HK hn; clear hn g8 g10)
                    | (go_at_call 16; with_reducible refine (B2.out _ (sepLg HK (memS3 _ _ _ _ _)) (sepLg HK (memS0 _ _))).mono ?_; rintro e wb2 ⟨rfl, hn⟩; replace HK := sepBelow HK hn; clear hn)
                    | (go_at_call 17; refine (alike_any _ p S2 b w.heap.size v2 L2 (sepLg HK (memS3 _ _ _ _ _)) (sepRf HK (memS2 _ _ _ _)) (by omega)).mono ?_; rintro e wz ⟨rfl, hn⟩; replace HK := sepBelow HK hn; clear hn))
                  go_roundg (ln0 + 1 - (k + 1))
                  case measure => have := hg.out; omega
                  case rel => exact ⟨k + 1, L2, S2, v2, rfl, by omega, by go_num, sepMid HK, by omega⟩
                · have B2 := Lib.hid (fun (W : World) (h : LgAt W p S2 L2) (k : LgAt W q S' L) => lg_begins_yes W p S2 L2 h q S' L k (hz1.out he))
                  have he1 : (er == 0) = false := beq_eq_false_iff_ne.2 he
                  have he2 : (er != 0) = true := bne_iff_ne.2 he
                  replace he := Lib.hid he
                  go_wp2_with (first
                    | (go_at_call 16; with_reducible refine (B1.out _ (sepLg HK (memS0 _ _)) (sepLg HK (memS3 _ _ _ _ _))).mono ?_; rintro e wb ⟨rfl, hn⟩; replace HK := sepBelow HK hn; clear hn g8 g10)
                    | (go_at_call 16; with_reducible refine (B2.out _ (sepLg HK (memS3 _ _ _ _ _)) (sepLg HK (memS0 _ _))).mono ?_; rintro e wb2 ⟨rfl, hn⟩; replace HK := sepBelow HK hn; clear hn)
                    | (go_at_call 17; refine (alike_any _ p S2 b w.heap.size v2 L2 (sepLg HK (memS3 _ _ _ _ _)) (sepRf HK (memS2 _ _ _ _)) (by omega)).mono ?_; rintro e wz ⟨rfl, hn⟩; replace HK := sepBelow HK hn; clear hn))
                  go_roundg (ln0 + 1 - (k + 1))
                  case measure => have := hg.out; omega
                  case rel => exact ⟨k + 1, L2, S2, v2, rfl, by omega, by go_num, sepMid HK, by omega⟩
      · obtain rfl : k = ln0 := by omega
        go_wp2_with (go_at_call 7; refine (logged_any _).mono ?_; rintro e w9 ⟨rfl, hn⟩; replace HK := HK.below hn; clear hn)
        go_ret
        exact ⟨rfl, HK.ends⟩

/-! ### The row. -/
set_option maxRecDepth 100000 in
theorem lifted (os : Os) (started : os.Started) (H : Type) (enc : TypeId × Value → H) :
    ReturnsInHanded {} Try.checked os 3 .any (Rows.logsPlaySpec.pre6 enc Try.prog Try.f3 Rows.logsPlayRow.domain false) (Rows.logsPlaySpec.post enc Try.prog Try.f3 false true false false) := by
  refine returnsInHanded_of_change (C := Try.checked) own started (by kernel_rfl) Try.func3
    (ChangeSpec.witness6 (enc := enc) (C := Try.checked) false ⟨#[], #[.slice none 0 0], []⟩ 8 (by kernel_rfl) (by kernel_rfl) (by kernel_rfl) (by kernel_rfl)) ?_
  intro W base args ds gs before hval0 hW hcnd _
  have hval : ∀ (j : Nat) t v, Try.f3.params[j]? = some t → args[j]? = some v → Value.okWide Try.prog W .any base t v := hval0
  have hW' := hW
  obtain ⟨p, q, hA0, hV, rfl, hfz, hnd⟩ := hW
  have hA : DataW.TrodAll enc Try.prog W 0 (fun _ => true) true Try.f3.params.toList args.toList ds p := hA0
  rw [Try.params3] at hA hval
  obtain ⟨v0, vs0, d0, ds0, p0, q0, hargs, rfl, rfl, h0, r0⟩ := trodAll_cons hA
  obtain ⟨rfl, rfl, rfl⟩ := trodAll_nil r0
  obtain rfl : args = #[v0] := by cases args; simp_all
  obtain ⟨rfl, rfl⟩ := trodVars_none hV
  have k0 := h0
  have lt0 : ∀ x ∈ p0, x.block < W.heap.size := by obtain ⟨m, hm⟩ := k0; exact DataW.trod_lt m _ _ _ hm
  have f0 := fits_of_Trod sh0 h0; obtain ⟨ao0, ln0, cp0, rfl⟩ := okWide_slice Try.underlying22 (hval 0 22 v0 rfl rfl)
  clear hA0 hval0
  refine (walk W ao0 ln0 cp0 f0).mono fun e W' ⟨he, bel⟩ => ?_
  subst he
  exact ⟨_, rfl, _, _, _, [], _, [], hW', trodAll_mk1 (shut_bool Try.underlying4 _), (trodAll_cons_mk (Below.trod laidOut (by kernel_rfl) (of_decide_eq_true (by kernel_rfl)) k0 bel lt0) trodAll_mk0), rfl, bel.frame _, fun h => by cases h⟩

theorem over : Rows.logsPlayRow.holds Try.pinned (OpenSpec.ofChange Rows.logsPlaySpec) :=
  OpenClaim.holds_of_wide 3 Try.f3 rfl rfl rfl rfl rfl rfl rfl ⟨rfl, rfl, rfl, rfl, rfl⟩ rfl rfl rfl rfl rfl (by kernel_rfl) Try.func3 (by kernel_rfl)
    (of_decide_eq_true (by kernel_rfl)) (by unfold Func.isWrapper; first | (rw [if_pos (by decide +kernel)]; kernel_rfl) | (rw [if_neg (by decide +kernel)]; exact ⟨rfl, rfl⟩))
    (fun os started H enc _ => lifted os started H enc)

/-- THE STATEMENT. -/
theorem proved : Rows.LogsPlaySaid := over
#print axioms proved
end Go.Proofs.Ytbmepaglhkndpaa.logsPlay
