/-
  Law LogsSame answers true for every list of acts and every number, and leaves them as they were: two logs of the same entries have the same results, and tell the same of each key; each client's Seqs rise; a log begins itself, and whatever comes of it, and no other one. Conditions: none.
-/
import Derived.Test.YtbmepaglhkndpaaRows
import Derived.WalkKit
import Derived.ProofKit
import Derived.OpenShut
import Derived.ShutString
import Derived.ChangeOld
import Derived.Below
import Derived.Test.YtbmepaglhkndpaaTyped
import Derived.Test.YtbmepaglhkndpaaLogE
import Derived.Test.YtbmepaglhkndpaaLogO
import Derived.Test.YtbmepaglhkndpaaLogG
import Derived.Deep.DeepCutAuto
import Derived.Deep.CutBlock
open Go.Proofs.Ytbmepaglhkndpaa.Mem Go.Proofs.Ytbmepaglhkndpaa.Ops Go.Proofs.Ytbmepaglhkndpaa.Kv Go.Proofs.Ytbmepaglhkndpaa.Logs
namespace Go.Proofs.Ytbmepaglhkndpaa.logsSame
open Go.ChangeShapes Go.WideShapes Go.ChangeAt Go.RowKit
open Go.ChangeMaps (open_string shut_string)
open Go.Proofs.Ytbmepaglhkndpaa.Mem
set_option linter.unusedVariables false

theorem own : ownKnob Try.prog.godebug = none := by kernel_rfl
theorem laidOut : laidOutB Try.prog = true := by kernel_rfl

def ty0 : Ty := .slice actTy
section
variable (ρ : Operand → Value) (dst : Option Tmp) (x y : Operand) (tt : TypeId) (pos : String) (af : Array Edge) (g : Option (Nat × Bool)) (w : World)
theorem execLoadA : (execOp ρ ⟨dst, .load TA x, tt, pos, af, g⟩).run Try.prog w = ldRun Try.prog TA w (ρ x) := exec_load _ _ _ _ _ _ _ _ _
theorem execStoreEn : (execOp ρ ⟨dst, .store TEn x y, tt, pos, af, g⟩).run Try.prog w = stRun Try.prog TEn w (ρ x) (ρ y) := exec_store _ _ _ _ _ _ _ _ _ _
end
attribute [local go_sem ↓] execLoadO execLoadR execLoadA execLoadEn execStoreR execStoreEn

theorem sh0 : tyOf Try.prog 20 22 = some ty0 := by kernel_rfl

/-! ### The walk: the law answers true, and writes nothing that was there. -/
set_option maxRecDepth 100000
set_option maxHeartbeats 4000000
theorem walk (w : World) (ao0 : Option Addr) (ln0 cp0 : Nat) (a1 : Int) (f0 : Fits w ty0 [.slice ao0 ln0 cp0]) (w1 : (Lit.int .u8 a1).wf = true) :
    Calls Try.prog 5 #[.slice ao0 ln0 cp0, .int .u8 a1] w fun e w' => e = .returned (.bool true) ∧ Below w.heap.size w w' := by
  have HK := Lib.hid (Sep.start w)
  obtain ⟨hlc, hcp, g, hA, hAk⟩ := acts_fits f0
  clear f0
  have hl63 : (ln0 : Int) ≤ 9223372036854775807 := by omega
  have GR := Lib.hid (greatL_any w ao0 ln0 cp0 g hA 50 hl63)
  cases hgr : greatL g ln0 50 with
  | true =>
    rw [hgr] at GR
    clear hgr hA hAk
    go_enter Try.func5, Try.ntmps5
    go_wp2_with (first
      | (go_at_call 6; refine GR.out.mono ?_; rintro e w3 ⟨rfl, hn⟩; replace HK := sepBelow HK hn; clear hn)
      | (go_at_call 7; refine (logged_any _).mono ?_; rintro e w7 ⟨rfl, hn⟩; replace HK := sepBelow HK hn; clear hn))
    go_ret
    exact ⟨rfl, HK.out.ends⟩
  | false =>
    rw [hgr] at GR
    have hGk : ∀ i, i < ln0 → (g i).ent.op.key.length ≤ 1000000 := fun i hi => by
      unfold greatL at hgr
      simp only [Bool.or_eq_false_iff] at hgr
      have := (great_no (greatF_no hgr.1 hi)).1
      omega
    replace hGk := Lib.hid hGk
    have h50 : ln0 ≤ 50 := by
      unfold greatL at hgr
      simp only [Bool.or_eq_false_iff, decide_eq_false_iff_not] at hgr
      omega
    clear hgr
    replace hA := Lib.hid hA
    replace hAk := Lib.hid hAk
    go_enter Try.func5, Try.ntmps5
    go_upto_region 3 with (go_at_call 6; refine GR.out.mono ?_; rintro e w3 ⟨rfl, hn⟩; replace HK := sepBelow HK hn; clear hn GR)
    go_wp2_with fail
    refine (lg_new _).mono ?_
    rintro e w4 ⟨pa, Sa, rfl, hI, hS, hn⟩
    replace HK := Lib.hid (HK.out.push hn (lgOb pa Sa []) hI hS)
    clear hI hS hn
    go_wp2_with fail
    refine (lg_new _).mono ?_
    rintro e w5 ⟨pb, Sb, rfl, hI, hS, hn⟩
    replace HK := Lib.hid (HK.out.push hn (lgOb pb Sb []) hI hS)
    clear hI hS hn
    go_wp2_with fail
    refine (lg_new _).mono ?_
    rintro e w6 ⟨pc, Sc, rfl, hI, hS, hn⟩
    replace HK := Lib.hid (HK.out.push hn (lgOb pc Sc []) hI hS)
    clear hI hS hn
    go_wp2_with fail
    go_loopg [8] (ln0 + 1) (fun gk i wr => ∃ (k : Nat) (L : List E) (Sa Sb Sc : List Nat), gk = ln0 + 1 - k ∧ k ≤ ln0 ∧ i = .int .i64 (k : Int) ∧ Hid (Sep w [lgOb pc Sc [], lgOb pb Sb L, lgOb pa Sa L] wr) ∧ L.length ≤ k ∧ Logs.Good L)
    case atStart => exact ⟨0, [], Sa, Sb, Sc, rfl, Nat.zero_le _, rfl, HK, Nat.le_refl _, good_nil⟩
    case round =>
      clear HK
      obtain ⟨k, L, Sa, Sb, Sc, hg, hk, rfl, HK, hLk, hGood⟩ := hrel
      replace hg := Lib.hid hg
      replace hGood := Lib.hid hGood
      by_cases hlt : k < ln0
      · obtain ⟨bb, off, rfl, hbb, hr⟩ := hA.out k hlt
        have hk9 := hAk.out k hlt
        have hk300 := hGk.out k hlt
        have hrW : ∀ W, Below w.heap.size w W → W.rangeAt bb (off + k * 8) (g k).cells := fun W hW => rangeAt_below hr hW (fun _ => hbb)
        replace hrW := Lib.hid hrW
        clear hr hA hAk hGk
        generalize g k = y at *
        have hkk : (k : Int) < (ln0 : Int) := by omega
        have hl9 : L.length ≤ 1000 := by omega
        have AN := Lib.hid (fun (W : World) => next_any W y hk9 L.length (by omega))
        have LN := Lib.hid (fun (W : World) (h : LgAt W pa Sa L) => lg_len W pa Sa L h)
        go_upto_region 7 with fail
        go_cut [9] from 29 to 95 (fun s9 wx => ∃ x, s9 = ptr x ∧ Hid (Sep w [lgOb pc Sc [], lgOb pb Sb L, lgOb pa Sa L, blkOb x TEn (y.next (L.length : Int)).cells] wx))
        case first =>
          generalize hY : y.next (L.length : Int) = Y at *
          replace hY := Lib.hid hY
          replace HK := sepDrew HK
          have f1 : ldRun Try.prog TA wr.drew (.pointer (some ⟨bb, off + k * 8, none⟩)) = .ok (.value (.agg y.cells.toArray)) wr.drew := ldActAt (hrW.out _ HK.out.ends)
          have f3 : ∀ o, ldRun Try.prog TA (wr.alloc o).drew (.pointer (some ⟨bb, off + k * 8, none⟩)) = .ok (.value (.agg y.cells.toArray)) (wr.alloc o).drew := fun o => ldActAt (hrW.out _ (HK.out.ends.alloc HK.out.size o))
          have f5 : ∀ W : World, stRun Try.prog TEn (W.alloc (Obj.cells #[.int .i64 0, .int .i64 0, .int .i64 0, .int .i64 0, .string ⟨#[]⟩, .string ⟨#[]⟩, .int .i64 0] TEn)) (.pointer (some ⟨W.heap.size, 0, none⟩)) (.agg Y.cells.toArray) = .ok .skip ((W.alloc (Obj.cells #[.int .i64 0, .int .i64 0, .int .i64 0, .int .i64 0, .string ⟨#[]⟩, .string ⟨#[]⟩, .int .i64 0] TEn)).setCells W.heap.size 0 Y.cells) := fun W => stEn (e := zeroE) (Blk.new W TEn zeroE.cells)
          go_region_law (first
            | (go_simp; go_at_call 13; (first | refine (LN.out _ (sepLg HK (memS2 _ _ _ _))).mono ?_ | (replace HK := sepEnd3 (T := TEn) (cs := zeroE.cells) HK; refine (LN.out _ (sepLg HK (memS2 _ _ _ _))).mono ?_)); rintro e w8 ⟨rfl, hn⟩; replace HK := sepBelow HK hn; clear hn f1 f3; have f1 := ldActAt (hrW.out _ HK.out.ends); have f3 : ∀ o, ldRun Try.prog TA (w8.alloc o) (.pointer (some ⟨bb, off + k * 8, none⟩)) = .ok (.value (.agg y.cells.toArray)) (w8.alloc o) := fun o => ldActAt (hrW.out _ (HK.out.ends.alloc HK.out.size o)))
            | (go_simp; go_at_call 14; refine (AN.out _).mono ?_; rintro e w9 ⟨rfl, hn⟩; (first | (replace HK := sepBelow HK hn) | (replace HK := sepBelow (sepEnd3 (T := TEn) (cs := zeroE.cells) HK) hn)); clear hn f1 f3; (first | (have f6 : stRun Try.prog TEn w9 (.pointer (some ⟨wr.heap.size, 0, none⟩)) (.agg Y.cells.toArray) = .ok .skip (w9.setCells wr.heap.size 0 Y.cells) := stEn (e := zeroE) (e' := Y) (sepBlk HK (memS3 _ _ _ _ _))) | (have f6 : stRun Try.prog TEn w9 (.pointer (some ⟨w8.heap.size, 0, none⟩)) (.agg Y.cells.toArray) = .ok .skip (w9.setCells w8.heap.size 0 Y.cells) := stEn (e := zeroE) (e' := Y) (sepBlk HK (memS3 _ _ _ _ _))) | skip)))
          all_goals
            (clear f5; try clear f1; try clear f3; try clear f6)
            go_wp2_with fail
            go_meet
            case rel => first | exact ⟨_, rfl, sepSet3 HK rfl⟩ | exact ⟨_, rfl, sepSet3 (sepEnd3 HK) rfl⟩
        case rest =>
          clear HK AN LN
          obtain ⟨x, rfl, HK⟩ := hcut
          obtain ⟨d, hd, hdr⟩ := row_entry
          replace hd := Lib.hid hd
          have hlA := app_len L (y.next (L.length : Int))
          have hGd := good_app hGood.out (y.next (L.length : Int))
          have hIe : err L (y.next (L.length : Int)) ≠ 0 → app L (y.next (L.length : Int)) = L := fun h => by unfold app; rw [if_neg h]
          have hIp : L <+: app L (y.next (L.length : Int)) := by unfold app; split <;> first | exact List.prefix_append _ _ | exact List.prefix_rfl
          have hkey : (y.next (L.length : Int)).op = y.ent.op := by unfold A.next; split <;> rfl
          have LA := fun (W : World) (h : LgAt W pa Sa L) => lg_append W pa Sa L h (y.next (L.length : Int)) hl9
          have LB := fun (W : World) (h : LgAt W pb Sb L) => lg_append W pb Sb L h (y.next (L.length : Int)) hl9
          generalize ans L (y.next (L.length : Int)) = R at *
          generalize err L (y.next (L.length : Int)) = er at *
          generalize app L (y.next (L.length : Int)) = L2 at *
          generalize y.next (L.length : Int) = Y at *
          replace hlA := Lib.hid hlA
          replace hGd := Lib.hid hGd
          replace hIe := Lib.hid hIe
          replace hIp := Lib.hid hIp
          replace hkey := Lib.hid hkey
          replace LA := Lib.hid LA
          replace LB := Lib.hid LB
          by_cases he : er = 0
          · subst he
            go_upto_region 12 with (first
              | (go_at_call 9; refine (lg_copy _ pa Sa L (sepLg HK (memS2 _ _ _ _))).mono ?_; rintro e wd ⟨q, Sq, rfl, hQ, hq, hn⟩; replace HK : Hid (Sep w [lgOb pc Sc [], lgOb pb Sb L, lgOb pa Sa L, blkOb x TEn Y.cells, lgOb q Sq L] wd) := sepLgEnd _ HK hn hQ hq; clear hQ hq hn)
              | ((with_reducible show wpList _ _ _ (⟨some 46, .load TEn _, _, _, _, _⟩ :: _) _ _); refine wpList_load_blk rfl TEn _ rfl x TEn Y.cells d rfl (sepBlk HK (memS3 _ _ _ _ _)) hd.out hdr info_entryN ?_)
              | (go_at_call 12; (with_reducible refine (LA.out _ (sepLg HK (memS2 _ _ _ _))).mono ?_); rintro e we ⟨rfl, Sa2, hL, hT, hN⟩; replace HK : Hid (Sep w [lgOb pc Sc [], lgOb pb Sb L, lgOb pa Sa2 L2, blkOb x TEn Y.cells, lgOb q Sq L] we) := sepLg2 HK hT hL hN; clear hL hT hN)
              | ((with_reducible show wpList _ _ _ (⟨some 11, .alloc _, _, _, _, _⟩ :: _) _ _); refine wpList_alloc_blk rfl TR rfl _ zero_res ?_; intro wf Bf Kf Sf; clear Sf; replace HK : Hid (Sep w [lgOb pc Sc [], lgOb pb Sb L, lgOb pa Sa2 L2, blkOb x TEn Y.cells, lgOb q Sq L, blkOb we.heap.size TR zeroR.cells] wf) := sepEnd _ HK Bf Kf (Nat.le_refl _); clear Bf Kf; generalize we.heap.size = r1 at *)
              | ((with_reducible show wpList _ _ _ (⟨none, .store TR (.tmp 11) _, _, _, _, _⟩ :: _) _ _); refine wpList_store_blk rfl TR _ _ rfl r1 TR zeroR.cells R.cells 4 rfl rfl (sepBlk HK (memS5 _ _ _ _ _ _ _)) rfl (Rs.cellsN _) info_res ?_; intro wh Th Kh Sh; clear Sh; replace HK : Hid (Sep w [lgOb pc Sc [], lgOb pb Sb L, lgOb pa Sa2 L2, blkOb x TEn Y.cells, lgOb q Sq L, blkOb r1 TR R.cells] wh) := sepBlk5 HK Th Kh; clear Th Kh)
              | ((with_reducible show wpList _ _ _ (⟨some 54, .load TEn _, _, _, _, _⟩ :: _) _ _); refine wpList_load_blk rfl TEn _ rfl x TEn Y.cells d rfl (sepBlk HK (memS3 _ _ _ _ _)) hd.out hdr info_entryN ?_)
              | (go_at_call 12; (with_reducible refine (LB.out _ (sepLg HK (memS1 _ _ _))).mono ?_); rintro e wi ⟨rfl, Sb2, hL, hT, hN⟩; replace HK : Hid (Sep w [lgOb pc Sc [], lgOb pb Sb2 L2, lgOb pa Sa2 L2, blkOb x TEn Y.cells, lgOb q Sq L, blkOb r1 TR R.cells] wi) := sepLg1 HK hT hL hN; clear hL hT hN)
              | ((with_reducible show wpList _ _ _ (⟨some 13, .alloc _, _, _, _, _⟩ :: _) _ _); refine wpList_alloc_blk rfl TR rfl _ zero_res ?_; intro wj Bj Kj Sj; clear Sj; replace HK : Hid (Sep w [lgOb pc Sc [], lgOb pb Sb2 L2, lgOb pa Sa2 L2, blkOb x TEn Y.cells, lgOb q Sq L, blkOb r1 TR R.cells, blkOb wi.heap.size TR zeroR.cells] wj) := sepEnd _ HK Bj Kj (Nat.le_refl _); clear Bj Kj; generalize wi.heap.size = r2 at *)
              | ((with_reducible show wpList _ _ _ (⟨none, .store TR (.tmp 13) _, _, _, _, _⟩ :: _) _ _); refine wpList_store_blk rfl TR _ _ rfl r2 TR zeroR.cells R.cells 4 rfl rfl (sepBlk HK (memS6 _ _ _ _ _ _ _ _)) rfl (Rs.cellsN _) info_res ?_; intro wl Tl Kl Sl; clear Sl; replace HK : Hid (Sep w [lgOb pc Sc [], lgOb pb Sb2 L2, lgOb pa Sa2 L2, blkOb x TEn Y.cells, lgOb q Sq L, blkOb r1 TR R.cells, blkOb r2 TR R.cells] wl) := sepBlk6 HK Tl Kl; clear Tl Kl))
            obtain ⟨Sw, s0, sK, sB⟩ : ∃ Sw : World → Prop, Sw wl.drew ∧ (∀ W, Sw W → Below wl.heap.size wl W) ∧ (∀ W W', Sw W → Below W.heap.size W W' → Sw W') := ⟨fun W => Below wl.heap.size wl W, ⟨rfl, rfl, rfl, Nat.le_refl _, fun _ _ => rfl⟩, fun _ h => h, fun _ _ h hb => bel h hb⟩
            haveI : Nonempty (Wd Sw) := ⟨⟨_, s0⟩⟩
            have HZ : ∀ z : Wd Sw, Hid (Sep w [lgOb pc Sc [], lgOb pb Sb2 L2, lgOb pa Sa2 L2, blkOb x TEn Y.cells, lgOb q Sq L, blkOb r1 TR R.cells, blkOb r2 TR R.cells] z.w) := fun z => sepBelow HK (sK _ z.h)
            have g1 : ∀ z : Wd Sw, ldRun Try.prog TR z.w (.pointer (some ⟨r1, 0, none⟩)) = .ok (.value (.agg R.cells.toArray)) z.w := fun z => ldR (sepBlk (HZ z) (memS5 _ _ _ _ _ _ _))
            have g2 : ∀ z : Wd Sw, ldRun Try.prog TR z.w (.pointer (some ⟨r2, 0, none⟩)) = .ok (.value (.agg R.cells.toArray)) z.w := fun z => ldR (sepBlk (HZ z) (memS6 _ _ _ _ _ _ _ _))
            have g3 : ∀ z : Wd Sw, z.w.cell? ⟨x, 4, none⟩ = some (.string ⟨Y.op.key.toArray⟩) := fun z => (sepBlk (HZ z) (memS3 _ _ _ _ _)).cell 4
            have B1 := Lib.hid (fun z : Wd Sw => lg_begins_yes z.w q Sq L (sepLg (HZ z) (memS4 _ _ _ _ _ _)) pb Sb2 L2 (sepLg (HZ z) (memS1 _ _ _)) hIp.out)
            have B2 := Lib.hid (fun z : Wd Sw => lg_begins_yes z.w pa Sa2 L2 (sepLg (HZ z) (memS2 _ _ _ _)) pb Sb2 L2 (sepLg (HZ z) (memS1 _ _ _)) List.prefix_rfl)
            have B3 := Lib.hid (fun z : Wd Sw => lg_begins_yes z.w pb Sb2 L2 (sepLg (HZ z) (memS1 _ _ _)) pa Sa2 L2 (sepLg (HZ z) (memS2 _ _ _ _)) List.prefix_rfl)
            have K1 := Lib.hid (fun z : Wd Sw => lg_look z.w pa Sa2 L2 (sepLg (HZ z) (memS2 _ _ _ _)) Y.op.key (by rw [hkey.out]; exact hk300))
            have K2 := Lib.hid (fun z : Wd Sw => lg_look z.w pb Sb2 L2 (sepLg (HZ z) (memS1 _ _ _)) Y.op.key (by rw [hkey.out]; exact hk300))
            have e1 := neq_res R
            have e2 := fun op x' y' => guard_res op x' y' R
            have e3 := neq_res (Kv.look (Logs.store L2) Y.op.key L2.length)
            have e4 := fun op x' y' => guard_res op x' y' (Kv.look (Logs.store L2) Y.op.key L2.length)
            generalize Kv.look (Logs.store L2) Y.op.key (L2.length : Int) = R3 at *
            replace sK := Lib.hid sK
            replace sB := Lib.hid sB
            replace HZ := Lib.hid HZ
            refine wp_region_wd Sw s0 (by kernel_rfl) (by kernel_rfl) ?_
            repeat (go_big_quiet_step (first | (with_reducible exact Wd.call (B1.out _) sB.out) | (with_reducible exact Wd.call (B2.out _) sB.out) | (with_reducible exact Wd.call (B3.out _) sB.out) | (with_reducible exact Wd.call (K1.out _) sB.out) | (with_reducible exact Wd.call (K2.out _) sB.out)))
            refine wpQuiet_nil ?_
            rintro _ ⟨z, rfl⟩
            replace HK := HZ.out z
            generalize z.w = W9 at *
            clear g1 g2 g3 e1 e2 e3 e4
            go_wp2_with fail
            go_roundg (ln0 + 1 - (k + 1))
            case measure => have := hg.out; omega
            case rel => exact ⟨k + 1, L2, Sa2, Sb2, Sc, rfl, by omega, by go_num, sepTop3 HK, by have := hlA.out; omega, hGd.out⟩
          · have he1 : (er == 0) = false := beq_eq_false_iff_ne.2 he
            have he2 : (er != 0) = true := bne_iff_ne.2 he
            replace he := Lib.hid he
            go_wp2_with (first
            | (go_at_call 9; refine (lg_copy _ pa Sa L (sepLg HK (memS2 _ _ _ _))).mono ?_; rintro e wd ⟨q, Sq, rfl, hQ, hq, hn⟩; replace HK : Hid (Sep w [lgOb pc Sc [], lgOb pb Sb L, lgOb pa Sa L, blkOb x TEn Y.cells, lgOb q Sq L] wd) := sepLgEnd _ HK hn hQ hq; clear hQ hq hn)
            | ((with_reducible show wpList _ _ _ (⟨some 46, .load TEn _, _, _, _, _⟩ :: _) _ _); refine wpList_load_blk rfl TEn _ rfl x TEn Y.cells d rfl (sepBlk HK (memS3 _ _ _ _ _)) hd.out hdr info_entryN ?_)
            | (go_at_call 12; (with_reducible refine (LA.out _ (sepLg HK (memS2 _ _ _ _))).mono ?_); rintro e we ⟨rfl, Sa2, hL, hT, hN⟩; replace HK : Hid (Sep w [lgOb pc Sc [], lgOb pb Sb L, lgOb pa Sa2 L2, blkOb x TEn Y.cells, lgOb q Sq L] we) := sepLg2 HK hT hL hN; clear hL hT hN)
            | ((with_reducible show wpList _ _ _ (⟨some 11, .alloc _, _, _, _, _⟩ :: _) _ _); refine wpList_alloc_blk rfl TR rfl _ zero_res ?_; intro wf Bf Kf Sf; clear Sf; replace HK : Hid (Sep w [lgOb pc Sc [], lgOb pb Sb L, lgOb pa Sa2 L2, blkOb x TEn Y.cells, lgOb q Sq L, blkOb we.heap.size TR zeroR.cells] wf) := sepEnd _ HK Bf Kf (Nat.le_refl _); clear Bf Kf; generalize we.heap.size = r1 at *)
            | ((with_reducible show wpList _ _ _ (⟨none, .store TR (.tmp 11) _, _, _, _, _⟩ :: _) _ _); refine wpList_store_blk rfl TR _ _ rfl r1 TR zeroR.cells R.cells 4 rfl rfl (sepBlk HK (memS5 _ _ _ _ _ _ _)) rfl (Rs.cellsN _) info_res ?_; intro wh Th Kh Sh; clear Sh; replace HK : Hid (Sep w [lgOb pc Sc [], lgOb pb Sb L, lgOb pa Sa2 L2, blkOb x TEn Y.cells, lgOb q Sq L, blkOb r1 TR R.cells] wh) := sepBlk5 HK Th Kh; clear Th Kh))
            go_roundg (ln0 + 1 - (k + 1))
            case measure => have := hg.out; omega
            case rel => exact ⟨k + 1, L, Sa2, Sb, Sc, rfl, by omega, by go_num, by rw [hIe.out he.out] at HK; exact sepTop3 HK, by omega, hGood.out⟩
      · obtain rfl : k = ln0 := by omega
        have hl50 : L.length ≤ 50 := by omega
        clear hA hAk hGk hg
        clear hLk
        obtain ⟨d, hd, hdr⟩ := row_entry
        replace hd := Lib.hid hd
        go_upto_region 15 with (go_at_call 21; refine (lg_entries _ pa Sa L (sepLg HK (memS2 _ _ _ _))).mono ?_; rintro e wd ⟨v, rfl, hv, hn⟩; replace HK : Hid (Sep w [lgOb pc Sc [], lgOb pb Sb L, lgOb pa Sa L, rowOb w.heap.size v L] wd) := sepRowEnd _ HK hn hv; clear hn hv)
        obtain ⟨av, cv, rfl, -, -, -, -⟩ := (sepRow HK (memS3 _ _ _ _ _)).form
        have hRow : ∀ (W : World), Hid (Sep w [lgOb pc Sc [], lgOb pb Sb L, lgOb pa Sa L, rowOb w.heap.size (.slice av L.length cv) L] W) → ∀ (i : Nat) e, L[i]? = some e → ∃ gv, av = some ⟨gv, 0, none⟩ ∧ gv < W.heap.size ∧ W.rangeAt gv (i * 7) e.cells := fun W H i e hi => by
          obtain ⟨gv, cap, hv, h1, h2, h3⟩ := (sepRow H (memS3 _ _ _ _ _)).at hi
          injection hv with h4 h5 h6
          exact ⟨gv, h4, h2, h3⟩
        replace hRow := Lib.hid hRow
        go_wp2_with fail
        go_loopg [16] (L.length + 1) (fun g2 i2 wr2 => ∃ j : Nat, g2 = L.length + 1 - j ∧ j ≤ L.length ∧ i2 = .int .i64 (j : Int) ∧ Hid (Sep w [lgOb pc Sc [], lgOb pb Sb L, lgOb pa Sa L, rowOb w.heap.size (.slice av L.length cv) L] wr2))
        case atStart => exact ⟨0, rfl, Nat.zero_le _, rfl, HK⟩
        case round =>
          clear HK
          obtain ⟨j, hg2, hj, rfl, HK⟩ := hrel
          replace hg2 := Lib.hid hg2
          by_cases hjl : j < L.length
          · obtain ⟨eb, hb⟩ : ∃ eb, L[j]? = some eb := ⟨_, List.getElem?_eq_getElem hjl⟩
            obtain ⟨gv, rfl, -, -⟩ := hRow.out _ HK j eb hb
            replace hb := Lib.hid hb
            have hji : (j : Int) < (L.length : Int) := by omega
            go_wp2_with fail
            go_loopg [17] (j + 1) (fun g3 i3 wr3 => ∃ m : Nat, g3 = j + 1 - m ∧ m ≤ j ∧ i3 = .int .i64 (m : Int) ∧ Hid (Sep w [lgOb pc Sc [], lgOb pb Sb L, lgOb pa Sa L, rowOb w.heap.size (.slice (some ⟨gv, 0, none⟩) L.length cv) L] wr3))
            case atStart => exact ⟨0, rfl, Nat.zero_le _, rfl, HK⟩
            case round =>
              clear HK
              obtain ⟨m, hg3, hm, rfl, HK⟩ := hrel
              replace hg3 := Lib.hid hg3
              by_cases hmj : m < j
              · obtain ⟨ea, ha⟩ : ∃ ea, L[m]? = some ea := ⟨_, List.getElem?_eq_getElem (by omega)⟩
                have hrise : ea.client = eb.client → ea.seq < eb.seq := fun hc => seq_rise hGood.out hmj ha hb.out hc
                replace HK := sepDrew HK
                obtain ⟨ga, hga, -, hra⟩ := hRow.out _ HK m ea ha
                obtain ⟨gb, hgb, -, hrb⟩ := hRow.out _ HK j eb hb.out
                cases hga
                cases hgb
                obtain ⟨Sw, s0, sK⟩ : ∃ Sw : World → Prop, Sw wr.drew ∧ (∀ W, Sw W → W = wr.drew) := ⟨fun W => W = wr.drew, rfl, fun _ h => h⟩
                haveI : Nonempty (Wd Sw) := ⟨⟨_, s0⟩⟩
                have q1 : ∀ z : Wd Sw, z.w.cell? ⟨gv, m * 7 + 1, none⟩ = some (.int .i64 ea.client) := fun z => by rw [sK _ z.h]; exact hra 1 _ rfl
                have q2 : ∀ z : Wd Sw, z.w.cell? ⟨gv, m * 7 + 2, none⟩ = some (.int .i64 ea.seq) := fun z => by rw [sK _ z.h]; exact hra 2 _ rfl
                have q3 : ∀ z : Wd Sw, z.w.cell? ⟨gv, j * 7 + 1, none⟩ = some (.int .i64 eb.client) := fun z => by rw [sK _ z.h]; exact hrb 1 _ rfl
                have q4 : ∀ z : Wd Sw, z.w.cell? ⟨gv, j * 7 + 2, none⟩ = some (.int .i64 eb.seq) := fun z => by rw [sK _ z.h]; exact hrb 2 _ rfl
                have hmi : (m : Int) < (L.length : Int) := by omega
                have hmj2 : (m : Int) < (j : Int) := by omega
                replace sK := Lib.hid sK
                replace ha := Lib.hid ha
                clear hra hrb
                generalize ea.client = c1 at *
                generalize eb.client = c2 at *
                generalize ea.seq = s1 at *
                generalize eb.seq = s2 at *
                by_cases hc : c1 = c2
                · have hs := hrise hc
                  subst hc
                  have hs2 : decide (s2 ≤ s1) = false := decide_eq_false (by omega)
                  replace hrise := Lib.hid hrise
                  replace hs := Lib.hid hs
                  go_wp2_with fail
                  refine wp_region_wd Sw s0 (by kernel_rfl) (by kernel_rfl) ?_
                  repeat (go_big_quiet_step (fail))
                  refine wpQuiet_nil ?_
                  rintro _ ⟨z, rfl⟩
                  have hz := sK.out _ z.h
                  generalize z.w = W9 at *
                  subst hz
                  clear q1 q2 q3 q4
                  go_wp2_with fail
                  go_roundg (j + 1 - (m + 1))
                  case measure => have := hg3.out; omega
                  case rel => exact ⟨m + 1, rfl, by omega, by go_num, HK⟩
                · have hc2 : (c1 == c2) = false := beq_eq_false_iff_ne.2 hc
                  replace hc := Lib.hid hc
                  replace hrise := Lib.hid hrise
                  go_wp2_with fail
                  refine wp_region_wd Sw s0 (by kernel_rfl) (by kernel_rfl) ?_
                  repeat (go_big_quiet_step (fail))
                  refine wpQuiet_nil ?_
                  rintro _ ⟨z, rfl⟩
                  have hz := sK.out _ z.h
                  generalize z.w = W9 at *
                  subst hz
                  clear q1 q2 q3 q4
                  go_wp2_with fail
                  go_roundg (j + 1 - (m + 1))
                  case measure => have := hg3.out; omega
                  case rel => exact ⟨m + 1, rfl, by omega, by go_num, HK⟩
              · obtain rfl : m = j := by omega
                go_wp2_with fail
                go_roundg (L.length + 1 - (m + 1))
                case measure => have := hg2.out; omega
                case rel => exact ⟨m + 1, rfl, by omega, by go_num, HK⟩
          · obtain rfl : j = L.length := by omega
            by_cases hL0 : L.length = 0
            · have hz : ((L.length : Int) == 0) = true := by simp [hL0]
              go_wp2_with (go_at_call 7; refine (logged_any _).mono ?_; rintro e w9 ⟨rfl, hn⟩; replace HK := sepBelow HK hn; clear hn)
              go_ret
              exact ⟨rfl, HK.out.ends⟩
            · have hz : ((L.length : Int) == 0) = false := beq_eq_false_iff_ne.2 (by omega)
              obtain ⟨u0, u1⟩ := bounds_u8 w1
              obtain ⟨N, hN⟩ : ∃ N : Nat, N = a1.toNat % L.length := ⟨_, rfl⟩
              have hmod := tmod_u8 u0 u1 L.length
              rw [← hN] at hmod
              have hNl : N < L.length := by rw [hN]; exact Nat.mod_lt _ (by omega)
              replace hN := Lib.hid hN
              clear u0 u1 w1
              obtain ⟨en, hen⟩ : ∃ en, L[N]? = some en := ⟨_, List.getElem?_eq_getElem hNl⟩
              obtain ⟨gv, rfl, -, -⟩ := hRow.out _ HK N en hen
              obtain ⟨P, hP⟩ : ∃ P : O, P = ⟨2, [97, 110, 111, 116, 104, 101, 114], [111, 110, 101], 0⟩ := ⟨_, rfl⟩
              have hPc : P.check = 0 ∧ P.kind ≠ 1 := by rw [hP]; decide
              have hPv : (.agg P.cells.toArray : Value) = .agg #[.int .i64 2, .string ⟨#[97, 110, 111, 116, 104, 101, 114]⟩, .string ⟨#[111, 110, 101]⟩, .int .i64 0] := by rw [hP]; rfl
              replace hPv := Lib.hid hPv
              replace hP := Lib.hid hP
              have hG2 := setOp_good hGood.out N hPc.1 hPc.2
              have hNi : (N : Int) < (L.length : Int) := by omega
              have hlS := setOp_len L N P
              have hget := setOp_get L N P N en hen
              rw [if_pos rfl] at hget
              replace hPc := Lib.hid hPc
              replace hG2 := Lib.hid hG2
              replace hlS := Lib.hid hlS
              replace hget := Lib.hid hget
              obtain ⟨gv', cap', cs, hveq, -, hBk, hcl, hput⟩ := own_setOp P (sepRow HK (memS3 _ _ _ _ _)) hen
              obtain ⟨hgg, -⟩ : gv = gv' ∧ True := by injection hveq with h1; injection h1 with h1; injection h1 with h1; exact ⟨h1, trivial⟩
              subst hgg
              clear hveq
              replace hput := Lib.hid hput
              replace hen := Lib.hid hen
              replace hBk := Lib.hid hBk
              go_upto_region 26 with fail
              skip
              clear hmod
              go_upto_region 27 with (first
                | ((with_reducible show wpList _ _ _ (⟨none, .store _ (.tmp 146) _, _, _, _, _⟩ :: _) _ _); refine wpList_store_part rfl TO _ _ rfl gv (N * 7 + 3) TEn cs P.cells 4 (by kernel_rfl) (by rw [hPv.out]; kernel_rfl) hBk.out (by omega) (O.cellsN P) info_op ?_; intro wf Tf Kf; replace HK : Hid (Sep w [lgOb pc Sc [], lgOb pb Sb L, lgOb pa Sa L, rowOb w.heap.size (.slice (some ⟨gv, 0, none⟩) L.length cv) (setOp L N P)] wf) := sepRow3 HK Tf (hput.out _ Tf Kf); clear Tf Kf))
              clear hput hBk hcl hPv
              obtain ⟨ex, hex⟩ : ∃ ex : E, ex = { en with op := P } := ⟨_, rfl⟩
              rw [← hex] at hget
              have hseq : sameE ex en = true ↔ setOp L N P = L := by rw [sameE_iff, hex]; exact (setOp_eq hen.out).symm
              replace hex := Lib.hid hex
              replace hseq := Lib.hid hseq
              have hRow2 : ∀ (W : World) (Sx : List Nat) (M : List E), Hid (Sep w [lgOb pc Sx M, lgOb pb Sb L, lgOb pa Sa L, rowOb w.heap.size (.slice (some ⟨gv, 0, none⟩) L.length cv) (setOp L N P)] W) → ∀ (i : Nat) e, (setOp L N P)[i]? = some e → W.rangeAt gv (i * 7) e.cells := fun W Sx M H i e hi => by
                obtain ⟨gv', cap, hv, h1, h2, h3⟩ := (sepRow H (memS3 _ _ _ _ _)).at hi
                injection hv with h4 h5 h6
                injection h4 with h4
                injection h4 with h4
                subst h4
                exact h3
              replace hRow2 := Lib.hid hRow2
              try simp only [Act.put]
              go_cut [19] from 147 (fun s19 wx => s19 = .bool (sameE ex en) ∧ Hid (Sep w [lgOb pc Sc [], lgOb pb Sb L, lgOb pa Sa L, rowOb w.heap.size (.slice (some ⟨gv, 0, none⟩) L.length cv) (setOp L N P)] wx))
              case first =>
                replace HK := sepDrew HK
                have f1 : ldRun Try.prog TEn wf.drew (.pointer (some ⟨gv, N * 7, none⟩)) = .ok (.value (.agg ex.cells.toArray)) wf.drew := ldEnAt (hRow2.out _ _ _ HK N ex hget.out)
                have e1 := eql_ents ex en
                have e2 := fun op x' y' => guard_ents op x' y' ex en
                go_region_law (first
                  | (go_simp; go_at_call 21; refine (lg_entries _ pa Sa L (sepLg HK (memS2 _ _ _ _))).mono ?_; rintro e wg ⟨v2, rfl, hv2, hn⟩; replace HK := sepBelow HK hn; obtain ⟨g2, c2, hv3, -, -, hr2⟩ := hv2.at hen.out; subst hv3; clear hn hv2 f1; have f1 := ldEnAt (hRow2.out _ _ _ HK N ex hget.out); have f2 : ldRun Try.prog TEn wg (.pointer (some ⟨g2, N * 7, none⟩)) = .ok (.value (.agg en.cells.toArray)) wg := ldEnAt hr2))
                all_goals
                  clear e1 e2 f1 f2
                  go_wp2_with fail
                  go_meet
                  case rel => exact ⟨rfl, HK⟩
              case rest =>
                clear HK
                obtain ⟨rfl, HK⟩ := hcut
                obtain ⟨LS, hLS⟩ : ∃ LS, LS = setOp L N P := ⟨_, rfl⟩
                rw [← hLS] at HK hlS hG2 hget hseq
                have hRow3 : ∀ (W : World) (Sx : List Nat) (M : List E), Hid (Sep w [lgOb pc Sx M, lgOb pb Sb L, lgOb pa Sa L, rowOb w.heap.size (.slice (some ⟨gv, 0, none⟩) L.length cv) LS] W) → ∀ (i : Nat) e, LS[i]? = some e → W.rangeAt gv (i * 7) e.cells := by rw [hLS]; exact hRow2.out
                replace hRow3 := Lib.hid hRow3
                replace hLS := Lib.hid hLS
                clear hRow2
                go_wp2_with fail
                go_loopg [20] (L.length + 1) (fun g4 i4 wr4 => ∃ (j : Nat) (Sx : List Nat), g4 = L.length + 1 - j ∧ j ≤ L.length ∧ i4 = .int .i64 (j : Int) ∧ Hid (Sep w [lgOb pc Sx (LS.take j), lgOb pb Sb L, lgOb pa Sa L, rowOb w.heap.size (.slice (some ⟨gv, 0, none⟩) L.length cv) LS] wr4))
                case atStart => exact ⟨0, Sc, rfl, Nat.zero_le _, rfl, HK⟩
                case round =>
                  clear HK
                  obtain ⟨j, Sx, hg4, hj4, rfl, HK⟩ := hrel
                  replace hg4 := Lib.hid hg4
                  by_cases hjl4 : j < L.length
                  · obtain ⟨y, hy⟩ : ∃ y, LS[j]? = some y := ⟨_, List.getElem?_eq_getElem (by rw [hlS.out]; exact hjl4)⟩
                    obtain ⟨ht0, ht1⟩ := app_take hG2.out hy
                    have hji : (j : Int) < (L.length : Int) := by omega
                    have hrow := Lib.hid (hRow3.out _ _ _ HK j y hy)
                    have LC := fun (W : World) (h : LgAt W pc Sx (LS.take j)) => lg_append W pc Sx (LS.take j) h y (by rw [List.length_take]; omega)
                    rw [ht0, ht1] at LC
                    generalize ans (LS.take j) y = R at *
                    replace LC := Lib.hid LC
                    replace ht0 := Lib.hid ht0
                    replace ht1 := Lib.hid ht1
                    replace hy := Lib.hid hy
                    go_wp2_with (first
                      | ((with_reducible show wpList _ _ _ (⟨some 168, .load TEn _, _, _, _, _⟩ :: _) _ _); refine wpList_load_mid rfl TEn _ rfl gv (j * 7) (by kernel_rfl) y.cells d hrow.out hd.out hdr info_entryN ?_)
                      | (go_at_call 12; refine (LC.out _ (sepLg HK (memS0 _ _))).mono ?_; rintro e we ⟨rfl, S3, hL, hT, hN⟩; replace HK := sepLg0 HK hT hL hN; clear hL hT hN)
                      | ((with_reducible show wpList _ _ _ (⟨some 21, .alloc _, _, _, _, _⟩ :: _) _ _); refine wpList_alloc_blk rfl TR rfl _ zero_res ?_; intro wh Bf Kf Sf; clear Sf; replace HK := sepEnd4 HK Bf Kf (Nat.le_refl _); clear Bf Kf; generalize we.heap.size = r1 at *)
                      | ((with_reducible show wpList _ _ _ (⟨none, .store TR (.tmp 21) _, _, _, _, _⟩ :: _) _ _); refine wpList_store_blk rfl TR _ _ rfl r1 TR zeroR.cells R.cells 4 (by kernel_rfl) (by kernel_rfl) (sepBlk HK (memS4 _ _ _ _ _ _)) rfl (Rs.cellsN _) info_res ?_; intro wk Tk Kk Sk; clear Sk; replace HK := sepBlk4 HK Tk Kk; clear Tk Kk))
                    go_roundg (L.length + 1 - (j + 1))
                    case measure => have := hg4.out; omega
                    case rel => exact ⟨j + 1, S3, rfl, by omega, by go_num, sepTop4 HK⟩
                  · obtain rfl : j = L.length := by omega
                    have hTk : LS.take L.length = LS := List.take_of_length_le (by rw [hlS.out]; exact Nat.le_refl _)
                    rw [hTk] at HK
                    replace hTk := Lib.hid hTk
                    by_cases hsm : sameE ex en = true
                    · have hEq := hseq.out.1 hsm
                      have B1 := Lib.hid (fun (W : World) (h : LgAt W pc Sx LS) (k : LgAt W pa Sa L) => lg_begins_yes W pc Sx LS h pa Sa L k (by rw [hEq]; exact List.prefix_rfl))
                      have B2 := Lib.hid (fun (W : World) (h : LgAt W pa Sa L) (k : LgAt W pc Sx LS) => lg_begins_yes W pa Sa L h pc Sx LS k (by rw [hEq]; exact List.prefix_rfl))
                      replace hEq := Lib.hid hEq
                      rw [hsm]
                      replace hsm := Lib.hid hsm
                      go_wp2_with (first
                        | (go_at_call 16; (with_reducible refine (B1.out _ (sepLg HK (memS0 _ _)) (sepLg HK (memS2 _ _ _ _))).mono ?_); rintro e wl ⟨rfl, hn⟩; replace HK := sepBelow HK hn; clear hn)
                        | (go_at_call 16; (with_reducible refine (B2.out _ (sepLg HK (memS2 _ _ _ _)) (sepLg HK (memS0 _ _))).mono ?_); rintro e wm ⟨rfl, hn⟩; replace HK := sepBelow HK hn; clear hn)
                        | (go_at_call 8; refine (lg_new _).mono ?_; rintro e wn ⟨pn, Sn, rfl, hNw, -, hn⟩; replace HK := sepBelow HK hn; clear hn)
                        | (go_at_call 16; (with_reducible refine (lg_begins_yes _ pn Sn [] hNw pc Sx LS (sepLg HK (memS0 _ _)) List.nil_prefix).mono ?_); rintro e wo ⟨rfl, hn⟩; replace HK := sepBelow HK hn; clear hn hNw)
                        | (go_at_call 7; refine (logged_any _).mono ?_; rintro e w9 ⟨rfl, hn⟩; replace HK := sepBelow HK hn; clear hn))
                      go_ret
                      exact ⟨rfl, HK.out.ends⟩
                    · have hNe : ¬ LS = L := fun h => hsm (hseq.out.2 h)
                      have B1 := Lib.hid (fun (W : World) (h : LgAt W pc Sx LS) (k : LgAt W pa Sa L) => lg_begins_no W pc Sx LS h pa Sa L k (fun hp => hNe ((eq_of_prefix hlS.out).1 hp)))
                      have B2 := Lib.hid (fun (W : World) (h : LgAt W pa Sa L) (k : LgAt W pc Sx LS) => lg_begins_no W pa Sa L h pc Sx LS k (fun hp => hNe ((eq_of_prefix hlS.out.symm).1 hp).symm))
                      replace hNe := Lib.hid hNe
                      rw [Bool.not_eq_true] at hsm
                      rw [hsm]
                      replace hsm := Lib.hid hsm
                      go_wp2_with (first
                        | (go_at_call 16; (with_reducible refine (B1.out _ (sepLg HK (memS0 _ _)) (sepLg HK (memS2 _ _ _ _))).mono ?_); rintro e wl ⟨rfl, hn⟩; replace HK := sepBelow HK hn; clear hn)
                        | (go_at_call 16; (with_reducible refine (B2.out _ (sepLg HK (memS2 _ _ _ _)) (sepLg HK (memS0 _ _))).mono ?_); rintro e wm ⟨rfl, hn⟩; replace HK := sepBelow HK hn; clear hn)
                        | (go_at_call 8; refine (lg_new _).mono ?_; rintro e wn ⟨pn, Sn, rfl, hNw, -, hn⟩; replace HK := sepBelow HK hn; clear hn)
                        | (go_at_call 16; (with_reducible refine (lg_begins_yes _ pn Sn [] hNw pc Sx LS (sepLg HK (memS0 _ _)) List.nil_prefix).mono ?_); rintro e wo ⟨rfl, hn⟩; replace HK := sepBelow HK hn; clear hn hNw)
                        | (go_at_call 7; refine (logged_any _).mono ?_; rintro e w9 ⟨rfl, hn⟩; replace HK := sepBelow HK hn; clear hn))
                      go_ret
                      exact ⟨rfl, HK.out.ends⟩

/-! ### The row. -/
set_option maxRecDepth 100000 in
theorem lifted (os : Os) (started : os.Started) (H : Type) (enc : TypeId × Value → H) :
    ReturnsInHanded {} Try.checked os 5 .any (Rows.logsSameSpec.pre6 enc Try.prog Try.f5 Rows.logsSameRow.domain false) (Rows.logsSameSpec.post enc Try.prog Try.f5 false true false false) := by
  refine returnsInHanded_of_change (C := Try.checked) own started (by kernel_rfl) Try.func5
    (ChangeSpec.witness6 (enc := enc) (C := Try.checked) false ⟨#[], #[.slice none 0 0, .int .u8 0], []⟩ 8 (by kernel_rfl) (by kernel_rfl) (by kernel_rfl) (by kernel_rfl)) ?_
  intro W base args ds gs before hval0 hW hcnd _
  have hval : ∀ (j : Nat) t v, Try.f5.params[j]? = some t → args[j]? = some v → Value.okWide Try.prog W .any base t v := hval0
  have hW' := hW
  obtain ⟨p, q, hA0, hV, rfl, hfz, hnd⟩ := hW
  have hA : DataW.TrodAll enc Try.prog W 0 (fun _ => true) true Try.f5.params.toList args.toList ds p := hA0
  rw [Try.params5] at hA hval
  obtain ⟨v0, vs0, d0, ds0, p0, q0, hargs, rfl, rfl, h0, r0⟩ := trodAll_cons hA
  obtain ⟨v1, vs1, d1, ds1, p1, q1, rfl, rfl, rfl, h1, r1⟩ := trodAll_cons r0
  obtain ⟨rfl, rfl, rfl⟩ := trodAll_nil r1
  obtain rfl : args = #[v0, v1] := by cases args; simp_all
  obtain ⟨rfl, rfl⟩ := trodVars_none hV
  have k0 := h0
  have lt0 : ∀ x ∈ p0, x.block < W.heap.size := by obtain ⟨m, hm⟩ := k0; exact DataW.trod_lt m _ _ _ hm
  have f0 := fits_of_Trod sh0 h0; obtain ⟨ao0, ln0, cp0, rfl⟩ := okWide_slice Try.underlying22 (hval 0 22 v0 rfl rfl)
  have k1 := h1
  have lt1 : ∀ x ∈ p1, x.block < W.heap.size := by obtain ⟨m, hm⟩ := k1; exact DataW.trod_lt m _ _ _ hm
  obtain ⟨a1, rfl, rfl, rfl, w1⟩ := open_int Try.underlying5 (hval 1 5 v1 rfl rfl) h1
  clear hA0 hval0
  refine (walk W ao0 ln0 cp0 a1 f0 w1).mono fun e W' ⟨he, bel⟩ => ?_
  subst he
  exact ⟨_, rfl, _, _, _, [], _, [], hW', trodAll_mk1 (shut_bool Try.underlying4 _), (trodAll_cons_mk (Below.trod laidOut (by kernel_rfl) (of_decide_eq_true (by kernel_rfl)) k0 bel lt0) (trodAll_cons_mk (Below.trod laidOut (by kernel_rfl) (of_decide_eq_true (by kernel_rfl)) k1 bel lt1) trodAll_mk0)), rfl, bel.frame _, fun h => by cases h⟩

theorem over : Rows.logsSameRow.holds Try.pinned (OpenSpec.ofChange Rows.logsSameSpec) :=
  OpenClaim.holds_of_wide 5 Try.f5 rfl rfl rfl rfl rfl rfl rfl ⟨rfl, rfl, rfl, rfl, rfl⟩ rfl rfl rfl rfl rfl (by kernel_rfl) Try.func5 (by kernel_rfl)
    (of_decide_eq_true (by kernel_rfl)) (by unfold Func.isWrapper; first | (rw [if_pos (by decide +kernel)]; kernel_rfl) | (rw [if_neg (by decide +kernel)]; exact ⟨rfl, rfl⟩))
    (fun os started H enc _ => lifted os started H enc)

/-- THE STATEMENT. -/
theorem proved : Rows.LogsSameSaid := over
#print axioms proved
end Go.Proofs.Ytbmepaglhkndpaa.logsSame
