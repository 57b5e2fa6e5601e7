/-
  Law LogsNone answers true for every act, and leaves it as it was: a log that is none has no entries. Conditions: none.
-/
import Derived.Test.YtbmepaglhkndpaaRows
import Derived.WalkKit
import Derived.ProofKit
import Derived.OpenShut
import Derived.ShutString
import Derived.ChangeOld
import Derived.Below
import Derived.Test.YtbmepaglhkndpaaTyped
import Derived.Test.YtbmepaglhkndpaaLogG
import Derived.Test.YtbmepaglhkndpaaLogO
open Go.Proofs.Ytbmepaglhkndpaa.Mem Go.Proofs.Ytbmepaglhkndpaa.Ops Go.Proofs.Ytbmepaglhkndpaa.Kv Go.Proofs.Ytbmepaglhkndpaa.Logs
namespace Go.Proofs.Ytbmepaglhkndpaa.logsNone
open Go.ChangeShapes Go.WideShapes Go.ChangeAt Go.RowKit
open Go.ChangeMaps (open_string shut_string)
open Go.Proofs.Ytbmepaglhkndpaa.Mem
set_option linter.unusedVariables false

theorem own : ownKnob Try.prog.godebug = none := by kernel_rfl
theorem laidOut : laidOutB Try.prog = true := by kernel_rfl

def ty0 : Ty := actTy
def wit0 : List Value := (A.mk 0 zeroE).cells
abbrev zL : List Value := [.int .i64 0, .string ⟨#[]⟩, .int .i64 0, .int .i64 0]
abbrev zV : Value := .agg #[.int .i64 0, .string ⟨#[]⟩, .int .i64 0, .int .i64 0]
abbrev zE : List Value := [.int .i64 0, .int .i64 0, .int .i64 0, .int .i64 0, .string ⟨#[]⟩, .string ⟨#[]⟩, .int .i64 0]
abbrev zEV : Value := .agg #[.int .i64 0, .int .i64 0, .int .i64 0, .int .i64 0, .string ⟨#[]⟩, .string ⟨#[]⟩, .int .i64 0]
theorem info_actZ : (Try.prog.info? TA).map (fun i => (i.zero, i.size)) = some (some (.agg (A.mk 0 zeroE).cells.toArray), 8) := by kernel_rfl

theorem sh0 : tyOf Try.prog 20 36 = some ty0 := by kernel_rfl

/-! ### The walk: the law answers true, and writes nothing that was there. -/
set_option maxRecDepth 100000
set_option maxHeartbeats 4000000
theorem walk (w : World) (c0 : List Value) (f0 : Fits w ty0 c0) :
    Calls Try.prog 4 #[.agg c0.toArray] w fun e w' => e = .returned (.bool true) ∧ Below w.heap.size w w' := by
  obtain ⟨x, rfl, _⟩ := act_fits f0
  clear f0
  obtain ⟨d, hd, hdr⟩ := row_act
  replace hd := Lib.hid hd
  obtain ⟨d1, hd1, hdr1⟩ := row_entry
  replace hd1 := Lib.hid hd1
  obtain ⟨d2, hd2, hdr2⟩ := row_res
  replace hd2 := Lib.hid hd2
  obtain ⟨i0, hi, hi2⟩ := Option.map_eq_some_iff.1 info_actZ
  obtain ⟨hz0, hz1⟩ := Prod.mk.inj hi2
  clear hi2
  replace hi := Lib.hid hi
  replace hz0 := Lib.hid hz0
  replace hz1 := Lib.hid hz1
  have q0 : ∀ w, (binOp .neq TR zV zV).run Try.prog w = .ok (.bool false) w := neq_res zeroR
  have u0 : ∀ op x y w, (eqGuard op TR x y zV zV).run Try.prog w = .ok () w := fun op x y => guard_res op x y zeroR
  have GR := Lib.hid (fun (w1 : World) (b : Nat) (h : Blk w1 b TA x.cells) => greatL_any w1 (some ⟨b, 0, none⟩) 1 1 (fun _ => x) (fun i hi => ⟨b, 0, rfl, h.lt, by obtain rfl : i = 0 := (by omega); simpa using h.rangeAll⟩) 1 (by omega))
  cases hgr : greatL (fun _ => x) 1 1 with
  | true =>
    rw [hgr] at GR
    clear hgr
    go_enter Try.func4, Try.ntmps4
    go_wp2_with (first
      | ((with_reducible show wpList _ _ _ (⟨some 1, .box _ _, _, _, _, _⟩ :: _) _ _); refine wpList_box_blk rfl TA _ rfl x.cells rfl ?_; intro W1 B1 K1 S1; clear S1)
      | ((with_reducible show wpList _ _ _ (⟨some 13, .load TA _, _, _, _, _⟩ :: _) _ _); refine wpList_load_blk rfl TA _ rfl w.heap.size TA x.cells d rfl K1 hd.out hdr (by rw [hi.out]; exact congrArg some hz1.out) ?_)
      | ((with_reducible show wpList _ _ _ (⟨_, .buildSlice _ _ _, _, _, _, _⟩ :: _) _ _); refine wpList_slice1_blk rfl 22 TA _ rfl x.cells i0 _ rfl Try.underlying22 hi.out hz0.out (by rw [hz1.out]; rfl) (by simp [A.cells, E.cells, O.cells]) (by simp [A.cells, E.cells, O.cells]) ?_; intro W2 B2 K2 S2; clear S2)
      | (go_at_call 6; refine (GR.out _ _ K2).mono ?_; rintro e w3 ⟨rfl, hn⟩; have hB := bel (bel B1 B2) hn; clear hn)
      | (go_at_call 7; refine (logged_any _).mono ?_; rintro e w7 ⟨rfl, hn⟩; replace hB := bel hB hn; clear hn))
    go_ret
    exact ⟨rfl, hB⟩
  | false =>
    rw [hgr] at GR
    clear hgr
    go_enter Try.func4, Try.ntmps4
    go_wp2_with (first
      | ((with_reducible show wpList _ _ _ (⟨some 1, .box _ _, _, _, _, _⟩ :: _) _ _); refine wpList_box_blk rfl TA _ rfl x.cells rfl ?_; intro W1 B1 K1 S1; clear S1; have l1 := K1.lt)
      | ((with_reducible show wpList _ _ _ (⟨some 13, .load TA _, _, _, _, _⟩ :: _) _ _); refine wpList_load_blk rfl TA _ rfl w.heap.size TA x.cells d rfl K1 hd.out hdr (by rw [hi.out]; exact congrArg some hz1.out) ?_)
      | ((with_reducible show wpList _ _ _ (⟨_, .buildSlice _ _ _, _, _, _, _⟩ :: _) _ _); refine wpList_slice1_blk rfl 22 TA _ rfl x.cells i0 _ rfl Try.underlying22 hi.out hz0.out (by rw [hz1.out]; rfl) (by simp [A.cells, E.cells, O.cells]) (by simp [A.cells, E.cells, O.cells]) ?_; intro W2 B2 K2 S2; clear S2)
      | (go_at_call 6; refine (GR.out _ _ K2).mono ?_; rintro e w3 ⟨rfl, hn⟩; have hB := bel (bel B1 B2) hn; have hK : Blk w3 w.heap.size TA x.cells := (K1.below B2 l1).below hn (by have := B2.size; omega); clear hn))
    go_loopg [3, 4] 3 (fun g s i wr => ∃ k : Nat, g = 3 - k ∧ k ≤ 2 ∧ i = .int .i64 (k : Int) ∧ NoL wr s ∧ Below w3.heap.size w3 wr)
    case atStart => exact ⟨0, rfl, by omega, rfl, nol_nil _, Below.refl _ _⟩
    case round =>
      obtain ⟨k, hg, hk, rfl, hN, hBr⟩ := hrel
      replace hg := Lib.hid hg
      have hl := hK.lt
      have K3 := hK.below hBr hl
      replace hN := Lib.hid hN
      by_cases h2 : k < 2
      · have h2i : (k : Int) < 2 := by omega
        have hB3 := bel hB hBr
        have l3 := K3.lt
        have HK := Lib.hid (Sep.start wr)
        have cl : ∀ W, Below wr.heap.size wr W → W.cell? ⟨w.heap.size, 2, none⟩ = some (.int .i64 x.ent.client) := fun W hW => (K3.below hW l3).cell 2
        have ra : wr.rangeAt w.heap.size 1 x.ent.cells := by simpa using range_aent (off := 0) K3.rangeAll
        replace ra := Lib.hid ra
        replace K3 := Lib.hid K3
        replace hBr := Lib.hid hBr
        replace hB3 := Lib.hid hB3
        replace cl := Lib.hid cl
        go_wp2_with (first
          | ((with_reducible show wpList _ _ _ (⟨some 24, .load TEn _, _, _, _, _⟩ :: _) _ _); refine wpList_load_mid rfl TEn _ rfl w.heap.size 1 rfl x.ent.cells d1 ra.out hd1.out hdr1 info_entryN ?_)
          | (go_at_call 12; refine (nl_append _ _ (hN.out.below HK.out.ends) x.ent).mono ?_; rintro e w4 ⟨he, hn⟩; obtain rfl : e = .returned (.tuple #[zV, .int .i64 1]) := he; replace HK := sepBelow HK hn; clear hn)
          | ((with_reducible show wpList _ _ _ (⟨some 5, .alloc _, _, _, _, _⟩ :: _) _ _); refine wpList_alloc_blk rfl TR rfl zL zero_res ?_; intro W5 B5 K5 S5; clear S5; replace HK := Lib.hid (HK.out.pushBlk B5 K5); clear B5 K5; generalize w4.heap.size = b5 at *)
          | ((with_reducible show wpList _ _ _ (⟨none, .store TR (.tmp 5) _, _, _, _, _⟩ :: _) _ _); refine wpList_store_blk rfl TR _ _ rfl b5 TR zL zL 4 rfl rfl (sepBlk HK (memS0 _ _)) rfl (Rs.cellsN zeroR) info_res ?_; intro W6 T6 K6 S6; clear S6; replace HK := Lib.hid (Sep.turn0 HK.out T6 K6); clear T6 K6)
          | (go_at_call 18; refine (nl_at _ _ (hN.out.below HK.out.ends) 1).mono ?_; rintro e w7 ⟨he, hn⟩; obtain rfl : e = .returned (.tuple #[zEV, .bool false]) := he; replace HK := sepBelow HK hn; clear hn)
          | ((with_reducible show wpList _ _ _ (⟨some 7, .alloc _, _, _, _, _⟩ :: _) _ _); refine wpList_alloc_blk rfl TEn rfl zE zero_entry ?_; intro W8 B8 K8 S8; clear S8; replace HK := Lib.hid (HK.out.pushBlk B8 K8); clear B8 K8; generalize w7.heap.size = b7 at *)
          | ((with_reducible show wpList _ _ _ (⟨none, .store TEn (.tmp 7) _, _, _, _, _⟩ :: _) _ _); refine wpList_store_blk rfl TEn _ _ rfl b7 TEn zE zE 7 rfl rfl (sepBlk HK (memS0 _ _)) rfl (E.cellsN zeroE) info_entryN ?_; intro W9 T9 K9 S9; clear S9; replace HK := Lib.hid (Sep.turn0 HK.out T9 K9); clear T9 K9)
          | (go_at_call 19; refine (nl_result _ _ (hN.out.below HK.out.ends) 1).mono ?_; rintro e wa ⟨he, hn⟩; obtain rfl : e = .returned (.tuple #[zV, .bool false]) := he; replace HK := sepBelow HK hn; clear hn)
          | ((with_reducible show wpList _ _ _ (⟨some 9, .alloc _, _, _, _, _⟩ :: _) _ _); refine wpList_alloc_blk rfl TR rfl zL zero_res ?_; intro Wb Bb Kb Sb; clear Sb; replace HK := Lib.hid (HK.out.pushBlk Bb Kb); clear Bb Kb; generalize wa.heap.size = b9 at *)
          | ((with_reducible show wpList _ _ _ (⟨none, .store TR (.tmp 9) _, _, _, _, _⟩ :: _) _ _); refine wpList_store_blk rfl TR _ _ rfl b9 TR zL zL 4 rfl rfl (sepBlk HK (memS0 _ _)) rfl (Rs.cellsN zeroR) info_res ?_; intro Wc Tc Kc Sc; clear Sc; replace HK := Lib.hid (Sep.turn0 HK.out Tc Kc); clear Tc Kc; have c2 := cl.out _ HK.out.ends)
          | (go_at_call 20; refine (nl_last _ _ (hN.out.below HK.out.ends) _).mono ?_; rintro e wd ⟨rfl, hn⟩; replace HK := sepBelow HK hn; clear hn c2)
          | ((with_reducible show wpList _ _ _ (⟨some 46, .load TR _, _, _, _, _⟩ :: _) _ _); refine wpList_load_blk rfl TR _ rfl b5 TR zL d2 rfl (sepBlk HK (memS2 _ _ _ _)) hd2.out hdr2 info_res ?_)
          | (go_at_call 13; refine (nl_len _ _ (hN.out.below HK.out.ends)).mono ?_; rintro e we ⟨rfl, hn⟩; replace HK := sepBelow HK hn; clear hn)
          | (go_at_call 21; refine (nl_entries _ _ (hN.out.below HK.out.ends)).mono ?_; rintro e wf ⟨⟨ao, cap, rfl⟩, hn⟩; replace HK := sepBelow HK hn; clear hn)
          | (go_at_call 10; refine (nl_look _ _ (hN.out.below HK.out.ends) [107]).mono ?_; rintro e wg ⟨he, hn⟩; obtain rfl : e = .returned zV := he; replace HK := sepBelow HK hn; clear hn)
          | (go_at_call 9; refine (nl_copy _ _ (hN.out.below HK.out.ends)).mono ?_; rintro e wh ⟨rfl, hn⟩; replace HK := sepBelow HK hn; clear hn)
          | (go_at_call 8; refine (lg_new _).mono ?_; rintro e wi ⟨p, S0, rfl, hS, hS0, hn⟩; replace HK := sepBelow HK hn; clear hn hS0)
          | (go_at_call 16; (with_reducible refine (nl_begins_nn _ _ _ (hN.out.below HK.out.ends) (nol_nil _)).mono ?_); rintro e wj ⟨rfl, hn⟩; replace HK := sepBelow HK hn; clear hn)
          | (go_at_call 16; (with_reducible refine (nl_begins_n1 _ _ (hN.out.below HK.out.ends) p S0 [] hS).mono ?_); rintro e wk ⟨rfl, hn⟩; replace HK := sepBelow HK hn; clear hn hS)
          | (go_at_call 16; (with_reducible refine (nl_begins_1n _ _ (hN.out.below HK.out.ends) p S0 [] hS).mono ?_); rintro e wl ⟨rfl, hn⟩; replace HK := sepBelow HK hn; clear hn hS)
          | ((with_reducible show wpList _ _ _ (⟨some 105, .box _ _, _, _, _, _⟩ :: _) _ _); refine wpList_box_blk rfl TLg _ rfl zeroLg rfl ?_; intro Wm Bm Km Sm; clear Sm; have hN2 := nol_zero _ _ Km; replace HK := sepBelow HK Bm; clear Bm))
        go_roundg (3 - (k + 1))
        case measure => have := hg.out; omega
        case rel => exact ⟨k + 1, rfl, by omega, by first | go_num | (rw [Int.natCast_add]; rfl), hN2, bel hBr.out HK.out.ends⟩
      · have h2i : ¬ (k : Int) < 2 := by omega
        replace hB := bel hB hBr
        go_wp2_with (go_at_call 7; refine (logged_any _).mono ?_; rintro e w9 ⟨rfl, hn⟩; replace hB := bel hB hn; clear hn)
        go_ret
        exact ⟨rfl, hB⟩

/-! ### The row. -/
set_option maxRecDepth 100000 in
theorem lifted (os : Os) (started : os.Started) (H : Type) (enc : TypeId × Value → H) :
    ReturnsInHanded {} Try.checked os 4 .any (Rows.logsNoneSpec.pre6 enc Try.prog Try.f4 Rows.logsNoneRow.domain false) (Rows.logsNoneSpec.post enc Try.prog Try.f4 false true false false) := by
  refine returnsInHanded_of_change (C := Try.checked) own started (by kernel_rfl) Try.func4
    (ChangeSpec.witness6 (enc := enc) (C := Try.checked) false ⟨#[], #[.agg wit0.toArray], []⟩ 8 (by kernel_rfl) (by kernel_rfl) (by kernel_rfl) (by kernel_rfl)) ?_
  intro W base args ds gs before hval0 hW hcnd _
  have hval : ∀ (j : Nat) t v, Try.f4.params[j]? = some t → args[j]? = some v → Value.okWide Try.prog W .any base t v := hval0
  have hW' := hW
  obtain ⟨p, q, hA0, hV, rfl, hfz, hnd⟩ := hW
  have hA : DataW.TrodAll enc Try.prog W 0 (fun _ => true) true Try.f4.params.toList args.toList ds p := hA0
  rw [Try.params4] at hA hval
  obtain ⟨v0, vs0, d0, ds0, p0, q0, hargs, rfl, rfl, h0, r0⟩ := trodAll_cons hA
  obtain ⟨rfl, rfl, rfl⟩ := trodAll_nil r0
  obtain rfl : args = #[v0] := by cases args; simp_all
  obtain ⟨rfl, rfl⟩ := trodVars_none hV
  have k0 := h0
  have lt0 : ∀ x ∈ p0, x.block < W.heap.size := by obtain ⟨m, hm⟩ := k0; exact DataW.trod_lt m _ _ _ hm
  have f0 := fits_of_Trod sh0 h0; obtain ⟨⟨c0⟩, rfl, _⟩ := okWide_struct Try.underlying36 (hval 0 36 v0 rfl rfl)
  clear hA0 hval0
  refine (walk W c0 f0).mono fun e W' ⟨he, bel⟩ => ?_
  subst he
  exact ⟨_, rfl, _, _, _, [], _, [], hW', trodAll_mk1 (shut_bool Try.underlying4 _), (trodAll_cons_mk (Below.trod laidOut (by kernel_rfl) (of_decide_eq_true (by kernel_rfl)) k0 bel lt0) trodAll_mk0), rfl, bel.frame _, fun h => by cases h⟩

theorem over : Rows.logsNoneRow.holds Try.pinned (OpenSpec.ofChange Rows.logsNoneSpec) :=
  OpenClaim.holds_of_wide 4 Try.f4 rfl rfl rfl rfl rfl rfl rfl ⟨rfl, rfl, rfl, rfl, rfl⟩ rfl rfl rfl rfl rfl (by kernel_rfl) Try.func4 (by kernel_rfl)
    (of_decide_eq_true (by kernel_rfl)) (by unfold Func.isWrapper; first | (rw [if_pos (by decide +kernel)]; kernel_rfl) | (rw [if_neg (by decide +kernel)]; exact ⟨rfl, rfl⟩))
    (fun os started H enc _ => lifted os started H enc)

/-- THE STATEMENT. -/
theorem proved : Rows.LogsNoneSaid := over
#print axioms proved
end Go.Proofs.Ytbmepaglhkndpaa.logsNone
