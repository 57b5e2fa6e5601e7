/-
  Law KvNone answers true for every act, and leaves it as it was: a store that is none has no keys. Conditions: none.
-/
import Derived.Test.YtkicbjjmmcjkhaaRows
import Derived.WalkKit
import Derived.ProofKit
import Derived.OpenShut
import Derived.ShutString
import Derived.ChangeOld
import Derived.Below
import Derived.Test.YtkicbjjmmcjkhaaTyped
import Derived.Test.YtkicbjjmmcjkhaaKvB
open Go.Proofs.Ytkicbjjmmcjkhaa.Mem Go.Proofs.Ytkicbjjmmcjkhaa.Ops Go.Proofs.Ytkicbjjmmcjkhaa.Kv
namespace Go.Proofs.Ytkicbjjmmcjkhaa.kvNone
open Go.ChangeShapes Go.WideShapes Go.ChangeAt Go.RowKit
open Go.ChangeMaps (open_string shut_string)
open Go.Proofs.Ytkicbjjmmcjkhaa.Mem
set_option linter.unusedVariables false

theorem own : ownKnob Try.prog.godebug = none := by kernel_rfl
theorem laidOut : laidOutB Try.prog = true := by kernel_rfl

def ty0 : Ty := actTy
def wit0 : List Value := (A.mk 0 0 zeroO).cells
abbrev zV : Value := .agg #[.int .i64 0, .string ⟨#[]⟩, .int .i64 0, .int .i64 0]
abbrev TA : TypeId := 31
theorem info_act : (Try.prog.info? TA).map (fun i => (i.zero, i.size)) = some (some (.agg (A.mk 0 0 zeroO).cells.toArray), 6) := by kernel_rfl
theorem row_act : ∃ d, Try.prog.underlying TA = some d ∧ d.isRow = true := ⟨_, Try.underlying31, rfl⟩
theorem blk_op {w : World} {b : Nat} {a : A} (h : Blk w b TA a.cells) : w.rangeAt b 2 a.op.cells := by
  have := range_op (off := 0) h.rangeAll
  simpa using this

theorem sh0 : tyOf Try.prog 20 31 = some ty0 := by kernel_rfl

/-! ### The walk: the law answers true, and writes nothing that was there. -/
set_option maxRecDepth 100000
set_option maxHeartbeats 4000000
theorem walk (w : World) (c0 : List Value) (f0 : Fits w ty0 c0) :
    Calls Try.prog 4 #[.agg c0.toArray] w fun e w' => e = .returned (.bool true) ∧ Below w.heap.size w w' := by
  obtain ⟨x, rfl, _⟩ := act_fits f0
  clear f0
  obtain ⟨d, hd, hdr⟩ := row_act
  replace hd := Lib.hid hd
  obtain ⟨d1, hd1, hdr1⟩ := row_op
  replace hd1 := Lib.hid hd1
  obtain ⟨i0, hi, hi2⟩ := Option.map_eq_some_iff.1 info_act
  obtain ⟨hz0, hz1⟩ := Prod.mk.inj hi2
  clear hi2
  replace hi := Lib.hid hi
  replace hz0 := Lib.hid hz0
  replace hz1 := Lib.hid hz1
  have q0 : ∀ w, (binOp .neq TR zV zV).run Try.prog w = .ok (.bool false) w := neq_res zeroR
  have u0 : ∀ op x y w, (eqGuard op TR x y zV zV).run Try.prog w = .ok () w := fun op x y => guard_res op x y zeroR
  have GR := Lib.hid (fun (w1 : World) (b : Nat) (h : Blk w1 b TA x.cells) => greatL_any w1 (some ⟨b, 0, none⟩) 1 1 (fun _ => x) (fun i hi => ⟨b, 0, rfl, h.lt, by obtain rfl : i = 0 := (by omega); simpa using h.rangeAll⟩) 1 (by omega))
  cases hgr : greatL (fun _ => x) 1 1 with
  | true =>
    rw [hgr] at GR
    clear hgr
    go_enter Try.func4, Try.ntmps4
    go_wp2_with (first
      | ((with_reducible show wpList _ _ _ (⟨some 1, .box _ _, _, _, _, _⟩ :: _) _ _); refine wpList_box_blk rfl TA _ rfl x.cells rfl ?_; intro W1 B1 K1 S1; clear S1)
      | ((with_reducible show wpList _ _ _ (⟨some 5, .load TA _, _, _, _, _⟩ :: _) _ _); refine wpList_load_blk rfl TA _ rfl w.heap.size TA x.cells d rfl K1 hd.out hdr (by rw [hi.out]; exact congrArg some hz1.out) ?_)
      | ((with_reducible show wpList _ _ _ (⟨_, .buildSlice _ _ _, _, _, _, _⟩ :: _) _ _); refine wpList_slice1_blk rfl 22 TA _ rfl x.cells i0 _ rfl Try.underlying22 hi.out hz0.out (by rw [hz1.out]; rfl) (by simp [A.cells]) (by simp [A.cells, O.cells]) ?_; intro W2 B2 K2 S2; clear S2)
      | (go_at_call 6; refine (GR.out _ _ K2).mono ?_; rintro e w3 ⟨rfl, hn⟩; have hB := bel (bel B1 B2) hn; clear hn)
      | (go_at_call 7; refine (stored_any _).mono ?_; rintro e w7 ⟨rfl, hn⟩; replace hB := bel hB hn; clear hn))
    go_ret
    exact ⟨rfl, hB⟩
  | false =>
    rw [hgr] at GR
    clear hgr
    go_enter Try.func4, Try.ntmps4
    go_wp2_with (first
      | ((with_reducible show wpList _ _ _ (⟨some 1, .box _ _, _, _, _, _⟩ :: _) _ _); refine wpList_box_blk rfl TA _ rfl x.cells rfl ?_; intro W1 B1 K1 S1; clear S1; have l1 := K1.lt)
      | ((with_reducible show wpList _ _ _ (⟨some 5, .load TA _, _, _, _, _⟩ :: _) _ _); refine wpList_load_blk rfl TA _ rfl w.heap.size TA x.cells d rfl K1 hd.out hdr (by rw [hi.out]; exact congrArg some hz1.out) ?_)
      | ((with_reducible show wpList _ _ _ (⟨_, .buildSlice _ _ _, _, _, _, _⟩ :: _) _ _); refine wpList_slice1_blk rfl 22 TA _ rfl x.cells i0 _ rfl Try.underlying22 hi.out hz0.out (by rw [hz1.out]; rfl) (by simp [A.cells]) (by simp [A.cells, O.cells]) ?_; intro W2 B2 K2 S2; clear S2)
      | (go_at_call 6; refine (GR.out _ _ K2).mono ?_; rintro e w3 ⟨rfl, hn⟩; have hB := bel (bel B1 B2) hn; have hK : Blk w3 w.heap.size TA x.cells := (K1.below B2 l1).below hn (by have := B2.size; omega); clear hn))
    go_loopg [3, 4] 3 (fun g s i wr => ∃ k : Nat, g = 3 - k ∧ k ≤ 2 ∧ i = .int .i64 (k : Int) ∧ NoS wr s ∧ Below w3.heap.size w3 wr)
    case atStart => exact ⟨0, rfl, by omega, rfl, nos_nil _, Below.refl _ _⟩
    case round =>
      obtain ⟨k, hg, hk, rfl, hN, hBr⟩ := hrel
      replace hg := Lib.hid hg
      have hl := hK.lt
      have K3 := hK.below hBr hl
      replace hN := Lib.hid hN
      by_cases h2 : k < 2
      · have h2i : (k : Int) < 2 := by omega
        have hB3 := bel hB hBr
        have l3 := K3.lt
        have c1 : wr.cell? ⟨w.heap.size, 1, none⟩ = some (.int .i64 x.idx) := K3.cell 1
        replace K3 := Lib.hid K3
        replace hBr := Lib.hid hBr
        go_wp2_with (first
          | ((with_reducible show wpList _ _ _ (⟨some 17, .load TO _, _, _, _, _⟩ :: _) _ _); refine wpList_load_mid rfl TO _ rfl w.heap.size 2 rfl x.op.cells d1 (blk_op K3.out) hd1.out hdr1 info_op ?_)
          | (go_at_call 12; refine (apply_no _ _ hN.out _ _).mono ?_; rintro e w4 ⟨he, hn⟩; obtain rfl : e = .returned zV := he; replace hN := Lib.hid (hN.out.below hn); replace hB3 := bel hB3 hn; replace hBr := Lib.hid (bel hBr.out hn); replace K3 := Lib.hid (K3.out.below hn l3); replace l3 := K3.out.lt; clear c1; have c1 : w4.cell? ⟨w.heap.size, 1, none⟩ = some (.int .i64 x.idx) := K3.out.cell 1; have c3 : w4.cell? ⟨w.heap.size, 3, none⟩ = some (.string ⟨x.op.key.toArray⟩) := K3.out.cell 3; clear hn)
          | (go_at_call 10; refine (look_no _ _ hN.out _ _).mono ?_; rintro e w5 ⟨he, hn⟩; obtain rfl : e = .returned zV := he; replace hN := Lib.hid (hN.out.below hn); replace hB3 := bel hB3 hn; replace hBr := Lib.hid (bel hBr.out hn); clear hn c1 c3)
          | (go_at_call 16; refine (size_no _ _ hN.out).mono ?_; rintro e w6 ⟨rfl, hn⟩; replace hN := Lib.hid (hN.out.below hn); replace hB3 := bel hB3 hn; replace hBr := Lib.hid (bel hBr.out hn); clear hn)
          | (go_at_call 17; refine (keys_no _ _ hN.out).mono ?_; rintro e w7 ⟨⟨ao, cap, rfl⟩, hn⟩; replace hN := Lib.hid (hN.out.below hn); replace hB3 := bel hB3 hn; replace hBr := Lib.hid (bel hBr.out hn); clear hn)
          | (go_at_call 9; refine (copy_no _ _ hN.out).mono ?_; rintro e w8 ⟨rfl, hn⟩; replace hN := Lib.hid (hN.out.below hn); replace hB3 := bel hB3 hn; replace hBr := Lib.hid (bel hBr.out hn); clear hn)
          | (go_at_call 8; refine (new_any _).mono ?_; rintro e wa ⟨p, m, rfl, hS, hp, hm, hn⟩; replace hN := Lib.hid (hN.out.below hn); replace hB3 := bel hB3 hn; replace hBr := Lib.hid (bel hBr.out hn); clear hn)
          | (go_at_call 15; (with_reducible refine (same_nn _ _ _ hN.out (nos_nil _)).mono ?_); rintro e w9 ⟨rfl, hn⟩; replace hN := Lib.hid (hN.out.below hn); replace hB3 := bel hB3 hn; replace hBr := Lib.hid (bel hBr.out hn); clear hn)
          | (go_at_call 15; refine (same_no _ _ hN.out _ _ _ hS).mono ?_; rintro e wb ⟨rfl, hn⟩; replace hB3 := bel hB3 hn; replace hBr := Lib.hid (bel hBr.out hn); clear hn)
          | ((with_reducible show wpList _ _ _ (⟨some 59, .box _ _, _, _, _, _⟩ :: _) _ _); refine wpList_box_blk rfl TS _ rfl zeroS rfl ?_; intro Wc Bc Kc Sc; clear Sc; have hN2 := nos_zero _ _ Kc; replace hBr := bel hBr.out Bc))
        go_roundg (3 - (k + 1))
        case measure => have := hg.out; omega
        case rel => exact ⟨k + 1, rfl, by omega, by first | go_num | (rw [Int.natCast_add]; rfl), hN2, hBr⟩
      · have h2i : ¬ (k : Int) < 2 := by omega
        replace hB := bel hB hBr
        go_wp2_with (go_at_call 7; refine (stored_any _).mono ?_; rintro e w9 ⟨rfl, hn⟩; replace hB := bel hB hn; clear hn)
        go_ret
        exact ⟨rfl, hB⟩

/-! ### The row. -/
set_option maxRecDepth 100000 in
theorem lifted (os : Os) (started : os.Started) (H : Type) (enc : TypeId × Value → H) :
    ReturnsInHanded {} Try.checked os 4 .any (Rows.kvNoneSpec.pre6 enc Try.prog Try.f4 Rows.kvNoneRow.domain false) (Rows.kvNoneSpec.post enc Try.prog Try.f4 false true false false) := by
  refine returnsInHanded_of_change (C := Try.checked) own started (by kernel_rfl) Try.func4
    (ChangeSpec.witness6 (enc := enc) (C := Try.checked) false ⟨#[], #[.agg wit0.toArray], []⟩ 8 (by kernel_rfl) (by kernel_rfl) (by kernel_rfl) (by kernel_rfl)) ?_
  intro W base args ds gs before hval0 hW hcnd _
  have hval : ∀ (j : Nat) t v, Try.f4.params[j]? = some t → args[j]? = some v → Value.okWide Try.prog W .any base t v := hval0
  have hW' := hW
  obtain ⟨p, q, hA0, hV, rfl, hfz, hnd⟩ := hW
  have hA : DataW.TrodAll enc Try.prog W 0 (fun _ => true) true Try.f4.params.toList args.toList ds p := hA0
  rw [Try.params4] at hA hval
  obtain ⟨v0, vs0, d0, ds0, p0, q0, hargs, rfl, rfl, h0, r0⟩ := trodAll_cons hA
  obtain ⟨rfl, rfl, rfl⟩ := trodAll_nil r0
  obtain rfl : args = #[v0] := by cases args; simp_all
  obtain ⟨rfl, rfl⟩ := trodVars_none hV
  have k0 := h0
  have lt0 : ∀ x ∈ p0, x.block < W.heap.size := by obtain ⟨m, hm⟩ := k0; exact DataW.trod_lt m _ _ _ hm
  have f0 := fits_of_Trod sh0 h0; obtain ⟨⟨c0⟩, rfl, _⟩ := okWide_struct Try.underlying31 (hval 0 31 v0 rfl rfl)
  clear hA0 hval0
  refine (walk W c0 f0).mono fun e W' ⟨he, bel⟩ => ?_
  subst he
  exact ⟨_, rfl, _, _, _, [], _, [], hW', trodAll_mk1 (shut_bool Try.underlying4 _), (trodAll_cons_mk (Below.trod laidOut (by kernel_rfl) (of_decide_eq_true (by kernel_rfl)) k0 bel lt0) trodAll_mk0), rfl, bel.frame _, fun h => by cases h⟩

theorem over : Rows.kvNoneRow.holds Try.pinned (OpenSpec.ofChange Rows.kvNoneSpec) :=
  OpenClaim.holds_of_wide 4 Try.f4 rfl rfl rfl rfl rfl rfl rfl ⟨rfl, rfl, rfl, rfl, rfl⟩ rfl rfl rfl rfl rfl (by kernel_rfl) Try.func4 (by kernel_rfl)
    (of_decide_eq_true (by kernel_rfl)) (by unfold Func.isWrapper; first | (rw [if_pos (by decide +kernel)]; kernel_rfl) | (rw [if_neg (by decide +kernel)]; exact ⟨rfl, rfl⟩))
    (fun os started H enc _ => lifted os started H enc)

/-- THE STATEMENT. -/
theorem proved : Rows.KvNoneSaid := over
#print axioms proved
end Go.Proofs.Ytkicbjjmmcjkhaa.kvNone
