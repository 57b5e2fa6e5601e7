/-
  Law OpsTell answers true for every operation, and leaves it as it was: what is wrong with any operation, what it counts for, whether it reads, and its bytes, are the document's. Conditions: none.
-/
import Derived.Test.YtpljlncolkecpaaRows
import Derived.WalkKit
import Derived.ProofKit
import Derived.OpenShut
import Derived.ShutString
import Derived.ChangeOld
import Derived.Below
import Derived.Test.YtpljlncolkecpaaTyped
import Derived.Test.YtpljlncolkecpaaOpsB
import Derived.Deep.DeepCutAuto
import Derived.Deep.LoopGhost
import Derived.Test.YtpljlncolkecpaaQuiet
open Go.Proofs.Ytpljlncolkecpaa.Mem Go.Proofs.Ytpljlncolkecpaa.Ops Go.Proofs.Ytpljlncolkecpaa.Codec
namespace Go.Proofs.Ytpljlncolkecpaa.opsTell
open Go.ChangeShapes Go.WideShapes Go.ChangeAt Go.RowKit
open Go.ChangeMaps (open_string shut_string)
open Go.Proofs.Ytpljlncolkecpaa.Mem
set_option linter.unusedVariables false

theorem own : ownKnob Try.prog.godebug = none := by kernel_rfl
theorem laidOut : laidOutB Try.prog = true := by kernel_rfl

def ty0 : Ty := opTy
def wit0 : List Value := zeroO.cells
attribute [local go_sem ↓] execLoadO
/-- The operation of round k. -/
def xk (o : O) (k : Nat) : O := if k = 0 then o else { o with kind := (k : Int) - 1 }
theorem readsWays (o : O) : (o.reads = (o.check == 0) ∧ (o.kind == 1) = true) ∨ (o.reads = false ∧ (o.kind == 1) = false) := by
  unfold O.reads
  by_cases h : o.kind = 1 <;> by_cases k : o.check = 0 <;> simp [h, k]

theorem sh0 : tyOf Try.prog 20 23 = some ty0 := by kernel_rfl

/-! ### The walk: the law answers true, and writes nothing that was there. -/
set_option maxRecDepth 100000
set_option maxHeartbeats 8000000
theorem walk (w : World) (c0 : List Value) (f0 : Fits w ty0 c0) :
    Calls Try.prog 3 #[.agg c0.toArray] w fun e w' => e = .returned (.bool true) ∧ Below w.heap.size w w' := by
  have hT : Turned [] w w := Turned.of_below (Below.refl w.heap.size w)
  obtain ⟨o, rfl⟩ := op_fits f0
  clear f0
  obtain ⟨d, hd, hdr⟩ := row_op
  replace hd := Lib.hid hd
  have GR := Lib.hid (great_any o)
  cases hgr : o.great with
  | true =>
    rw [hgr] at GR
    clear hgr
    go_enter Try.func3, Try.ntmps3
    go_wp2_with (first
      | ((with_reducible show wpList _ _ _ (⟨_, .box _ _, _, _, _, _⟩ :: _) _ _); refine wpList_box_blk rfl TO _ rfl o.cells rfl ?_; intro W1 B1 K1 S1; clear S1; replace hT := hT.trans (Turned.of_below B1) (by simp))
      | ((with_reducible show wpList _ _ _ (⟨some 9, .load TO _, _, _, _, _⟩ :: _) _ _); refine wpList_load_blk rfl TO _ rfl w.heap.size TO o.cells d rfl K1 hd.out hdr info_op ?_)
      | (go_at_call 7; refine (GR.out _).mono ?_; rintro e w2 ⟨rfl, hn⟩; replace hT := hT.trans (Turned.of_below hn) (by simp); clear hn)
      | (go_at_call 8; refine (told_any _).mono ?_; rintro e w7 ⟨rfl, hn⟩; replace hT := hT.trans (Turned.of_below hn) (by simp); clear hn))
    go_ret
    exact ⟨rfl, hT.below (Nat.le_refl _) (by simp)⟩
  | false =>
    rw [hgr] at GR
    clear hgr
    go_enter Try.func3, Try.ntmps3
    go_wp2_with (first
      | ((with_reducible show wpList _ _ _ (⟨_, .box _ _, _, _, _, _⟩ :: _) _ _); refine wpList_box_blk rfl TO _ rfl o.cells rfl ?_; intro W1 B1 K1 S1; clear S1; replace hT := hT.trans (Turned.of_below B1) (by simp))
      | ((with_reducible show wpList _ _ _ (⟨some 9, .load TO _, _, _, _, _⟩ :: _) _ _); refine wpList_load_blk rfl TO _ rfl w.heap.size TO o.cells d rfl K1 hd.out hdr info_op ?_)
      | (go_at_call 7; refine (GR.out _).mono ?_; rintro e w2 ⟨rfl, hn⟩; replace hT := hT.trans (Turned.of_below hn) (by simp); have K2 := K1.below hn K1.lt; clear hn))
    go_loopg [3] 8 (fun g i wr => ∃ k : Nat, g = 8 - k ∧ k ≤ 7 ∧ i = .int .i64 (k : Int) ∧ Blk wr w.heap.size TO o.cells ∧ Turned [] w wr)
    case atStart => exact ⟨0, rfl, by omega, rfl, K2, hT⟩
    case round =>
      clear K1 K2 hT B1
      obtain ⟨k, hg, hk, rfl, K2, hT⟩ := hrel
      replace hg := Lib.hid hg
      have s1 := K2.lt
      by_cases h7 : k < 7
      · have h7i : (k : Int) < 7 := by omega
        have P1 := Lib.hid (put_any (xk o k))
        have P2 := Lib.hid (rput_any (xk o k))
        have C1 := Lib.hid (check_any (xk o k))
        have C2 := Lib.hid (rcheck_any (xk o k))
        have S1 := Lib.hid (cost_any (xk o k))
        have S2 := Lib.hid (rcost_any (xk o k))
        have R1 := Lib.hid (reads_any (xk o k))
        unfold PutP at P1 P2
        rcases Nat.eq_zero_or_pos k with h0 | h0
        case' inl =>
          have h0i : ¬ 0 < (k : Int) := by omega
          go_upto_region 9 with (first
            | ((with_reducible show wpList _ _ _ (⟨some 16, .load TO _, _, _, _, none⟩ :: _) _ _); refine wpList_load_blk rfl TO _ rfl w.heap.size TO o.cells d rfl K2 hd.out hdr info_op ?_)
            | ((with_reducible show wpList _ _ _ (⟨some 4, .alloc _, _, _, _, _⟩ :: _) _ _); refine wpList_alloc_blk rfl TO rfl _ zero_op ?_; intro W5 B5 K5 S5; clear S5; replace hT := hT.trans (Turned.of_below B5) (by simp); have K3 := Lib.hid (K2.below B5 s1); clear K2 B5)
            | ((with_reducible show wpList _ _ _ (⟨none, .store TO (.tmp 4) _, _, _, _, _⟩ :: _) _ _); refine wpList_store_blk rfl TO _ _ rfl wr.heap.size TO zeroO.cells o.cells 4 rfl rfl K5 rfl (O.cellsN _) info_op ?_; intro W6 T6 K6 S6; clear S6; replace hT := hT.trans T6 (fun j h1 h2 => by have := s1; simp at h2; omega); replace K3 := Lib.hid (T6.blk K3.out (by simp; omega)); obtain ⟨c0, c1, c2, c3⟩ := ocells K6; have f0 := K6.free 0; replace K6 := Lib.hid K6; clear K5 T6))
          have hx : xk o k = o := if_pos h0
          rw [← hx] at K6
          obtain ⟨W7, rfl⟩ : ∃ W7 : World, W7 = W6 := ⟨_, rfl⟩
          have K7 := K6
          have l7 := K7.out.lt
          clear c0 c1 c2 c3 f0 K6
        case' inr =>
          have h0i : 0 < (k : Int) := by omega
          go_upto_region 9 with (first
            | ((with_reducible show wpList _ _ _ (⟨some 16, .load TO _, _, _, _, none⟩ :: _) _ _); refine wpList_load_blk rfl TO _ rfl w.heap.size TO o.cells d rfl K2 hd.out hdr info_op ?_)
            | ((with_reducible show wpList _ _ _ (⟨some 4, .alloc _, _, _, _, _⟩ :: _) _ _); refine wpList_alloc_blk rfl TO rfl _ zero_op ?_; intro W5 B5 K5 S5; clear S5; replace hT := hT.trans (Turned.of_below B5) (by simp); have K3 := Lib.hid (K2.below B5 s1); clear K2 B5)
            | ((with_reducible show wpList _ _ _ (⟨none, .store TO (.tmp 4) _, _, _, _, _⟩ :: _) _ _); refine wpList_store_blk rfl TO _ _ rfl wr.heap.size TO zeroO.cells o.cells 4 rfl rfl K5 rfl (O.cellsN _) info_op ?_; intro W6 T6 K6 S6; clear S6; replace hT := hT.trans T6 (fun j h1 h2 => by have := s1; simp at h2; omega); replace K3 := Lib.hid (T6.blk K3.out (by simp; omega)); obtain ⟨c0, c1, c2, c3⟩ := ocells K6; have f0 := K6.free 0; replace K6 := Lib.hid K6; clear K5 T6))
          have hx : xk o k = ⟨(k : Int) - 1, o.key, o.val, o.ver⟩ := if_neg (by omega)
          have K7 := Lib.hid (show Blk (W6.setCell ⟨wr.heap.size, 0, none⟩ (.int .i64 ((k : Int) - 1))) wr.heap.size TO (xk o k).cells from by rw [hx]; exact K6.out.set 0 _)
          replace hT := hT.setCell (p := ⟨wr.heap.size, 0, none⟩) (.inr (Nat.le_of_lt s1)) (.int .i64 ((k : Int) - 1))
          replace K3 := Lib.hid (K3.out.setOther (a := ⟨wr.heap.size, 0, none⟩) (Nat.ne_of_lt s1) (.int .i64 ((k : Int) - 1)))
          generalize W6.setCell ⟨wr.heap.size, 0, none⟩ (.int .i64 ((k : Int) - 1)) = W7 at *
          have l7 := K7.out.lt
          clear c0 c1 c2 c3 f0 K6
        all_goals
          replace h0 := Lib.hid h0
          clear h0i hx
          have hw := readsWays (xk o k)
          generalize xk o k = x at *
          go_wp2_with (first
            | ((with_reducible show wpList _ _ _ (⟨_, .load TO (.tmp 4), _, _, _, none⟩ :: _) _ _); refine wpList_load_blk rfl TO _ rfl wr.heap.size TO x.cells d rfl K7.out hd.out hdr info_op ?_)
            | (go_at_call 9; refine (P1.out _).mono ?_; rintro e w8 ⟨rfl, hn⟩; replace hT := hT.trans (Turned.of_below hn) (by simp); replace K7 := Lib.hid (K7.out.below hn l7); replace K3 := Lib.hid (K3.out.below hn (Nat.lt_trans s1 l7)); replace l7 := Nat.lt_of_lt_of_le l7 hn.size; clear hn)
            | (go_at_call 10; refine (P2.out _).mono ?_; rintro e w9 ⟨rfl, hn⟩; replace hT := hT.trans (Turned.of_below hn) (by simp); replace K7 := Lib.hid (K7.out.below hn l7); replace K3 := Lib.hid (K3.out.below hn (Nat.lt_trans s1 l7)); replace l7 := Nat.lt_of_lt_of_le l7 hn.size; clear hn))
          have LQ : (x.put == x.put) = true := by simp
          have h0 : Kept w [(wr.heap.size, TO, x.cells), (w.heap.size, TO, o.cells)] w9.drew := (Kept.add (Kept.add ⟨hT, by simp⟩ K3.out) K7.out).drew
          obtain ⟨S, s0, sK, sB⟩ : ∃ S : World → Prop, S w9.drew ∧ (∀ W, S W → Kept w [(wr.heap.size, TO, x.cells), (w.heap.size, TO, o.cells)] W) ∧ (∀ W W', S W → Below W.heap.size W W' → S W') := ⟨_, h0, fun _ h => h, fun _ _ h hb => h.below hb⟩
          clear h0 hT K7 K3 l7
          haveI : Nonempty (Wd S) := ⟨⟨_, s0⟩⟩
          have q0 : ∀ p : Wd S, ldRun Try.prog TO p.w (.pointer (some ⟨wr.heap.size, 0, none⟩)) = .ok (.value (.agg x.cells.toArray)) p.w := fun p => ldO ((sK _ p.h).blk (by simp))
          have q1 : ∀ p : Wd S, p.w.cell? ⟨wr.heap.size, 0, none⟩ = some (.int .i64 x.kind) := fun p => ((sK _ p.h).blk (T := TO) (b := wr.heap.size) (cs := x.cells) (by simp)).cell 0
          replace sK := Lib.hid sK
          replace sB := Lib.hid sB
          rcases hw with ⟨e1, e2⟩ | ⟨e1, e2⟩
          all_goals
            rw [e1] at R1
            clear e1
            refine wp_region_wd S s0 (by kernel_rfl) (by kernel_rfl) ?_
            repeat (go_big_quiet_step (first | exact Wd.call (C1.out _) sB.out | exact Wd.call (C2.out _) sB.out | exact Wd.call (S1.out _) sB.out | exact Wd.call (S2.out _) sB.out | exact Wd.call (R1.out _) sB.out))
            refine wpQuiet_nil ?_
            rintro _ ⟨p, rfl⟩
            have hk := sK.out _ p.h
            generalize p.w = W9 at *
            clear q0 q1
            go_wp2_with fail
            go_roundg (8 - (k + 1))
            case measure => have := hg.out; omega
            case rel => exact ⟨k + 1, rfl, by omega, by first | (rw [Int.natCast_add]; rfl) | (rw [h0.out]; rfl), hk.blk (by simp), hk.1⟩
      · have h7i : ¬ (k : Int) < 7 := by omega
        go_wp2_with (go_at_call 8; refine (told_any _).mono ?_; rintro e w7 ⟨rfl, hn⟩; replace hT := hT.trans (Turned.of_below hn) (by simp); clear hn)
        go_ret
        exact ⟨rfl, hT.below (Nat.le_refl _) (by simp)⟩

/-! ### The row. -/
set_option maxRecDepth 100000 in
theorem lifted (os : Os) (started : os.Started) (H : Type) (enc : TypeId × Value → H) :
    ReturnsInHanded {} Try.checked os 3 .any (Rows.opsTellSpec.pre6 enc Try.prog Try.f3 Rows.opsTellRow.domain false) (Rows.opsTellSpec.post enc Try.prog Try.f3 false true false false) := by
  refine returnsInHanded_of_change (C := Try.checked) own started (by kernel_rfl) Try.func3
    (ChangeSpec.witness6 (enc := enc) (C := Try.checked) false ⟨#[], #[.agg wit0.toArray], []⟩ 8 (by kernel_rfl) (by kernel_rfl) (by kernel_rfl) (by kernel_rfl)) ?_
  intro W base args ds gs before hval0 hW hcnd _
  have hval : ∀ (j : Nat) t v, Try.f3.params[j]? = some t → args[j]? = some v → Value.okWide Try.prog W .any base t v := hval0
  have hW' := hW
  obtain ⟨p, q, hA0, hV, rfl, hfz, hnd⟩ := hW
  have hA : DataW.TrodAll enc Try.prog W 0 (fun _ => true) true Try.f3.params.toList args.toList ds p := hA0
  rw [Try.params3] at hA hval
  obtain ⟨v0, vs0, d0, ds0, p0, q0, hargs, rfl, rfl, h0, r0⟩ := trodAll_cons hA
  obtain ⟨rfl, rfl, rfl⟩ := trodAll_nil r0
  obtain rfl : args = #[v0] := by cases args; simp_all
  obtain ⟨rfl, rfl⟩ := trodVars_none hV
  have k0 := h0
  have lt0 : ∀ x ∈ p0, x.block < W.heap.size := by obtain ⟨m, hm⟩ := k0; exact DataW.trod_lt m _ _ _ hm
  have f0 := fits_of_Trod sh0 h0; obtain ⟨⟨c0⟩, rfl, _⟩ := okWide_struct Try.underlying23 (hval 0 23 v0 rfl rfl)
  clear hA0 hval0
  refine (walk W c0 f0).mono fun e W' ⟨he, bel⟩ => ?_
  subst he
  exact ⟨_, rfl, _, _, _, [], _, [], hW', trodAll_mk1 (shut_bool Try.underlying4 _), (trodAll_cons_mk (Below.trod laidOut (by kernel_rfl) (of_decide_eq_true (by kernel_rfl)) k0 bel lt0) trodAll_mk0), rfl, bel.frame _, fun h => by cases h⟩

theorem over : Rows.opsTellRow.holds Try.pinned (OpenSpec.ofChange Rows.opsTellSpec) :=
  OpenClaim.holds_of_wide 3 Try.f3 rfl rfl rfl rfl rfl rfl rfl ⟨rfl, rfl, rfl, rfl, rfl⟩ rfl rfl rfl rfl rfl (by kernel_rfl) Try.func3 (by kernel_rfl)
    (of_decide_eq_true (by kernel_rfl)) (by unfold Func.isWrapper; first | (rw [if_pos (by decide +kernel)]; kernel_rfl) | (rw [if_neg (by decide +kernel)]; exact ⟨rfl, rfl⟩))
    (fun os started H enc _ => lifted os started H enc)

/-- THE STATEMENT. -/
theorem proved : Rows.OpsTellSaid := over
#print axioms proved
end Go.Proofs.Ytpljlncolkecpaa.opsTell
