/-
  Law SlotsOnce answers true for every outcome and list of outcomes, and leaves them as they were: what is told first is told for ever, whatever is set behind it, and just one Set is told true. Conditions: none.
-/
import Derived.Test.YtidfgighpdkfaaaRows
import Derived.WalkKit
import Derived.ProofKit
import Derived.OpenShut
import Derived.ShutString
import Derived.ChangeOld
import Derived.Below
import Derived.Test.YtidfgighpdkfaaaTyped
import Derived.Test.YtidfgighpdkfaaaSlB
import Derived.Deep.DeepCutAuto
open Go.Proofs.Ytidfgighpdkfaaa.Mem Go.Proofs.Ytidfgighpdkfaaa.Sl
namespace Go.Proofs.Ytidfgighpdkfaaa.slotsOnce
open Go.ChangeShapes Go.WideShapes Go.ChangeAt Go.RowKit
open Go.ChangeMaps (open_string shut_string)
open Go.Proofs.Ytidfgighpdkfaaa.Mem
set_option linter.unusedVariables false

theorem own : ownKnob Try.prog.godebug = none := by kernel_rfl
theorem laidOut : laidOutB Try.prog = true := by kernel_rfl

def ty0 : Ty := outTy
def wit0 : List Value := zeroO.cells
def ty1 : Ty := .slice outTy
section
variable (ρ : Operand → Value) (dst : Option Tmp) (x y : Operand) (tt : TypeId) (pos : String) (af : Array Edge) (g : Option (Nat × Bool)) (w : World)
theorem execLoadO : (execOp ρ ⟨dst, .load 29 x, tt, pos, af, g⟩).run Try.prog w = ldRun Try.prog 29 w (ρ x) := exec_load _ _ _ _ _ _ _ _ _
end
theorem loadO (w : World) (b o : Nat) (h : World.hasRow w b o 6) : ldRun Try.prog 29 w (.pointer (some ⟨b, o, none⟩)) = .ok (.value (.agg (World.row w b o 6).toArray)) w :=
  ldRun_row w b o _ 6 _ Try.underlying29 rfl info_out h
attribute [local go_sem ↓] execLoadO
attribute [local go_sem] loadO
theorem and3 (a : Int) : 0 ≤ bits .and .i64 a 3 ∧ bits .and .i64 a 3 < 4 := by
  have h : ((BitVec.ofInt 64 a &&& BitVec.ofInt 64 3).toNat : Int) ≤ 3 := by
    have := Nat.and_le_right (n := (BitVec.ofInt 64 a).toNat) (m := (BitVec.ofInt 64 3).toNat)
    rw [← BitVec.toNat_and] at this
    have e : (BitVec.ofInt 64 3).toNat = 3 := by decide
    omega
  show 0 ≤ IntKind.i64.wrap ((BitVec.ofInt 64 a &&& BitVec.ofInt 64 3).toNat : Int) ∧ IntKind.i64.wrap ((BitVec.ofInt 64 a &&& BitVec.ofInt 64 3).toNat : Int) < 4
  rw [IntWalk.i64_in _ (by omega)]
  omega

theorem sh0 : tyOf Try.prog 20 29 = some ty0 := by kernel_rfl
theorem sh1 : tyOf Try.prog 20 22 = some ty1 := by kernel_rfl

/-! ### The walk: the law answers true, and writes nothing that was there. -/
set_option maxRecDepth 100000
set_option maxHeartbeats 8000000
theorem walk (w : World) (c0 : List Value) (ao1 : Option Addr) (ln1 cp1 : Nat) (f0 : Fits w ty0 c0) (f1 : Fits w ty1 [.slice ao1 ln1 cp1]) :
    Calls Try.prog 5 #[.agg c0.toArray, .slice ao1 ln1 cp1] w fun e w' => e = .returned (.bool true) ∧ Below w.heap.size w w' := by
  obtain ⟨o, rfl, -, -⟩ := out_fits f0
  clear f0
  obtain ⟨d, hd, hdr⟩ := row_out
  replace hd := Lib.hid hd
  by_cases hs : 60 < (ln1 : Int)
  · go_enter Try.func5, Try.ntmps5
    go_wp2_with (first
      | ((with_reducible show wpList _ _ _ (⟨_, .box _ _, _, _, _, _⟩ :: _) _ _); refine wpList_box_blk rfl TO _ rfl o.cells rfl ?_; intro W1 B1 K1 S1; clear S1)
      | (go_at_call 6; refine (once_any _).mono ?_; rintro e w2 ⟨rfl, hn⟩))
    go_ret
    exact ⟨rfl, B1.trans (hn.mono B1.size)⟩
  · obtain ⟨hnil, hlc, hcp, g, hg⟩ := outs_fits f1
    clear f1
    have HG := Lib.hid hg
    clear hg
    obtain ⟨b0, b1⟩ := and3 o.kind
    have hq0 := Int.tmod_eq_emod_of_nonneg (b := 3) b0
    obtain ⟨kk, hkk, k1, k3⟩ : ∃ kk : Int, 1 + (bits .and .i64 o.kind 3) % 3 = kk ∧ 1 ≤ kk ∧ kk ≤ 3 := ⟨_, rfl, by omega, by omega⟩
    go_enter Try.func5, Try.ntmps5
    go_wp2_with ((with_reducible show wpList _ _ _ (⟨_, .box _ _, _, _, _, _⟩ :: _) _ _); refine wpList_box_blk rfl TO _ rfl o.cells rfl ?_; intro W1 B1 K1 S1; clear S1; have c1 : W1.cell? ⟨w.heap.size, 0, none⟩ = some (.int .i64 o.kind) := K1.cell 0; have z1 := K1.free 0)
    have K2 : Blk (W1.setCell ⟨w.heap.size, 0, none⟩ (.int .i64 kk)) w.heap.size TO ({ o with kind := kk } : O).cells := K1.set 0 (.int .i64 kk)
    have hB2 : Below w.heap.size w (W1.setCell ⟨w.heap.size, 0, none⟩ (.int .i64 kk)) := B1.setCell (Nat.le_refl _) _
    have hok : ({ o with kind := kk } : O).ok = true := decide_eq_true ⟨k1, k3⟩
    generalize W1.setCell ⟨w.heap.size, 0, none⟩ (.int .i64 kk) = W2 at *
    generalize ({ o with kind := kk } : O) = o1 at *
    have f1 : sets none o1 = true := by unfold sets; rw [hok]; rfl
    have v1 : setV none o1 = some o1 := by unfold setV; rw [hok]; rfl
    have f2 : ∀ x, sets (some o1) x = false := fun _ => rfl
    have v2 : ∀ x, setV (some o1) x = some o1 := fun _ => rfl
    clear K1 B1 c1 z1 hkk hq0 hok
    refine (new_any W2).mono ?_
    rintro e w3 ⟨p, rfl, S3, hp, B3⟩
    have K3 := K2.below B3 K2.lt
    have hB3 := hB2.trans (B3.mono hB2.size)
    have hpx : w.heap.size < p := by have := K2.lt; omega
    clear K2 hB2
    have SA := set_at w3 p none S3 o1
    rw [f1, v1] at SA
    replace SA := Lib.hid SA
    go_wp2_with ((with_reducible show wpList _ _ _ (⟨_, .load TO (.tmp 2), _, _, _, _⟩ :: _) _ _); refine wpList_load_blk rfl TO _ rfl w.heap.size TO o1.cells d rfl K3 hd.out hdr info_out ?_)
    refine SA.out.mono ?_
    rintro e w4 ⟨rfl, S4, T4⟩
    have K4 := T4.blk K3 (by simp; omega)
    have hB4 := hB3.trans (T4.below hB3.size (by simp; omega))
    clear S3 K3 hB3 SA f1 v1
    have SB := fun w S x => set_at w p (some o1) S x
    have SB' : ∀ w, SAt w p (some o1) → ∀ x : O, Calls Try.prog 10 #[.pointer (some ⟨p, 0, none⟩), .agg x.cells.toArray] w fun e w' => e = .returned (.bool false) ∧ SAt w' p (some o1) ∧ Turned [p] w w' := SB
    replace SB' := Lib.hid SB'
    clear SB f2 v2
    have hq := eql_out o1
    have hn := neq_out o1
    have hgu := fun op x y => guard_out op x y o1
    have ocn := o1.cellsN
    go_wp2_with fail
    go_loopg [6] ln1 (fun gg i wr => ∃ k : Nat, gg = ln1 - k ∧ k ≤ ln1 ∧ i = .int .i64 (k : Int) ∧ SAt wr p (some o1) ∧ Blk wr w.heap.size TO o1.cells ∧ Below w.heap.size w wr)
    case atStart => exact ⟨0, rfl, Nat.zero_le _, rfl, S4, K4, hB4⟩
    case round =>
      obtain ⟨k, hgk, hk, rfl, S, K, hBr⟩ := hrel
      clear S4 K4 hB4
      replace hgk := Lib.hid hgk
      have hG := Sl.get_at wr p (some o1) S
      replace hG := Lib.hid hG
      by_cases hlt : k < ln1
      · obtain ⟨b, off, rfl, hb, hr, -⟩ := HG.out k hlt
        have hkl : (k : Int) < (ln1 : Int) := by omega
        go_wp2_with fail
        refine hG.out.mono ?_
        rintro e w5 ⟨rfl, B5⟩
        have S5 := S.below B5
        have K5 := K.below B5 K.lt
        have hB5 := hBr.trans (B5.mono hBr.size)
        have s5 := S5.lt
        have kl5 := K5.lt
        clear S K hBr
        go_wp2_with (first
          | ((with_reducible show wpList _ _ _ (⟨some 7, .alloc _, _, _, _, _⟩ :: _) _ _); refine wpList_alloc_blk rfl TO rfl _ zero_out ?_; intro W7 B7 K7 S7; clear S7)
          | ((with_reducible show wpList _ _ _ (⟨none, .store TO (.tmp 7) _, _, _, _, _⟩ :: _) _ _); refine wpList_store_blk rfl TO _ _ rfl w5.heap.size TO zeroO.cells o1.cells 6 rfl rfl K7 rfl ocn info_out ?_; intro W8 T8 K8 S8; clear S8; have S8 : SAt W8 p (some o1) := (S5.below B7).keep T8 (by simp; omega); have L8 := T8.blk (K5.below B7 kl5) (by simp; omega); have hB8 := (hB5.trans (B7.mono hB5.size)).trans (T8.below (by have := B7.size; have := hB5.size; omega) (by simp; exact hB5.size)); have hr8 : W8.rangeAt b (off + k * 6) (g k).cells := rangeAt_below hr hB8 (fun _ => hb); have s8 := T8.size; have s7 := B7.size; have hl8 := K8.lt; clear K7 B7 T8 S5 K5 hB5)
          | ((with_reducible show wpList _ _ _ (⟨some 41, .load TO _, _, _, _, _⟩ :: _) _ _); refine wpList_load_mid rfl TO _ rfl b (off + k * 6) rfl (g k).cells d hr8 hd.out hdr info_out ?_))
        refine (SB'.out W8 S8 (g k)).mono ?_
        rintro e w9 ⟨rfl, S9, T9⟩
        have K9 := T9.blk K8 (by simp; omega)
        have L9 := T9.blk L8 (by simp; omega)
        have hB9 := hB8.trans (T9.below hB8.size (by simp; omega))
        clear S8 K8 L8 hB8 hr8
        obtain ⟨h7, r7⟩ := K9.rows (n := 6) rfl
        obtain ⟨h2, r2⟩ := L9.rows (n := 6) rfl
        go_wp2_with fail
        go_roundg (ln1 - (k + 1))
        case measure => have := hgk.out; omega
        case rel => exact ⟨k + 1, rfl, by omega, by go_num, S9, L9, hB9⟩
      · have hkk : k = ln1 := by omega
        subst hkk
        go_wp2_with fail
        refine hG.out.mono ?_
        rintro e w5 ⟨rfl, B5⟩
        have S5 := S.below B5
        have K5 := K.below B5 K.lt
        have hB5 := hBr.trans (B5.mono hBr.size)
        have s5 := S5.lt
        have kl5 := K5.lt
        clear S K hBr HG
        go_wp2_with (first
          | ((with_reducible show wpList _ _ _ (⟨some 9, .alloc _, _, _, _, _⟩ :: _) _ _); refine wpList_alloc_blk rfl TO rfl _ zero_out ?_; intro W7 B7 K7 S7; clear S7)
          | ((with_reducible show wpList _ _ _ (⟨none, .store TO (.tmp 9) _, _, _, _, _⟩ :: _) _ _); refine wpList_store_blk rfl TO _ _ rfl w5.heap.size TO zeroO.cells o1.cells 6 rfl rfl K7 rfl ocn info_out ?_; intro W8 T8 K8 S8; clear S8; have S8 : SAt W8 p (some o1) := (S5.below B7).keep T8 (by simp; omega); have L8 := T8.blk (K5.below B7 kl5) (by simp; omega); have hB8 := (hB5.trans (B7.mono hB5.size)).trans (T8.below (by have := B7.size; have := hB5.size; omega) (by simp; exact hB5.size)); have s8 := T8.size; have s7 := B7.size; have hl8 := K8.lt; clear K7 B7 T8 S5 K5 hB5)
          | ((with_reducible show wpList _ _ _ (⟨some 58, .load TO _, _, _, _, _⟩ :: _) _ _); refine wpList_load_blk rfl TO _ rfl w.heap.size TO o1.cells d rfl L8 hd.out hdr info_out ?_))
        refine (SB'.out W8 S8 o1).mono ?_
        rintro e w9 ⟨rfl, S9, T9⟩
        have K9 := T9.blk K8 (by simp; omega)
        have L9 := T9.blk L8 (by simp; omega)
        have hB9 := hB8.trans (T9.below hB8.size (by simp; omega))
        clear S8 K8 L8 hB8
        obtain ⟨h7, r7⟩ := K9.rows (n := 6) rfl
        obtain ⟨h2, r2⟩ := L9.rows (n := 6) rfl
        go_wp2_with (go_at_call 6; refine (once_any _).mono ?_; rintro e wa ⟨rfl, hn⟩)
        go_ret
        exact ⟨rfl, hB9.trans (hn.mono hB9.size)⟩

/-! ### The row. -/
set_option maxRecDepth 100000 in
theorem lifted (os : Os) (started : os.Started) (H : Type) (enc : TypeId × Value → H) :
    ReturnsInHanded {} Try.checked os 5 .any (Rows.slotsOnceSpec.pre6 enc Try.prog Try.f5 Rows.slotsOnceRow.domain false) (Rows.slotsOnceSpec.post enc Try.prog Try.f5 false true false false) := by
  refine returnsInHanded_of_change (C := Try.checked) own started (by kernel_rfl) Try.func5
    (ChangeSpec.witness6 (enc := enc) (C := Try.checked) false ⟨#[], #[.agg wit0.toArray, .slice none 0 0], []⟩ 8 (by kernel_rfl) (by kernel_rfl) (by kernel_rfl) (by kernel_rfl)) ?_
  intro W base args ds gs before hval0 hW hcnd _
  have hval : ∀ (j : Nat) t v, Try.f5.params[j]? = some t → args[j]? = some v → Value.okWide Try.prog W .any base t v := hval0
  have hW' := hW
  obtain ⟨p, q, hA0, hV, rfl, hfz, hnd⟩ := hW
  have hA : DataW.TrodAll enc Try.prog W 0 (fun _ => true) true Try.f5.params.toList args.toList ds p := hA0
  rw [Try.params5] at hA hval
  obtain ⟨v0, vs0, d0, ds0, p0, q0, hargs, rfl, rfl, h0, r0⟩ := trodAll_cons hA
  obtain ⟨v1, vs1, d1, ds1, p1, q1, rfl, rfl, rfl, h1, r1⟩ := trodAll_cons r0
  obtain ⟨rfl, rfl, rfl⟩ := trodAll_nil r1
  obtain rfl : args = #[v0, v1] := by cases args; simp_all
  obtain ⟨rfl, rfl⟩ := trodVars_none hV
  have k0 := h0
  have lt0 : ∀ x ∈ p0, x.block < W.heap.size := by obtain ⟨m, hm⟩ := k0; exact DataW.trod_lt m _ _ _ hm
  have f0 := fits_of_Trod sh0 h0; obtain ⟨⟨c0⟩, rfl, _⟩ := okWide_struct Try.underlying29 (hval 0 29 v0 rfl rfl)
  have k1 := h1
  have lt1 : ∀ x ∈ p1, x.block < W.heap.size := by obtain ⟨m, hm⟩ := k1; exact DataW.trod_lt m _ _ _ hm
  have f1 := fits_of_Trod sh1 h1; obtain ⟨ao1, ln1, cp1, rfl⟩ := okWide_slice Try.underlying22 (hval 1 22 v1 rfl rfl)
  clear hA0 hval0
  refine (walk W c0 ao1 ln1 cp1 f0 f1).mono fun e W' ⟨he, bel⟩ => ?_
  subst he
  exact ⟨_, rfl, _, _, _, [], _, [], hW', trodAll_mk1 (shut_bool Try.underlying4 _), (trodAll_cons_mk (Below.trod laidOut (by kernel_rfl) (of_decide_eq_true (by kernel_rfl)) k0 bel lt0) (trodAll_cons_mk (Below.trod laidOut (by kernel_rfl) (of_decide_eq_true (by kernel_rfl)) k1 bel lt1) trodAll_mk0)), rfl, bel.frame _, fun h => by cases h⟩

theorem over : Rows.slotsOnceRow.holds Try.pinned (OpenSpec.ofChange Rows.slotsOnceSpec) :=
  OpenClaim.holds_of_wide 5 Try.f5 rfl rfl rfl rfl rfl rfl rfl ⟨rfl, rfl, rfl, rfl, rfl⟩ rfl rfl rfl rfl rfl (by kernel_rfl) Try.func5 (by kernel_rfl)
    (of_decide_eq_true (by kernel_rfl)) (by unfold Func.isWrapper; first | (rw [if_pos (by decide +kernel)]; kernel_rfl) | (rw [if_neg (by decide +kernel)]; exact ⟨rfl, rfl⟩))
    (fun os started H enc _ => lifted os started H enc)

/-- THE STATEMENT. -/
theorem proved : Rows.SlotsOnceSaid := over
#print axioms proved
end Go.Proofs.Ytidfgighpdkfaaa.slotsOnce
