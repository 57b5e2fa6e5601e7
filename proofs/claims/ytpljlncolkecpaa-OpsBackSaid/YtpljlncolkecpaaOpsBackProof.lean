/-
  Law OpsBack answers true for every operation and every number of 8 bits, and leaves them as they were: what is put is got, and put again as it was; what is cut off, or has a byte behind it, is none; what it counts for is from 17 to MaxCost. Conditions: none.
-/
import Derived.Test.YtpljlncolkecpaaRows
import Derived.WalkKit
import Derived.ProofKit
import Derived.OpenShut
import Derived.ShutString
import Derived.ChangeOld
import Derived.Below
import Derived.Test.YtpljlncolkecpaaTyped
import Derived.Test.YtpljlncolkecpaaOpsB
open Go.Proofs.Ytpljlncolkecpaa.Mem Go.Proofs.Ytpljlncolkecpaa.Ops Go.Proofs.Ytpljlncolkecpaa.Codec
namespace Go.Proofs.Ytpljlncolkecpaa.opsBack
open Go.ChangeShapes Go.WideShapes Go.ChangeAt Go.RowKit
open Go.ChangeMaps (open_string shut_string)
open Go.Proofs.Ytpljlncolkecpaa.Mem
set_option linter.unusedVariables false

theorem own : ownKnob Try.prog.godebug = none := by kernel_rfl
theorem laidOut : laidOutB Try.prog = true := by kernel_rfl

def ty0 : Ty := opTy
def wit0 : List Value := zeroO.cells
attribute [local go_sem ↓] execLoadO

theorem sh0 : tyOf Try.prog 20 23 = some ty0 := by kernel_rfl

/-! ### The walk: the law answers true, and writes nothing that was there. -/
set_option maxRecDepth 100000
set_option maxHeartbeats 8000000
theorem walk (w : World) (c0 : List Value) (a1 : Int) (f0 : Fits w ty0 c0) (w1 : (Lit.int .u8 a1).wf = true) :
    Calls Try.prog 5 #[.agg c0.toArray, .int .u8 a1] w fun e w' => e = .returned (.bool true) ∧ Below w.heap.size w w' := by
  have hT : Turned [] w w := Turned.of_below (Below.refl w.heap.size w)
  obtain ⟨o, rfl⟩ := op_fits f0
  clear f0
  obtain ⟨d, hd, hdr⟩ := row_op
  replace hd := Lib.hid hd
  have GR := Lib.hid (great_any o)
  cases hgr : o.great with
  | true =>
    rw [hgr] at GR
    clear hgr
    go_enter Try.func5, Try.ntmps5
    go_wp2_with (first
      | ((with_reducible show wpList _ _ _ (⟨_, .box _ _, _, _, _, _⟩ :: _) _ _); refine wpList_box_blk rfl TO _ rfl o.cells rfl ?_; intro W1 B1 K1 S1; clear S1; replace hT := hT.trans (Turned.of_below B1) (by simp))
      | ((with_reducible show wpList _ _ _ (⟨some 13, .load TO _, _, _, _, _⟩ :: _) _ _); refine wpList_load_blk rfl TO _ rfl w.heap.size TO o.cells d rfl K1 hd.out hdr info_op ?_)
      | (go_at_call 7; refine (GR.out _).mono ?_; rintro e w2 ⟨rfl, hn⟩; replace hT := hT.trans (Turned.of_below hn) (by simp); clear hn)
      | (go_at_call 8; refine (told_any _).mono ?_; rintro e w7 ⟨rfl, hn⟩; replace hT := hT.trans (Turned.of_below hn) (by simp); clear hn))
    go_ret
    exact ⟨rfl, hT.below (Nat.le_refl _) (by simp)⟩
  | false =>
    rw [hgr] at GR
    clear hgr
    have P := Lib.hid (put_any o)
    have C := Lib.hid (check_any o)
    have S := Lib.hid (cost_any o)
    have R := Lib.hid (reads_any o)
    unfold PutP at P
    by_cases hc : o.check = 0
    · obtain ⟨lb, ub⟩ := bytes_len hc
      obtain ⟨cb1, cb2⟩ := cost_bd hc
      have e1 := get_put hc
      have b1 := bounds_u8 w1
      obtain ⟨n, rfl⟩ := Int.eq_ofNat_of_zero_le b1.1
      have ew : wrap64 (n : Int) = (n : Int) := by unfold wrap64; omega
      have k1 : n % o.bytes.length < o.bytes.length := Nat.mod_lt _ (by omega)
      have ek : ((n : Int).tmod (o.bytes.length : Int)) = ((n % o.bytes.length : Nat) : Int) := rfl
      have e2 : getS ((o.bytes.drop 0).take (n % o.bytes.length - 0)) = none := get_cut hc (p := (o.bytes.drop 0).take (n % o.bytes.length - 0)) (q := o.bytes.drop (n % o.bytes.length)) (by simp) (fun e => by have := congrArg List.length e; simp at this; omega)
      have e3 : getS (o.bytes ++ [0]) = none := get_more hc (by simp)
      rw [put_ok hc, hc] at P
      rw [hc] at C
      clear hc w1 b1 R
      generalize o.bytes = l at *
      generalize n % l.length = k at *
      generalize o.cost = cst at *
      have G1 := fun w => get_any ⟨l.toArray⟩ w (by simp [ByteArray.size]; omega)
      have G2 := fun w => get_any ((⟨l.toArray⟩ : ByteArray).extract 0 k) w (by rw [extract_of (s := ⟨l.toArray⟩) (l := l) (by simp)]; simp [ByteArray.size]; omega)
      have G3 := fun w => get_any ((⟨l.toArray⟩ : ByteArray) ++ ⟨#[0]⟩) w (by rw [show ((⟨l.toArray⟩ : ByteArray) ++ ⟨#[0]⟩) = ⟨(l ++ [0]).toArray⟩ from concat_of l [0]]; simp [ByteArray.size]; omega)
      unfold GetP at G1 G2 G3
      rw [show (⟨l.toArray⟩ : ByteArray).data.toList = l by simp, show got l = o by simp [got, e1], show gotE l = 0 by simp [gotE, e1]] at G1
      rw [show ((⟨l.toArray⟩ : ByteArray).extract 0 k).data.toList = (l.drop 0).take (k - 0) by rw [extract_of (s := ⟨l.toArray⟩) (l := l) (by simp)]] at G2
      rw [show got ((l.drop 0).take (k - 0)) = zeroO by unfold got; rw [e2]; rfl, show gotE ((l.drop 0).take (k - 0)) = 10 by unfold gotE; rw [e2]; rfl] at G2
      rw [show ((⟨l.toArray⟩ : ByteArray) ++ ⟨#[0]⟩).data.toList = l ++ [0] by rw [show ((⟨l.toArray⟩ : ByteArray) ++ ⟨#[0]⟩) = ⟨(l ++ [0]).toArray⟩ from concat_of l [0]]] at G3
      rw [show got (l ++ [0]) = zeroO by unfold got; rw [e3]; rfl, show gotE (l ++ [0]) = 10 by unfold gotE; rw [e3]; rfl] at G3
      replace G1 := Lib.hid G1
      replace G2 := Lib.hid G2
      replace G3 := Lib.hid G3
      clear e1 e2 e3
      have zl : ((l.length : Int) == 0) = false := beq_eq_false_iff_ne.2 (by omega)
      have n17 : ¬ cst < 17 := by omega
      have n96 : ¬ 96 < cst := by omega
      have hk : (k : Int) ≤ (l.length : Int) := by omega
      have q1 := eql_op o
      have q2 := fun op x y => guard_op op x y o
      have q3 : ∀ w, (binOp .eql TO (.agg #[.int .i64 0, .string ⟨#[]⟩, .string ⟨#[]⟩, .int .i64 0]) (.agg #[.int .i64 0, .string ⟨#[]⟩, .string ⟨#[]⟩, .int .i64 0])).run Try.prog w = .ok (.bool true) w := eql_op zeroO
      have q4 : ∀ op x y w, (eqGuard op TO x y (.agg #[.int .i64 0, .string ⟨#[]⟩, .string ⟨#[]⟩, .int .i64 0]) (.agg #[.int .i64 0, .string ⟨#[]⟩, .string ⟨#[]⟩, .int .i64 0])).run Try.prog w = .ok () w := fun op x y => guard_op op x y zeroO
      have mS : ¬ 9223372036854775807 < l.length + 1 := by omega
      clear cb1 cb2 ub
      go_enter Try.func5, Try.ntmps5
      go_wp2_with (first
        | ((with_reducible show wpList _ _ _ (⟨_, .box _ _, _, _, _, _⟩ :: _) _ _); refine wpList_box_blk rfl TO _ rfl o.cells rfl ?_; intro W1 B1 K1 S1; clear S1; replace hT := hT.trans (Turned.of_below B1) (by simp); have l1 := K1.lt; replace K1 := Lib.hid K1)
        | ((with_reducible show wpList _ _ _ (⟨_, .load TO (.tmp 2), _, _, _, none⟩ :: _) _ _); refine wpList_load_blk rfl TO _ rfl w.heap.size TO o.cells d rfl K1.out hd.out hdr info_op ?_)
        | (go_at_call 7; refine (GR.out _).mono ?_; rintro e w2 ⟨rfl, hn⟩; replace hT := hT.trans (Turned.of_below hn) (by simp); replace K1 := Lib.hid (K1.out.below hn l1); replace l1 := Nat.lt_of_lt_of_le l1 hn.size; clear hn)
        | (go_at_call 9; refine (P.out _).mono ?_; rintro e w2 ⟨rfl, hn⟩; replace hT := hT.trans (Turned.of_below hn) (by simp); replace K1 := Lib.hid (K1.out.below hn l1); replace l1 := Nat.lt_of_lt_of_le l1 hn.size; have r1 := ldO K1.out; clear hn)
        | (go_at_call 11; refine (C.out _).mono ?_; rintro e w2 ⟨rfl, hn⟩; replace hT := hT.trans (Turned.of_below hn) (by simp); replace K1 := Lib.hid (K1.out.below hn l1); replace l1 := Nat.lt_of_lt_of_le l1 hn.size; clear r1; have r1 := ldO K1.out; clear hn)
        | (go_at_call 13; refine (S.out _).mono ?_; rintro e w2 ⟨rfl, hn⟩; replace hT := hT.trans (Turned.of_below hn) (by simp); replace K1 := Lib.hid (K1.out.below hn l1); replace l1 := Nat.lt_of_lt_of_le l1 hn.size; clear r1; have r1 := ldO K1.out; clear hn)
        | (go_at_call 16; (with_reducible refine (G1.out _).mono ?_); rintro e w2 ⟨rfl, hn⟩; replace hT := hT.trans (Turned.of_below hn) (by simp); replace K1 := Lib.hid (K1.out.below hn l1); replace l1 := Nat.lt_of_lt_of_le l1 hn.size; clear r1 hn)
        | ((with_reducible show wpList _ _ _ (⟨some 7, .alloc _, _, _, _, _⟩ :: _) _ _); refine wpList_alloc_blk rfl TO rfl _ zero_op ?_; intro W5 B5 K5 S5; clear S5; replace hT := hT.trans (Turned.of_below B5) (by simp); replace K1 := Lib.hid (K1.out.below B5 l1); clear B5)
        | ((with_reducible show wpList _ _ _ (⟨none, .store TO (.tmp 7) _, _, _, _, _⟩ :: _) _ _); refine wpList_store_blk rfl TO _ _ rfl w2.heap.size TO zeroO.cells o.cells 4 rfl rfl K5 rfl (O.cellsN _) info_op ?_; intro W6 T6 K6 S6; clear S6; replace hT := hT.trans T6 (fun j h1 h2 => by have := l1; simp at h2; omega); replace K1 := Lib.hid (T6.blk K1.out (by simp; omega)); have l6 := K6.lt; have l16 := l1; replace K6 := Lib.hid K6; clear K5 T6)
        | (go_at_call 16; (with_reducible refine (G2.out _).mono ?_); rintro e w7 ⟨rfl, hn⟩; replace hT := hT.trans (Turned.of_below hn) (by simp); replace K1 := Lib.hid (K1.out.below hn (by omega)); replace K6 := Lib.hid (K6.out.below hn l6); have s7 := hn.size; clear hn)
        | ((with_reducible show wpList _ _ _ (⟨some 9, .alloc _, _, _, _, _⟩ :: _) _ _); refine wpList_alloc_blk rfl TO rfl _ zero_op ?_; intro W8 B8 K8 S8; clear S8; replace hT := hT.trans (Turned.of_below B8) (by simp); replace K1 := Lib.hid (K1.out.below B8 (by omega)); replace K6 := Lib.hid (K6.out.below B8 (by omega)); clear B8)
        | ((with_reducible show wpList _ _ _ (⟨none, .store TO (.tmp 9) _, _, _, _, _⟩ :: _) _ _); refine wpList_store_blk rfl TO _ _ rfl w7.heap.size TO zeroO.cells zeroO.cells 4 rfl rfl K8 rfl (O.cellsN _) info_op ?_; intro W9 T9 K9 S9; clear S9; replace hT := hT.trans T9 (fun j h1 h2 => by simp at h2; omega); replace K1 := Lib.hid (T9.blk K1.out (by simp; omega)); replace K6 := Lib.hid (T9.blk K6.out (by simp; omega)); have l9 := K9.lt; replace K9 := Lib.hid K9; clear K8 T9)
        | (go_at_call 16; (with_reducible refine (G3.out _).mono ?_); rintro e wa ⟨rfl, hn⟩; replace hT := hT.trans (Turned.of_below hn) (by simp); replace K1 := Lib.hid (K1.out.below hn (by omega)); replace K6 := Lib.hid (K6.out.below hn (by omega)); replace K9 := Lib.hid (K9.out.below hn l9); have sa := hn.size; clear hn)
        | ((with_reducible show wpList _ _ _ (⟨some 11, .alloc _, _, _, _, _⟩ :: _) _ _); refine wpList_alloc_blk rfl TO rfl _ zero_op ?_; intro Wb Bb Kb Sb; clear Sb; replace hT := hT.trans (Turned.of_below Bb) (by simp); replace K1 := Lib.hid (K1.out.below Bb (by omega)); replace K6 := Lib.hid (K6.out.below Bb (by omega)); replace K9 := Lib.hid (K9.out.below Bb (by omega)); clear Bb)
        | ((with_reducible show wpList _ _ _ (⟨none, .store TO (.tmp 11) _, _, _, _, _⟩ :: _) _ _); refine wpList_store_blk rfl TO _ _ rfl wa.heap.size TO zeroO.cells zeroO.cells 4 rfl rfl Kb rfl (O.cellsN _) info_op ?_; intro Wc Tc Kc Sc; clear Sc; replace hT := hT.trans Tc (fun j h1 h2 => by simp at h2; omega); have r1 := ldO (Tc.blk K1.out (by simp; omega)); have r2 := ldO (Tc.blk K6.out (by simp; omega)); have r3 : ldRun Try.prog TO Wc (.pointer (some ⟨w7.heap.size, 0, none⟩)) = .ok (.value (.agg #[.int .i64 0, .string ⟨#[]⟩, .string ⟨#[]⟩, .int .i64 0])) Wc := ldO (Tc.blk K9.out (by simp; omega)); have r4 : ldRun Try.prog TO Wc (.pointer (some ⟨wa.heap.size, 0, none⟩)) = .ok (.value (.agg #[.int .i64 0, .string ⟨#[]⟩, .string ⟨#[]⟩, .int .i64 0])) Wc := ldO Kc; clear K1 K6 K9 Kb Kc Tc)
        | (go_at_call 8; refine (told_any _).mono ?_; rintro e w7 ⟨rfl, hn⟩; replace hT := hT.trans (Turned.of_below hn) (by simp); clear hn))
      go_ret
      exact ⟨rfl, hT.below (Nat.le_refl _) (by simp)⟩
    · have hcn : (o.check == 0) = false := by simpa using hc
      have hcc : (o.check == o.check) = true := by simp
      rw [put_no hc] at P
      rw [show o.cost = 0 from if_neg hc] at S
      rw [show o.reads = false by simp [O.reads, hc]] at R
      generalize o.check = c at *
      clear hc
      go_enter Try.func5, Try.ntmps5
      go_wp2_with (first
        | ((with_reducible show wpList _ _ _ (⟨_, .box _ _, _, _, _, _⟩ :: _) _ _); refine wpList_box_blk rfl TO _ rfl o.cells rfl ?_; intro W1 B1 K1 S1; clear S1; replace hT := hT.trans (Turned.of_below B1) (by simp); have l1 := K1.lt; replace K1 := Lib.hid K1)
        | ((with_reducible show wpList _ _ _ (⟨_, .load TO (.tmp 2), _, _, _, none⟩ :: _) _ _); refine wpList_load_blk rfl TO _ rfl w.heap.size TO o.cells d rfl K1.out hd.out hdr info_op ?_)
        | (go_at_call 7; refine (GR.out _).mono ?_; rintro e w2 ⟨rfl, hn⟩; replace hT := hT.trans (Turned.of_below hn) (by simp); replace K1 := Lib.hid (K1.out.below hn l1); replace l1 := Nat.lt_of_lt_of_le l1 hn.size; clear hn)
        | (go_at_call 9; refine (P.out _).mono ?_; rintro e w2 ⟨rfl, hn⟩; replace hT := hT.trans (Turned.of_below hn) (by simp); replace K1 := Lib.hid (K1.out.below hn l1); replace l1 := Nat.lt_of_lt_of_le l1 hn.size; have r1 := ldO K1.out; clear hn)
        | (go_at_call 11; refine (C.out _).mono ?_; rintro e w2 ⟨rfl, hn⟩; replace hT := hT.trans (Turned.of_below hn) (by simp); replace K1 := Lib.hid (K1.out.below hn l1); replace l1 := Nat.lt_of_lt_of_le l1 hn.size; clear r1; have r1 := ldO K1.out; clear hn)
        | (go_at_call 13; refine (S.out _).mono ?_; rintro e w2 ⟨rfl, hn⟩; replace hT := hT.trans (Turned.of_below hn) (by simp); replace K1 := Lib.hid (K1.out.below hn l1); replace l1 := Nat.lt_of_lt_of_le l1 hn.size; clear r1; have r1 := ldO K1.out; clear hn)
        | (go_at_call 15; refine (R.out _).mono ?_; rintro e w2 ⟨rfl, hn⟩; replace hT := hT.trans (Turned.of_below hn) (by simp); replace K1 := Lib.hid (K1.out.below hn l1); replace l1 := Nat.lt_of_lt_of_le l1 hn.size; clear r1 hn)
        | (go_at_call 8; refine (told_any _).mono ?_; rintro e w7 ⟨rfl, hn⟩; replace hT := hT.trans (Turned.of_below hn) (by simp); clear hn))
      go_ret
      exact ⟨rfl, hT.below (Nat.le_refl _) (by simp)⟩

/-! ### The row. -/
set_option maxRecDepth 100000 in
theorem lifted (os : Os) (started : os.Started) (H : Type) (enc : TypeId × Value → H) :
    ReturnsInHanded {} Try.checked os 5 .any (Rows.opsBackSpec.pre6 enc Try.prog Try.f5 Rows.opsBackRow.domain false) (Rows.opsBackSpec.post enc Try.prog Try.f5 false true false false) := by
  refine returnsInHanded_of_change (C := Try.checked) own started (by kernel_rfl) Try.func5
    (ChangeSpec.witness6 (enc := enc) (C := Try.checked) false ⟨#[], #[.agg wit0.toArray, .int .u8 0], []⟩ 8 (by kernel_rfl) (by kernel_rfl) (by kernel_rfl) (by kernel_rfl)) ?_
  intro W base args ds gs before hval0 hW hcnd _
  have hval : ∀ (j : Nat) t v, Try.f5.params[j]? = some t → args[j]? = some v → Value.okWide Try.prog W .any base t v := hval0
  have hW' := hW
  obtain ⟨p, q, hA0, hV, rfl, hfz, hnd⟩ := hW
  have hA : DataW.TrodAll enc Try.prog W 0 (fun _ => true) true Try.f5.params.toList args.toList ds p := hA0
  rw [Try.params5] at hA hval
  obtain ⟨v0, vs0, d0, ds0, p0, q0, hargs, rfl, rfl, h0, r0⟩ := trodAll_cons hA
  obtain ⟨v1, vs1, d1, ds1, p1, q1, rfl, rfl, rfl, h1, r1⟩ := trodAll_cons r0
  obtain ⟨rfl, rfl, rfl⟩ := trodAll_nil r1
  obtain rfl : args = #[v0, v1] := by cases args; simp_all
  obtain ⟨rfl, rfl⟩ := trodVars_none hV
  have k0 := h0
  have lt0 : ∀ x ∈ p0, x.block < W.heap.size := by obtain ⟨m, hm⟩ := k0; exact DataW.trod_lt m _ _ _ hm
  have f0 := fits_of_Trod sh0 h0; obtain ⟨⟨c0⟩, rfl, _⟩ := okWide_struct Try.underlying23 (hval 0 23 v0 rfl rfl)
  have k1 := h1
  have lt1 : ∀ x ∈ p1, x.block < W.heap.size := by obtain ⟨m, hm⟩ := k1; exact DataW.trod_lt m _ _ _ hm
  obtain ⟨a1, rfl, rfl, rfl, w1⟩ := open_int Try.underlying5 (hval 1 5 v1 rfl rfl) h1
  clear hA0 hval0
  refine (walk W c0 a1 f0 w1).mono fun e W' ⟨he, bel⟩ => ?_
  subst he
  exact ⟨_, rfl, _, _, _, [], _, [], hW', trodAll_mk1 (shut_bool Try.underlying4 _), (trodAll_cons_mk (Below.trod laidOut (by kernel_rfl) (of_decide_eq_true (by kernel_rfl)) k0 bel lt0) (trodAll_cons_mk (Below.trod laidOut (by kernel_rfl) (of_decide_eq_true (by kernel_rfl)) k1 bel lt1) trodAll_mk0)), rfl, bel.frame _, fun h => by cases h⟩

theorem over : Rows.opsBackRow.holds Try.pinned (OpenSpec.ofChange Rows.opsBackSpec) :=
  OpenClaim.holds_of_wide 5 Try.f5 rfl rfl rfl rfl rfl rfl rfl ⟨rfl, rfl, rfl, rfl, rfl⟩ rfl rfl rfl rfl rfl (by kernel_rfl) Try.func5 (by kernel_rfl)
    (of_decide_eq_true (by kernel_rfl)) (by unfold Func.isWrapper; first | (rw [if_pos (by decide +kernel)]; kernel_rfl) | (rw [if_neg (by decide +kernel)]; exact ⟨rfl, rfl⟩))
    (fun os started H enc _ => lifted os started H enc)

/-- THE STATEMENT. -/
theorem proved : Rows.OpsBackSaid := over
#print axioms proved
end Go.Proofs.Ytpljlncolkecpaa.opsBack
