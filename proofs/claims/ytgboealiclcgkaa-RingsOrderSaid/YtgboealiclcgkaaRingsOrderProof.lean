/-
  Law RingsOrder answers true for every capacity and every list of turns, and leaves them as they were: what is pushed is popped in that order, each once, and a ring is full just if it has as many as it has places. Conditions: none.
-/
import Derived.Test.YtgboealiclcgkaaRows
import Derived.WalkKit
import Derived.ProofKit
import Derived.OpenShut
import Derived.ShutString
import Derived.ChangeOld
import Derived.Below
import Derived.Test.YtgboealiclcgkaaTyped
import Derived.Test.YtgboealiclcgkaaRingsE
open Go.Proofs.Ytgboealiclcgkaa.Mem Go.Proofs.Ytgboealiclcgkaa.Rings
namespace Go.Proofs.Ytgboealiclcgkaa.ringsOrder
open Go.ChangeShapes Go.WideShapes Go.ChangeAt Go.RowKit
open Go.ChangeMaps (open_string shut_string)
open Go.Proofs.Ytgboealiclcgkaa.Mem
set_option linter.unusedVariables false

theorem own : ownKnob Try.prog.godebug = none := by kernel_rfl
theorem laidOut : laidOutB Try.prog = true := by kernel_rfl

def ty1 : Ty := .slice .bool
/-- The frames with these Seqs, c of them, from o on. -/
def seqs (o c : Nat) : List Fr := (List.range' o c).map fun m : Nat => seqFr (.int .i64 (m : Int))
theorem seqs_snoc (o c : Nat) : seqs o c ++ [seqFr (.int .i64 ((o + c : Nat) : Int))] = seqs o (c + 1) := by simp [seqs, List.range'_1_concat]
theorem seqs_cons (o c : Nat) : seqs o (c + 1) = seqFr (.int .i64 (o : Int)) :: seqs (o + 1) c := by simp [seqs, List.range'_succ]
theorem seqs_len (o c : Nat) : (seqs o c).length = c := by simp [seqs]
/-- The turns. -/
def turn (w : World) (ao : Option Addr) (i : Nat) : Bool := match ao with | some a => (match w.cell? ⟨a.block, a.off + i, none⟩ with | some (.bool b) => b | _ => false) | none => false
theorem turn_cell {w : World} {ao : Option Addr} {ln cp : Nat} (f : Fits w ty1 [.slice ao ln cp]) (h : 0 < ln) : ∃ b o, ao = some ⟨b, o, none⟩ ∧ b < w.heap.size ∧ ∀ i, i < ln → w.cell? ⟨b, o + i, none⟩ = some (.bool (turn w ao i)) := by
  rcases f with f | ⟨a, len, cap, f, h1, h2, h3⟩
  · simp at f; omega
  · simp at f
    obtain ⟨rfl, rfl, rfl⟩ := f
    obtain ⟨b, o, sp⟩ := a
    have hs := (h3 0 h).1
    simp only at hs
    subst hs
    have key : ∀ i, i < ln → ∃ x, w.cell? ⟨b, o + i, none⟩ = some (.bool x) := by
      intro i hi
      obtain ⟨_, es, _, hr, x, rfl⟩ := h3 i hi
      have := hr 0 _ rfl
      simp [Ty.size] at this
      exact ⟨x, this⟩
    obtain ⟨x, hx⟩ := key 0 h
    refine ⟨b, o, rfl, World.block_lt_of_cell? w _ hx, fun i hi => ?_⟩
    obtain ⟨x, hx⟩ := key i hi
    simp [turn, hx]

theorem sh1 : tyOf Try.prog 20 62 = some ty1 := by kernel_rfl

/-! ### The walk: the law answers true, and writes nothing that was there. -/
set_option maxRecDepth 100000
set_option maxHeartbeats 4000000
theorem walk (w : World) (a0 : Int) (ao1 : Option Addr) (ln1 cp1 : Nat) (w0 : (Lit.int .u8 a0).wf = true) (f1 : Fits w ty1 [.slice ao1 ln1 cp1]) :
    Calls Try.prog 5 #[.int .u8 a0, .slice ao1 ln1 cp1] w fun e w' => e = .returned (.bool true) ∧ Below w.heap.size w w' := by
  have hB := Below.refl w.heap.size w
  obtain ⟨m, rfl⟩ := Int.eq_ofNat_of_zero_le (bounds_u8 w0).1
  have hm := (bounds_u8 w0).2
  have hl : (ln1 : Int) ≤ 9223372036854775807 := by
    rcases f1 with f | ⟨a, len, cap, f, h1, h2, _⟩
    · simp at f; omega
    · simp at f; unfold maxLen at h2; omega
  by_cases hs : 300 < (ln1 : Int)
  · go_enter Try.func5, Try.ntmps5
    go_wp2_with (go_at_call 7; refine (ringed_any _).mono ?_; rintro e w2 ⟨rfl, hn⟩; replace hB := bel hB hn; clear hn)
    go_ret
    exact ⟨rfl, hB⟩
  · go_enter Try.func5, Try.ntmps5
    go_wp2_with fail
    obtain ⟨n, hn, n1, n2⟩ : ∃ n : Nat, (1 + (m : Int) % 64) = n ∧ 1 ≤ n ∧ n ≤ 64 := ⟨1 + m % 64, by omega, by omega, by omega⟩
    rw [hn]
    clear hn
    refine (new_good n _ n1 n2).mono ?_
    rintro e w1 ⟨p, q, rfl, R1, hp, hq, B1⟩
    replace hB := bel hB B1
    have hlt1 := R1.lt
    go_wp2_with (go_at_call 22; refine (cap_at w1 p q n [] [] R1).mono ?_; rintro e w2 ⟨rfl, rfl⟩)
    have hT := fun h => turn_cell f1 h
    have hT' := Lib.hid hT
    clear hT f1 hlt1
    go_loopw [8, 9, 10] (fun inn out i wr => ∃ (k a o : Nat) (I : List Nat), k ≤ ln1 ∧ i = .int .i64 (k : Int) ∧ out = .int .i64 (o : Int) ∧ inn = .int .i64 ((o + a : Nat) : Int) ∧ o + a ≤ k ∧ RingAt wr p q n (seqs o a) I ∧ Below w.heap.size w wr)
      (fun _ _ i _ => ln1 - (intOf i).toNat)
    case atStart => exact ⟨0, 0, 0, [], Nat.zero_le _, rfl, rfl, rfl, Nat.le_refl _, R1, hB⟩
    case round =>
      obtain ⟨k, a, o, I, hk, rfl, rfl, rfl, hak, R, hBr⟩ := hrel
      clear hB R1 B1
      have hlen := R.len
      rw [seqs_len] at hlen
      have hlt := R.lt
      by_cases hlt : k < ln1
      · obtain ⟨b, off, rfl, hbw, hcell⟩ := hT'.out (by omega)
        have hc := hcell k hlt
        have hc' : wr.cell? ⟨b, off + k, none⟩ = some (.bool (turn w (some ⟨b, off, none⟩) k)) := (hBr.cell hbw).trans hc
        clear hc hcell
        cases hturn : turn w (some ⟨b, off, none⟩) k with
        | true =>
          rw [hturn] at hc'
          clear hturn
          by_cases hfull : a < n
          · have t1 : decide ((o : Int) + a - o < n) = true := decide_eq_true (by omega)
            have t2 : ((a : Int) + 1 != (o : Int) + a + 1 - o) = false := by simp; omega
            go_wp2_with (first
              | (go_at_call 17; refine (push_at wr p q n _ I R (seqC (.int .i64 ((o : Int) + a))) (seqFr (.int .i64 ((o : Int) + a))) [] (seq_at _ _) (seq_ok _) (by simp) (by simp)).mono ?_; rintro e w3 ⟨rfl, I3, R3, hI3, T3⟩; rw [seqs_len, if_pos hfull, ← Int.natCast_add, seqs_snoc] at R3; simp only [seqs_len, hfull, decide_true])
              | (go_at_call 21; refine (len_at _ p q n _ _ R3).mono ?_; rintro e w4 ⟨rfl, rfl⟩; simp only [seqs_len, Int.natCast_add, Int.natCast_one]))
            go_roundw
            case rel => exact ⟨k + 1, a + 1, o, I3, by omega, by go_num, rfl, by go_num, by omega, R3, hBr.trans (T3.below hBr.size (by simp; omega))⟩
            case measure => simp [intOf]; omega
          · have t1 : decide ((o : Int) + a - o < n) = false := decide_eq_false (by omega)
            have t2 : ((a : Int) != (o : Int) + a - o) = false := by simp; omega
            go_wp2_with (first
              | (go_at_call 17; refine (push_at wr p q n _ I R (seqC (.int .i64 ((o : Int) + a))) (seqFr (.int .i64 ((o : Int) + a))) [] (seq_at _ _) (seq_ok _) (by simp) (by simp)).mono ?_; rintro e w3 ⟨rfl, I3, R3, hI3, T3⟩; rw [seqs_len, if_neg hfull] at R3; simp only [seqs_len, hfull, decide_false])
              | (go_at_call 21; refine (len_at _ p q n _ _ R3).mono ?_; rintro e w4 ⟨rfl, rfl⟩; simp only [seqs_len]))
            go_roundw
            case rel => exact ⟨k + 1, a, o, I3, by omega, by go_num, rfl, by go_num, by omega, R3, hBr.trans (T3.below hBr.size (by simp; omega))⟩
            case measure => simp [intOf]; omega
        | false =>
          rw [hturn] at hc'
          clear hturn
          cases a with
          | zero =>
            go_wp2_with fail
            refine (pop_at wr p q n _ I R).mono ?_
            rintro e w3 ⟨c3, J3, rfl, F3, hJ3, R3, T3⟩
            have z0e : atS (seqs o 0) 0 = none := rfl
            rw [z0e] at F3 ⊢
            simp only [Option.isSome_none, Option.getD_none] at F3 ⊢
            have hcN := Lib.hid (fr_cellsN F3 zero_ok)
            have lt3 := R3.lt
            clear z0e
            go_wp2_with (first
              | ((with_reducible show wpList _ _ _ (⟨some 12, .alloc _, _, _, _, _⟩ :: _) _ _); refine wpList_alloc_blk rfl 42 rfl zeroC zero_val ?_; intro W3 BW3 K3 S3; clear S3; have l3 := K3.lt)
              | ((with_reducible show wpList _ _ _ (⟨none, .store _ (.tmp 12) _, _, _, _, _⟩ :: _) _ _); refine wpList_store_blk rfl 42 (.tmp 12) (.tmp 62) rfl w3.heap.size 42 zeroC c3 29 rfl rfl K3 rfl hcN.out info_frame ?_; intro w4 T4 K4 S4; replace S4 := Lib.hid S4; have R4 : RingAt w4 p q n (seqs o 0).tail I := (R3.below BW3).same (fun b hb => T4.block b (by have := hb.elim (fun e => e ▸ lt3.1) fun hb => hb.elim (fun e => e ▸ lt3.2.1) (lt3.2.2 b); omega) (by have := hb.elim (fun e => e ▸ lt3.1) fun hb => hb.elim (fun e => e ▸ lt3.2.1) (lt3.2.2 b); simp; omega)) T4.size)
              | (go_at_call 21; refine (len_at _ p q n _ _ R4).mono ?_; rintro e w5 ⟨rfl, rfl⟩))
            go_roundw
            case rel => exact ⟨k + 1, 0, o, I, by omega, by go_num, rfl, by go_num, by omega, R4, (hBr.trans (T3.below hBr.size (by simp; omega))).trans ((BW3.mono (by have := hBr.size; have := T3.size; omega)).trans (T4.below (by have := hBr.size; have := T3.size; omega) (by have := hBr.size; have := T3.size; simp; omega)))⟩
            case measure => simp [intOf]; omega
          | succ a =>
            rw [seqs_cons] at R
            have t1 : decide ((o : Int) < ((o + (a + 1) : Nat) : Int)) = true := decide_eq_true (by omega)
            go_wp2_with fail
            refine (pop_at wr p q n _ I R).mono ?_
            rintro e w3 ⟨c3, J3, rfl, F3, hJ3, R3, T3⟩
            simp only [show ∀ (x : Fr) l, atS (x :: l) 0 = some x from fun _ _ => rfl, Option.isSome_some, Option.getD_some, List.tail_cons] at F3 R3 ⊢
            have hcN := Lib.hid (fr_cellsN F3 (seq_ok _))
            have e3 : c3[3]? = some (.int .i64 (o : Int)) := seq_cell F3 (seq_ok _)
            replace e3 := Lib.hid e3
            have lt3 := R3.lt
            go_wp2_with (first
              | ((with_reducible show wpList _ _ _ (⟨some 12, .alloc _, _, _, _, _⟩ :: _) _ _); refine wpList_alloc_blk rfl 42 rfl zeroC zero_val ?_; intro W3 BW3 K3 S3; clear S3; have l3 := K3.lt)
              | ((with_reducible show wpList _ _ _ (⟨none, .store _ (.tmp 12) _, _, _, _, _⟩ :: _) _ _); refine wpList_store_blk rfl 42 (.tmp 12) (.tmp 62) rfl w3.heap.size 42 zeroC c3 29 rfl rfl K3 rfl hcN.out info_frame ?_; intro w4 T4 K4 S4; replace S4 := Lib.hid S4; have R4 : RingAt w4 p q n (seqs (o + 1) a) I := (R3.below BW3).same (fun b hb => T4.block b (by have := hb.elim (fun e => e ▸ lt3.1) fun hb => hb.elim (fun e => e ▸ lt3.2.1) (lt3.2.2 b); omega) (by have := hb.elim (fun e => e ▸ lt3.1) fun hb => hb.elim (fun e => e ▸ lt3.2.1) (lt3.2.2 b); simp; omega)) T4.size; have c4 : w4.cell? ⟨w3.heap.size, 3, none⟩ = some (.int .i64 (o : Int)) := (K4.cell 3).trans e3.out)
              | (go_at_call 21; refine (len_at _ p q n _ _ R4).mono ?_; rintro e w5 ⟨rfl, rfl⟩; simp only [seqs_len]))
            go_roundw
            case rel => exact ⟨k + 1, a, o + 1, I, by omega, by go_num, by go_num, by go_num, by omega, R4, (hBr.trans (T3.below hBr.size (by simp; omega))).trans ((BW3.mono (by have := hBr.size; have := T3.size; omega)).trans (T4.below (by have := hBr.size; have := T3.size; omega) (by have := hBr.size; have := T3.size; simp; omega)))⟩
            case measure => simp [intOf]; omega
      · have hkk : k = ln1 := by omega
        subst hkk
        go_wp2_with (go_at_call 7; refine (ringed_any _).mono ?_; rintro e w3 ⟨rfl, hn⟩; replace hBr := hBr.trans (hn.mono hBr.size); clear hn)
        go_ret
        exact ⟨rfl, hBr⟩

/-! ### The row. -/
set_option maxRecDepth 100000 in
theorem lifted (os : Os) (started : os.Started) (H : Type) (enc : TypeId × Value → H) :
    ReturnsInHanded {} Try.checked os 5 .any (Rows.ringsOrderSpec.pre6 enc Try.prog Try.f5 Rows.ringsOrderRow.domain false) (Rows.ringsOrderSpec.post enc Try.prog Try.f5 false true false false) := by
  refine returnsInHanded_of_change (C := Try.checked) own started (by kernel_rfl) Try.func5
    (ChangeSpec.witness6 (enc := enc) (C := Try.checked) false ⟨#[], #[.int .u8 0, .slice none 0 0], []⟩ 8 (by kernel_rfl) (by kernel_rfl) (by kernel_rfl) (by kernel_rfl)) ?_
  intro W base args ds gs before hval0 hW hcnd _
  have hval : ∀ (j : Nat) t v, Try.f5.params[j]? = some t → args[j]? = some v → Value.okWide Try.prog W .any base t v := hval0
  have hW' := hW
  obtain ⟨p, q, hA0, hV, rfl, hfz, hnd⟩ := hW
  have hA : DataW.TrodAll enc Try.prog W 0 (fun _ => true) true Try.f5.params.toList args.toList ds p := hA0
  rw [Try.params5] at hA hval
  obtain ⟨v0, vs0, d0, ds0, p0, q0, hargs, rfl, rfl, h0, r0⟩ := trodAll_cons hA
  obtain ⟨v1, vs1, d1, ds1, p1, q1, rfl, rfl, rfl, h1, r1⟩ := trodAll_cons r0
  obtain ⟨rfl, rfl, rfl⟩ := trodAll_nil r1
  obtain rfl : args = #[v0, v1] := by cases args; simp_all
  obtain ⟨rfl, rfl⟩ := trodVars_none hV
  have k0 := h0
  have lt0 : ∀ x ∈ p0, x.block < W.heap.size := by obtain ⟨m, hm⟩ := k0; exact DataW.trod_lt m _ _ _ hm
  obtain ⟨a0, rfl, rfl, rfl, w0⟩ := open_int Try.underlying5 (hval 0 5 v0 rfl rfl) h0
  have k1 := h1
  have lt1 : ∀ x ∈ p1, x.block < W.heap.size := by obtain ⟨m, hm⟩ := k1; exact DataW.trod_lt m _ _ _ hm
  have f1 := fits_of_Trod sh1 h1; obtain ⟨ao1, ln1, cp1, rfl⟩ := okWide_slice Try.underlying62 (hval 1 62 v1 rfl rfl)
  clear hA0 hval0
  refine (walk W a0 ao1 ln1 cp1 w0 f1).mono fun e W' ⟨he, bel⟩ => ?_
  subst he
  exact ⟨_, rfl, _, _, _, [], _, [], hW', trodAll_mk1 (shut_bool Try.underlying4 _), (trodAll_cons_mk (Below.trod laidOut (by kernel_rfl) (of_decide_eq_true (by kernel_rfl)) k0 bel lt0) (trodAll_cons_mk (Below.trod laidOut (by kernel_rfl) (of_decide_eq_true (by kernel_rfl)) k1 bel lt1) trodAll_mk0)), rfl, bel.frame _, fun h => by cases h⟩

theorem over : Rows.ringsOrderRow.holds Try.pinned (OpenSpec.ofChange Rows.ringsOrderSpec) :=
  OpenClaim.holds_of_wide 5 Try.f5 rfl rfl rfl rfl rfl rfl rfl ⟨rfl, rfl, rfl, rfl, rfl⟩ rfl rfl rfl rfl rfl (by kernel_rfl) Try.func5 (by kernel_rfl)
    (of_decide_eq_true (by kernel_rfl)) (by unfold Func.isWrapper; first | (rw [if_pos (by decide +kernel)]; kernel_rfl) | (rw [if_neg (by decide +kernel)]; exact ⟨rfl, rfl⟩))
    (fun os started H enc _ => lifted os started H enc)

/-- THE STATEMENT. -/
theorem proved : Rows.RingsOrderSaid := over
#print axioms proved
end Go.Proofs.Ytgboealiclcgkaa.ringsOrder
