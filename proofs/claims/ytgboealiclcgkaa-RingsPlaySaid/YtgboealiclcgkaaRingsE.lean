/-
  What fairwaylaw03 asks of the chapter's ring ('ringed'): it is so.
-/
import Derived.Test.YtgboealiclcgkaaRingsD
namespace Go.Proofs.Ytgboealiclcgkaa.Rings
open Go.RowKit Go.Proofs.Ytgboealiclcgkaa.Mem
attribute [local go_sem ↓] execLoadF
attribute [local go_sem] loadF

/-- A frame that has Seq alone. -/
def seqFr (s : Value) : Fr := ⟨[z0, z0, z0, s, z0, z0, z0, z0, zs, zs, z0, z0, zs, z0, z0, z0, z0, z0, z0, z0, zs, zs, z0, z0], [z0, z0, z0, z0], []⟩
def seqC (s : Value) : List Value := (seqFr s).pre ++ .slice none 0 0 :: (seqFr s).post
theorem seq_ok (n : Int) : FrOk (seqFr (.int .i64 n)) (seqFr (.int .i64 n)).n := ⟨rfl, rfl, by simp [seqFr, Fr.n], by simp [seqFr, z0, zs, Value.oneCell'], by simp [seqFr], by simp [seqFr, Fr.n]⟩
theorem seq_at (w : World) (n : Int) : FrAt w (seqC (.int .i64 n)) (seqFr (.int .i64 n)) (seqFr (.int .i64 n)).n [] := ⟨.slice none 0 0, rfl, none, 0, by simp [seqFr, Fr.n], by simp [seqFr, Fr.n], by simp [maxLen], fun _ => ⟨by simp [seqFr, Fr.n], rfl, rfl⟩, fun _ h => by cases h⟩
theorem zero_val : ∀ w, (zeroValue 42).run Try.prog w = .ok (.agg zeroC.toArray) w := fun w => by kernel_rfl

/-- What stands as Seq in a frame's cells. -/
theorem seq_cell {w : World} {cs : List Value} {x : Fr} {n : Nat} {I : List Nat} (h : FrAt w cs x n I) (ok : FrOk x n) : cs[3]? = x.pre[3]? := by
  obtain ⟨v, rfl, _⟩ := h
  rw [List.getElem?_append_left (by rw [ok.pre]; decide)]

theorem RingAt.same {w w' : World} {p q n : Nat} {l : List Fr} {I : List Nat} (h : RingAt w p q n l I) (hs : ∀ b, b = p ∨ b = q ∨ b ∈ I → w'.heap[b]? = w.heap[b]?) (hz : w.heap.size ≤ w'.heap.size) : RingAt w' p q n l I := by
  obtain ⟨cp, first, cs, h⟩ := h
  exact ⟨cp, first, cs, h.same hs hz⟩
theorem RingAt.below {w w' : World} {p q n : Nat} {l : List Fr} {I : List Nat} (h : RingAt w p q n l I) (hb : Below w.heap.size w w') : RingAt w' p q n l I := by
  obtain ⟨cp, first, cs, h⟩ := h
  exact ⟨cp, first, cs, h.below hb⟩
theorem RingAt.lt {w : World} {p q n : Nat} {l : List Fr} {I : List Nat} (h : RingAt w p q n l I) : p < w.heap.size ∧ q < w.heap.size ∧ ∀ b ∈ I, b < w.heap.size := by
  obtain ⟨cp, first, cs, h⟩ := h
  exact ⟨h.hp.lt, h.hq.lt, h.lt⟩
theorem RingAt.len {w : World} {p q n : Nat} {l : List Fr} {I : List Nat} (h : RingAt w p q n l I) : l.length ≤ n := by
  obtain ⟨cp, first, cs, h⟩ := h
  exact h.hl
theorem RingAt.ok {w : World} {p q n : Nat} {l : List Fr} {I : List Nat} (h : RingAt w p q n l I) : ∀ x ∈ l, FrOk x x.n := by
  obtain ⟨cp, first, cs, h⟩ := h
  intro x hx
  obtain ⟨j, hj, rfl⟩ := List.getElem_of_mem hx
  exact (h.fr j _ (List.getElem?_eq_getElem hj)).1

section
variable (w : World) (p q n : Nat) (l : List Fr) (I : List Nat) (h : RingAt w p q n l I)
include h
theorem push_at (fc : List Value) (x : Fr) (J : List Nat) (hx : FrAt w fc x x.n J) (ok : FrOk x x.n) (hJ : ∀ b ∈ J, b < w.heap.size) (hJq : ∀ b ∈ J, b ≠ q) :
    Calls Try.prog 17 #[.pointer (some ⟨p, 0, none⟩), .agg fc.toArray] w (PushP w p q n l I x) := by
  obtain ⟨cp, first, cs, h⟩ := h
  exact push_any w p q n cp first cs l I h fc x J hx ok hJ hJq
theorem pop_at : Calls Try.prog 10 #[.pointer (some ⟨p, 0, none⟩)] w (PopP w p q n l I) := by
  obtain ⟨cp, first, cs, h⟩ := h
  exact pop_any w p q n cp first cs l I h
theorem at_at (i : Int) : Calls Try.prog 14 #[.pointer (some ⟨p, 0, none⟩), .int .i64 i] w (AtP w l i) := by
  obtain ⟨cp, first, cs, h⟩ := h
  exact at_any w p q n cp first cs l I h i
theorem front_at : Calls Try.prog 12 #[.pointer (some ⟨p, 0, none⟩)] w (AtP w l 0) := by
  obtain ⟨cp, first, cs, h⟩ := h
  exact front_any w p q n cp first cs l I h
theorem len_at : Calls Try.prog 21 #[.pointer (some ⟨p, 0, none⟩)] w fun e w' => e = .returned (.int .i64 l.length) ∧ w' = w := by
  obtain ⟨cp, first, cs, h⟩ := h
  exact len_any w p q n cp first cs l I h
theorem cap_at : Calls Try.prog 22 #[.pointer (some ⟨p, 0, none⟩)] w fun e w' => e = .returned (.int .i64 n) ∧ w' = w := by
  obtain ⟨cp, first, cs, h⟩ := h
  exact cap_any w p q n cp first cs l I h
end

set_option maxRecDepth 100000 in
set_option maxHeartbeats 2000000 in
theorem ringed_any (w : World) : Calls Try.prog 7 #[] w fun e w' => e = .returned (.bool true) ∧ Below w.heap.size w w' := by
  obtain ⟨d, hd, hdr⟩ := row_frame
  replace hd := Lib.hid hd
  have hcz : ∀ m : Int, CellsN 29 (seqC (.int .i64 m)).toArray := fun m => fr_cellsN (seq_at default m) (seq_ok m)
  replace hcz := Lib.hid hcz
  go_enter Try.func7, Try.ntmps7
  go_wp2_with fail
  refine (new_good 2 _ (by decide) (by decide)).mono ?_
  rintro e w1 ⟨p, q, rfl, R1, hp, hq, B1⟩
  have hb1 := R1.lt
  go_wp2_with (first
    | ((with_reducible show wpList _ _ _ (⟨some 3, .alloc _, _, _, _, _⟩ :: _) _ _); refine wpList_alloc_blk rfl 42 rfl zeroC zero_val ?_; intro W3 BW3 K3 S3; clear S3; have l3 := K3.lt)
    | ((with_reducible show wpList _ _ _ (⟨some 4, .alloc _, _, _, _, _⟩ :: _) _ _); refine wpList_alloc_blk rfl 42 rfl zeroC zero_val ?_; intro W4 BW4 K4 S4; clear S4; have l4 := K4.lt)
    | ((with_reducible show wpList _ _ _ (⟨some 5, .alloc _, _, _, _, _⟩ :: _) _ _); refine wpList_alloc_blk rfl 42 rfl zeroC zero_val ?_; intro W5 BW5 K5 S5; clear S5; have l5 := K5.lt)
    | ((with_reducible show wpList _ _ _ (⟨none, .store _ (.tmp 3) _, _, _, _, _⟩ :: _) _ _); refine wpList_store_blk rfl 42 (.tmp 3) (.tmp 18) rfl w1.heap.size 42 zeroC (seqC (.int .i64 1)) 29 rfl rfl ((K3.below BW4 (by omega)).below BW5 (by omega)) rfl (hcz.out 1) info_frame ?_; intro W6 T6 K6 S6; replace S6 := Lib.hid S6)
    | ((with_reducible show wpList _ _ _ (⟨none, .store _ (.tmp 4) _, _, _, _, _⟩ :: _) _ _); refine wpList_store_blk rfl 42 (.tmp 4) (.tmp 19) rfl W3.heap.size 42 zeroC (seqC (.int .i64 2)) 29 rfl rfl (T6.blk (K4.below BW5 (by omega)) (by simp; omega)) rfl (hcz.out 2) info_frame ?_; intro W7 T7 K7 S7; replace S7 := Lib.hid S7)
    | ((with_reducible show wpList _ _ _ (⟨none, .store _ (.tmp 5) _, _, _, _, _⟩ :: _) _ _); refine wpList_store_blk rfl 42 (.tmp 5) (.tmp 20) rfl W4.heap.size 42 zeroC (seqC (.int .i64 3)) 29 rfl rfl (T7.blk (T6.blk K5 (by simp; omega)) (by simp; omega)) rfl (hcz.out 3) info_frame ?_; intro W8 T8 K8 S8; have A3 := T8.blk (T7.blk K6 (by simp; omega)) (by simp; omega); have A4 := T8.blk K7 (by simp; omega); obtain ⟨h3, r3⟩ := A3.rows (n := 29) rfl; obtain ⟨h4, r4⟩ := A4.rows (n := 29) rfl; obtain ⟨h5, r5⟩ := K8.rows (n := 29) rfl))
  have hp1 := hb1.1
  have hq1 := hb1.2.1
  clear hb1
  have TT : Turned [w1.heap.size, W3.heap.size, W4.heap.size] w1 W8 :=
    ((((((Turned.of_below BW3).trans (Turned.of_below BW4) (by simp)).trans (Turned.of_below BW5) (by simp)).mono (S' := [w1.heap.size, W3.heap.size, W4.heap.size]) (by simp)).trans T6 (fun k _ h => by simp at h ⊢; omega)).trans T7 (fun k _ h => by simp at h ⊢; omega)).trans T8 (fun k _ h => by simp at h ⊢; omega)
  have R8 : RingAt W8 p q 2 [] [] := R1.same (fun b hb => TT.block b (by simp at hb; omega) (by simp at hb ⊢; omega)) TT.size
  clear K3 K4 K5 K6 K7 T6 T7 T8 BW3 BW4 BW5 S6 S7 R1
  replace S8 := Lib.hid S8
  have hE := hcz
  refine (push_at W8 p q 2 [] [] R8 (seqC (.int .i64 1)) (seqFr (.int .i64 1)) [] (seq_at W8 1) (seq_ok 1) (by simp) (by simp)).mono ?_
  rintro e w9 ⟨rfl, I9, R9, hI9, T9⟩
  simp only [List.length_nil, show (0 : Nat) < 2 by decide, if_true, List.nil_append] at R9
  replace A3 := T9.blk A3 (by simp; omega)
  replace A4 := T9.blk A4 (by simp; omega)
  replace A5 := T9.blk K8 (by simp; omega)
  clear h3 r3 h4 r4 h5 r5 K8 R8
  obtain ⟨h4, r4⟩ := A4.rows (n := 29) rfl
  go_wp2_with fail
  refine (push_at w9 p q 2 _ I9 R9 (seqC (.int .i64 2)) (seqFr (.int .i64 2)) [] (seq_at w9 2) (seq_ok 2) (by simp) (by simp)).mono ?_
  rintro e wA ⟨rfl, IA, RA, hIA, TA⟩
  simp only [List.length_cons, List.length_nil, show (0 + 1 : Nat) < 2 by decide, if_true, List.cons_append, List.nil_append] at RA
  replace A4 := TA.blk A4 (by simp; omega)
  replace A5 := TA.blk A5 (by simp; omega)
  clear h4 r4 A3 R9
  obtain ⟨h5, r5⟩ := A5.rows (n := 29) rfl
  go_wp2_with fail
  refine (push_at wA p q 2 _ IA RA (seqC (.int .i64 3)) (seqFr (.int .i64 3)) [] (seq_at wA 3) (seq_ok 3) (by simp) (by simp)).mono ?_
  rintro e wB ⟨rfl, IB, RB, hIB, TB⟩
  simp only [List.length_cons, List.length_nil, show ¬ (0 + 1 + 1 : Nat) < 2 by decide, if_false] at RB
  replace A5 := TB.blk A5 (by simp; omega)
  clear h5 r5 A4 RA
  go_wp2_with fail
  refine (pop_at wB p q 2 _ IB RB).mono ?_
  rintro e wC ⟨cC, JC, rfl, FC, hJC, RC, TC⟩
  simp only [show ∀ (x : Fr) l, atS (x :: l) 0 = some x from fun _ _ => rfl, Option.isSome_some, Option.getD_some, List.tail_cons] at FC RC ⊢
  replace A5 := TC.blk A5 (by simp; omega)
  have hcC := Lib.hid (fr_cellsN FC (seq_ok 1))
  have e3 : cC[3]? = some (.int .i64 1) := seq_cell FC (seq_ok 1)
  replace e3 := Lib.hid e3
  have lC := RC.lt
  clear RB
  go_wp2_with (first
    | ((with_reducible show wpList _ _ _ (⟨some 6, .alloc _, _, _, _, _⟩ :: _) _ _); refine wpList_alloc_blk rfl 42 rfl zeroC zero_val ?_; intro W3' BW3 K3 S3; clear S3; have l3' := K3.lt)
    | ((with_reducible show wpList _ _ _ (⟨none, .store _ (.tmp 6) _, _, _, _, _⟩ :: _) _ _); refine wpList_store_blk rfl 42 (.tmp 6) (.tmp 43) rfl wC.heap.size 42 zeroC cC 29 rfl rfl K3 rfl hcC.out info_frame ?_; intro wD TD KD SD; replace SD := Lib.hid SD; have cD : wD.cell? ⟨wC.heap.size, 3, none⟩ = some (.int .i64 1) := (KD.cell 3).trans e3.out; have A5' := TD.blk (A5.below BW3 (by have := A5.lt; omega)) (by have := A5.lt; simp; omega); obtain ⟨h5, r5⟩ := A5'.rows (n := 29) rfl))
  have RD : RingAt wD p q 2 [seqFr (.int .i64 2)] IB := RC.same (fun b hb => by
    have hb' : b < wC.heap.size := hb.elim (fun e => e ▸ lC.1) fun hb => hb.elim (fun e => e ▸ lC.2.1) (lC.2.2 b)
    exact (TD.block b (by omega) (by simp; omega)).trans (BW3.block b hb')) (Nat.le_trans BW3.size TD.size)
  have BD : Below wC.heap.size wC wD := BW3.trans (TD.below (Nat.le_of_lt l3') (by simp))
  clear RC FC A5 K3 KD
  refine (push_at wD p q 2 _ IB RD (seqC (.int .i64 3)) (seqFr (.int .i64 3)) [] (seq_at wD 3) (seq_ok 3) (by simp) (by simp)).mono ?_
  rintro e wE ⟨rfl, IE, RE, hIE, TE⟩
  simp only [List.length_cons, List.length_nil, show (0 + 1 : Nat) < 2 by decide, if_true, List.cons_append, List.nil_append] at RE
  clear h5 r5 A5' RD cD
  go_wp2_with fail
  refine (at_at wE p q 2 _ IE RE 0).mono ?_
  rintro e wF ⟨cF, JF, rfl, FF, hJF, BF⟩
  simp only [show ∀ (x : Fr) l, atS (x :: l) 0 = some x from fun _ _ => rfl, Option.isSome_some, Option.getD_some] at FF ⊢
  have hcF := Lib.hid (fr_cellsN FF (seq_ok 2))
  have eF : cF[3]? = some (.int .i64 2) := seq_cell FF (seq_ok 2)
  replace eF := Lib.hid eF
  have RF := RE.below BF
  have lF := RF.lt
  clear FF
  go_wp2_with (first
    | ((with_reducible show wpList _ _ _ (⟨some 8, .alloc _, _, _, _, _⟩ :: _) _ _); refine wpList_alloc_blk rfl 42 rfl zeroC zero_val ?_; intro W3' BW3 K3 S3; clear S3; have l3' := K3.lt)
    | ((with_reducible show wpList _ _ _ (⟨none, .store _ (.tmp 8) _, _, _, _, _⟩ :: _) _ _); refine wpList_store_blk rfl 42 (.tmp 8) (.tmp 61) rfl wF.heap.size 42 zeroC cF 29 rfl rfl K3 rfl hcF.out info_frame ?_; intro wG TG KG SG; replace SG := Lib.hid SG))
  have RG : RingAt wG p q 2 [seqFr (.int .i64 2), seqFr (.int .i64 3)] IE := RF.same (fun b hb => by
    have hb' : b < wF.heap.size := hb.elim (fun e => e ▸ lF.1) fun hb => hb.elim (fun e => e ▸ lF.2.1) (lF.2.2 b)
    exact (TG.block b (by omega) (by simp; omega)).trans (BW3.block b hb')) (Nat.le_trans BW3.size TG.size)
  have BG : Below wF.heap.size wF wG := BW3.trans (TG.below (Nat.le_of_lt l3') (by simp))
  clear RE RF K3
  refine (at_at wG p q 2 _ IE RG 1).mono ?_
  rintro e wH ⟨cH, JH, rfl, FH, hJH, BH⟩
  simp only [show ∀ (x y : Fr) l, atS (x :: y :: l) 1 = some y from fun _ _ _ => rfl, Option.isSome_some, Option.getD_some] at FH ⊢
  have hcH := Lib.hid (fr_cellsN FH (seq_ok 3))
  have eH : cH[3]? = some (.int .i64 3) := seq_cell FH (seq_ok 3)
  replace eH := Lib.hid eH
  have RH := RG.below BH
  have lH := RH.lt
  have KG' := KG.below BH KG.lt
  have lg := KG.lt
  clear FH
  go_wp2_with (first
    | ((with_reducible show wpList _ _ _ (⟨some 10, .alloc _, _, _, _, _⟩ :: _) _ _); refine wpList_alloc_blk rfl 42 rfl zeroC zero_val ?_; intro W4' BW4 K4 S4; clear S4; have l4' := K4.lt)
    | ((with_reducible show wpList _ _ _ (⟨none, .store _ (.tmp 10) _, _, _, _, _⟩ :: _) _ _); refine wpList_store_blk rfl 42 (.tmp 10) (.tmp 66) rfl wH.heap.size 42 zeroC cH 29 rfl rfl K4 rfl hcH.out info_frame ?_; intro wI TI KI SI; replace SI := Lib.hid SI))
  have RI : RingAt wI p q 2 [seqFr (.int .i64 2), seqFr (.int .i64 3)] IE := RH.same (fun b hb => by
    have hb' : b < wH.heap.size := hb.elim (fun e => e ▸ lH.1) fun hb => hb.elim (fun e => e ▸ lH.2.1) (lH.2.2 b)
    exact (TI.block b (by omega) (by simp; omega)).trans (BW4.block b hb')) (Nat.le_trans BW4.size TI.size)
  have BI : Below wH.heap.size wH wI := BW4.trans (TI.below (Nat.le_of_lt l4') (by simp))
  have KG2 := KG'.below BI KG'.lt
  clear RH K4
  refine (at_at wI p q 2 _ IE RI 2).mono ?_
  rintro e wJ ⟨cJ, JJ, rfl, FJ, hJJ, BJ⟩
  simp only [show ∀ (x y : Fr), atS [x, y] 2 = none from fun _ _ => rfl, Option.isSome_none, Option.getD_none] at FJ ⊢
  have hcJ := Lib.hid (fr_cellsN FJ zero_ok)
  have KG3 := KG2.below BJ KG2.lt
  have KI3 := KI.below BJ KI.lt
  have lj := KI3.lt
  have lj2 := KG3.lt
  clear FJ
  go_wp2_with (first
    | ((with_reducible show wpList _ _ _ (⟨some 12, .alloc _, _, _, _, _⟩ :: _) _ _); refine wpList_alloc_blk rfl 42 rfl zeroC zero_val ?_; intro W5' BW5 K5 S5; clear S5; have l5' := K5.lt)
    | ((with_reducible show wpList _ _ _ (⟨none, .store _ (.tmp 12) _, _, _, _, _⟩ :: _) _ _); refine wpList_store_blk rfl 42 (.tmp 12) (.tmp 71) rfl wJ.heap.size 42 zeroC cJ 29 rfl rfl K5 rfl hcJ.out info_frame ?_; intro wK TK KK SK; replace SK := Lib.hid SK; have cK1 : wK.cell? ⟨wF.heap.size, 3, none⟩ = some (.int .i64 2) := ((TK.blk (KG3.below BW5 lj2) (by simp; omega)).cell 3).trans eF.out; have cK2 : wK.cell? ⟨wH.heap.size, 3, none⟩ = some (.int .i64 3) := ((TK.blk (KI3.below BW5 lj) (by simp; omega)).cell 3).trans eH.out))
  go_ret
  refine ⟨rfl, ?_⟩
  have pq : ∀ k ∈ [p, q], w.heap.size ≤ k := fun k hk => by simp at hk; omega
  have a1 : Below w.heap.size w W8 := B1.trans (TT.below B1.size (fun k hk => by have := B1.size; simp at hk; omega))
  have a2 := a1.trans (T9.below a1.size pq)
  have a3 := a2.trans (TA.below a2.size pq)
  have a4 := a3.trans (TB.below a3.size pq)
  have a5 := a4.trans (TC.below a4.size pq)
  have a6 := a5.trans (BD.mono a5.size)
  have a7 := a6.trans (TE.below a6.size pq)
  have a8 := a7.trans (BF.mono a7.size)
  have a9 := a8.trans (BG.mono a8.size)
  have b1 := a9.trans (BH.mono a9.size)
  have b2 := b1.trans (BI.mono b1.size)
  have b3 := b2.trans (BJ.mono b2.size)
  exact b3.trans ((BW5.mono b3.size).trans (TK.below (by have := b3.size; omega) (by have := b3.size; simp; omega)))
end Go.Proofs.Ytgboealiclcgkaa.Rings
