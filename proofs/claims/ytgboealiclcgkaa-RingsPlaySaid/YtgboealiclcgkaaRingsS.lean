/-
  Contracts of the document's answer for layer 3 (fairwayref03): At, Pop.
-/
import Derived.Test.YtgboealiclcgkaaRingsR
namespace Go.Proofs.Ytgboealiclcgkaa.Rings
open Go.RowKit Go.Proofs.Ytgboealiclcgkaa.Mem
attribute [local go_sem ↓] execLoadF
attribute [local go_sem] loadF

def RAtP (w : World) (l : List Fr) (I : List Nat) (i : Int) (e : Ending) (w' : World) : Prop :=
  ∃ cs J, e = .returned (.tuple #[.agg cs.toArray, .bool (atS l i).isSome]) ∧ FrAt w' cs ((atS l i).getD zeroFr) ((atS l i).getD zeroFr).n J ∧ (∀ b ∈ J, b ∈ I) ∧ Below w.heap.size w w'

set_option maxRecDepth 100000 in
theorem rat_in (w : World) (p n : Nat) (l : List Fr) (I : List Nat) (h : RefAt w p n l I) (i : Int) (hi : 0 ≤ i ∧ i < l.length) :
    Calls Try.prog 13 #[.pointer (some ⟨p, 0, none⟩), .int .i64 i] w (RAtP w l I i) := by
  obtain ⟨hi0, hi1⟩ := hi
  obtain ⟨m, rfl⟩ := Int.eq_ofNat_of_zero_le hi0
  have hm : m < l.length := by omega
  have HA := Lib.hid (show atS l (m : Int) = some l[m] by unfold atS; rw [if_neg (by omega), Int.toNat_natCast, List.getElem?_eq_getElem hm])
  obtain ⟨⟨L, cs, h1, ⟨ao, cap, rfl, hc, hcm, hnil, hat⟩, h3, h4, h5⟩, h6, h7⟩ := h
  obtain ⟨ok, hfr⟩ := h5 m l[m] (List.getElem?_eq_getElem hm)
  generalize l[m] = x at *
  cases ao with
  | none => have := (hnil rfl).1; omega
  | some a =>
    obtain ⟨b, o, sp⟩ := a
    obtain ⟨hsp, hr⟩ := hat _ rfl
    obtain ⟨rfl, hbI⟩ := hsp (by omega)
    have hc1 : ∀ W, Below w.heap.size w W → W.cell? ⟨p, 1, none⟩ = some (.slice (some ⟨b, o, none⟩) l.length cap) := fun W hW => (hW.cell h1.lt).trans (h1.cell 1)
    have hfr' : ∀ W, Below w.heap.size w W → FrAt W ((cs.drop (m * 29)).take 29) x x.n I := fun W hW => hfr.same ok (fun b hb => hW.block b (h7 b hb))
    obtain ⟨hfl, hf1⟩ := fr_cells hfr ok
    have hrf : ∀ W, Below w.heap.size w W → W.rangeAt b (o + m * 29) ((cs.drop (m * 29)).take 29) := fun W hW j u hu => by
      rw [List.getElem?_take] at hu
      split at hu
      · rw [List.getElem?_drop] at hu
        have := hr (m * 29 + j) u hu
        rw [show o + m * 29 + j = o + (m * 29 + j) by omega]
        exact (hW.cell (h7 b hbI)).trans this
      · cases hu
    have hcN := fr_cellsN hfr ok
    generalize (cs.drop (m * 29)).take 29 = fc at *
    unfold maxLen at hcm
    obtain ⟨d, hd, hdr⟩ := row_frame
    replace hd := Lib.hid hd
    replace hrf := Lib.hid hrf
    replace hcN := Lib.hid hcN
    replace hc1 := Lib.hid hc1
    replace hfr' := Lib.hid hfr'
    have t1 : decide ((m : Int) < 0) = false := decide_eq_false (by omega)
    clear h1 hat hr h5 hfr hnil
    go_enter Try.func13, Try.ntmps13
    go_wp2_with (first
      | ((with_reducible show wpList _ _ _ (⟨_, .alloc 42, _, _, _, _⟩ :: _) _ _); refine wpList_alloc_blk rfl 42 rfl zeroC zero_val ?_; intro W1 B1 K1 S1; clear S1; have c1 := hc1.out _ B1)
      | ((with_reducible show wpList _ _ _ (⟨_, .load 42 _, _, _, _, _⟩ :: _) _ _); refine wpList_load_mid rfl 42 _ rfl b (o + m * 29) rfl fc d (hrf.out _ B1) hd.out hdr (by rw [hfl]; exact info_frame) ?_)
      | ((with_reducible show wpList _ _ _ (⟨none, .store 42 _ _, _, _, _, _⟩ :: _) _ _); refine wpList_store_blk rfl 42 _ _ rfl w.heap.size 42 zeroC fc 29 rfl rfl K1 rfl hcN.out info_frame ?_; intro W2 T2 K2 S2; clear S2))
    have B2 : Below w.heap.size w W2 := B1.trans (T2.below B1.size (by simp))
    refine bodyPost_ret (results_cell2 (b := w.heap.size) (o := 0) (cs := fc) Try.results13 rfl K2.rangeAll hd.out hdr (by rw [hfl]; exact info_frame)) rfl ⟨fc, I, ?_, ?_, fun _ h => h, B2⟩
    · rw [HA.out]; rfl
    · rw [HA.out]; exact hfr'.out _ B2

set_option maxRecDepth 100000 in
theorem rat_out (w : World) (p n : Nat) (l : List Fr) (I : List Nat) (h : RefAt w p n l I) (i : Int) (hi : ¬ (0 ≤ i ∧ i < l.length)) :
    Calls Try.prog 13 #[.pointer (some ⟨p, 0, none⟩), .int .i64 i] w (RAtP w l I i) := by
  have HA := Lib.hid (show atS l i = none by unfold atS; split; rfl; rw [List.getElem?_eq_none (by omega)])
  obtain ⟨⟨L, cs, h1, ⟨ao, cap, rfl, hc, hcm, -⟩, -⟩, -, -⟩ := h
  have hc1 : ∀ W, Below w.heap.size w W → W.cell? ⟨p, 1, none⟩ = some (.slice ao l.length cap) := fun W hW => (hW.cell h1.lt).trans (h1.cell 1)
  have hcN : CellsN 29 zeroC.toArray := fr_cellsN (zero_at w) zero_ok
  unfold maxLen at hcm
  replace hcN := Lib.hid hcN
  replace hc1 := Lib.hid hc1
  obtain ⟨d, hd, hdr⟩ := row_frame
  replace hd := Lib.hid hd
  have hout : i < 0 ∨ (0 ≤ i ∧ (l.length : Int) ≤ i) := by omega
  clear h1
  rcases hout with hneg | ⟨hpos, hbig⟩
  all_goals first
    | (have t1 : decide (i < 0) = true := decide_eq_true hneg)
    | (have t1 : decide (i < 0) = false := decide_eq_false (by omega)
       have t2 : decide ((l.length : Int) ≤ i) = true := decide_eq_true hbig)
  all_goals
    go_enter Try.func13, Try.ntmps13
    go_wp2_with (first
      | ((with_reducible show wpList _ _ _ (⟨_, .alloc 42, _, _, _, _⟩ :: _) _ _); refine wpList_alloc_blk rfl 42 rfl zeroC zero_val ?_; intro W1 B1 K1 S1; clear S1; have c1 := hc1.out _ B1)
      | ((with_reducible show wpList _ _ _ (⟨none, .store 42 _ _, _, _, _, _⟩ :: _) _ _); refine wpList_store_blk rfl 42 _ _ rfl w.heap.size 42 zeroC zeroC 29 rfl rfl K1 rfl hcN.out info_frame ?_; intro W2 T2 K2 S2; clear S2))
    have B2 : Below w.heap.size w W2 := B1.trans (T2.below B1.size (by simp))
    refine bodyPost_ret (results_cell2 (b := w.heap.size) (o := 0) (cs := zeroC) Try.results13 rfl K2.rangeAll hd.out hdr info_frame) rfl ⟨zeroC, [], ?_, ?_, by simp, B2⟩
    · rw [HA.out]; rfl
    · rw [HA.out]; exact zero_at _

theorem rat_any (w : World) (p n : Nat) (l : List Fr) (I : List Nat) (h : RefAt w p n l I) (i : Int) :
    Calls Try.prog 13 #[.pointer (some ⟨p, 0, none⟩), .int .i64 i] w (RAtP w l I i) := by
  by_cases hi : 0 ≤ i ∧ i < l.length
  · exact rat_in w p n l I h i hi
  · exact rat_out w p n l I h i hi

/-- What Pop answers. -/
def RPopP (w : World) (p n : Nat) (l : List Fr) (I : List Nat) (e : Ending) (w' : World) : Prop :=
  ∃ cs J, e = .returned (.tuple #[.agg cs.toArray, .bool (atS l 0).isSome]) ∧ FrAt w' cs ((atS l 0).getD zeroFr) ((atS l 0).getD zeroFr).n J ∧ (∀ b ∈ J, b ∈ I) ∧ RefAt w' p n l.tail I ∧ Turned [p] w w'

/-- The list without its first frame. -/
theorem ref_pop {w w' : World} {p n : Nat} {x : Fr} {l : List Fr} {I : List Nat} {b o cap : Nat} {cs : List Value} (hc : l.length + 1 ≤ cap) (hcm : cap ≤ maxLen) (hbI : b ∈ I) (hr : w.rangeAt b o cs) (h3 : cs.length = (l.length + 1) * 29) (h4 : ∀ u ∈ cs, u.oneCell' = true)
    (h5 : ∀ j y, (x :: l)[j]? = some y → FrOk y y.n ∧ FrAt w ((cs.drop (j * 29)).take 29) y y.n I) (h6 : p ∉ I) (h7 : ∀ b ∈ I, b < w.heap.size) (hT : Turned [p] w w') (o' : Nat) (ho : o' = o + 29 ∨ l.length = 0)
    (hp : Blk w' p 50 [.int .i64 n, .slice (some ⟨b, o', none⟩) l.length (cap - 1)]) : RefAt w' p n l I := by
  have hs : ∀ b ∈ I, w'.heap[b]? = w.heap[b]? := fun b hb => hT.block b (h7 b hb) (by simp; exact fun e => h6 (e ▸ hb))
  refine ⟨⟨_, cs.drop 29, hp, ⟨_, _, rfl, by omega, by omega, (fun e => by cases e), fun a ha => ?_⟩, by simp [h3]; omega, fun u hu => h4 u (List.mem_of_mem_drop hu), fun j y hy => ?_⟩, h6, fun b hb => Nat.lt_of_lt_of_le (h7 b hb) hT.size⟩
  · cases ha
    refine ⟨fun _ => ⟨rfl, hbI⟩, fun j u hu => ?_⟩
    rw [List.getElem?_drop] at hu
    rcases ho with rfl | h0
    · have := hr (29 + j) u hu
      rw [show o + 29 + j = o + (29 + j) by omega]
      exact (World.cell?_of_block (w := w) (hs b hbI)).trans this
    · rw [List.getElem?_eq_none (by omega)] at hu; cases hu
  · obtain ⟨h8, h9⟩ := h5 (j + 1) y (by simpa using hy)
    refine ⟨h8, ?_⟩
    rw [List.drop_drop, show 29 + j * 29 = (j + 1) * 29 by omega]
    exact h9.same h8 hs

set_option maxRecDepth 100000 in
set_option maxHeartbeats 1000000 in
theorem rpop_any (w : World) (p n : Nat) (l : List Fr) (I : List Nat) (h : RefAt w p n l I) : Calls Try.prog 11 #[.pointer (some ⟨p, 0, none⟩)] w (RPopP w p n l I) := by
  obtain ⟨d, hd, hdr⟩ := row_frame
  replace hd := Lib.hid hd
  have H := Lib.hid h
  have hplt := h.plt
  cases l with
  | nil =>
    clear h
    go_enter Try.func11, Try.ntmps11
    go_wp2_with ((with_reducible show wpList _ _ _ (⟨_, .alloc 42, _, _, _, _⟩ :: _) _ _); refine wpList_alloc_blk rfl 42 rfl zeroC zero_val ?_; intro W1 B1 K1 S1; clear S1; have l1 := K1.lt)
    refine (rat_any W1 p n [] I (H.out.below B1) 0).mono ?_
    rintro e w2 ⟨fc, J, rfl, hfa, hJ, hbel⟩
    simp only [show atS [] 0 = none from rfl, Option.isSome_none, Option.getD_none] at hfa ⊢
    have hcN := Lib.hid (fr_cellsN hfa zero_ok)
    have hfl := (fr_cells hfa zero_ok).1
    have K2 := K1.below hbel l1
    replace hfa := Lib.hid hfa
    go_wp2_with (first
      | ((with_reducible show wpList _ _ _ (⟨some 4, .alloc 42, _, _, _, _⟩ :: _) _ _); refine wpList_alloc_blk rfl 42 rfl zeroC zero_val ?_; intro W3 B3 K3 S3; clear S3; have l3 := K3.lt)
      | ((with_reducible show wpList _ _ _ (⟨none, .store 42 (.tmp 4) _, _, _, _, _⟩ :: _) _ _); refine wpList_store_blk rfl 42 _ _ rfl w2.heap.size 42 zeroC fc 29 rfl rfl K3 rfl hcN.out info_frame ?_; intro W4 T4 K4 S4; clear S4)
      | ((with_reducible show wpList _ _ _ (⟨_, .load 42 (.tmp 4), _, _, _, _⟩ :: _) _ _); refine wpList_load_blk rfl 42 _ rfl w2.heap.size 42 fc d rfl K4 hd.out hdr (by rw [hfl]; exact info_frame) ?_)
      | ((with_reducible show wpList _ _ _ (⟨none, .store 42 (.tmp 2) _, _, _, _, _⟩ :: _) _ _); refine wpList_store_blk rfl 42 _ _ rfl w.heap.size 42 zeroC fc 29 rfl rfl (T4.blk (K2.below B3 K2.lt) (by have := K2.lt; simp; omega)) rfl hcN.out info_frame ?_; intro W5 T5 K5 S5; clear S5))
    have B5 : Below w.heap.size w W5 := (((B1.trans (hbel.mono B1.size)).trans (B3.mono (by have := B1.size; have := hbel.size; omega))).trans (T4.below (by have := B1.size; have := hbel.size; have := B3.size; omega) (by have := B1.size; have := hbel.size; simp; omega))).trans (T5.below (by have := B1.size; have := hbel.size; have := B3.size; have := T4.size; omega) (by simp))
    refine bodyPost_ret (results_cell2 (b := w.heap.size) (o := 0) (cs := fc) Try.results11 rfl K5.rangeAll hd.out hdr (by rw [hfl]; exact info_frame)) rfl ⟨fc, J, rfl, ?_, hJ, H.out.below B5, (Turned.of_below B5).mono (by simp)⟩
    have hJw : ∀ b ∈ J, b < w.heap.size := fun b hb => H.out.lt b (hJ b hb)
    exact hfa.out.same zero_ok (fun b hb => by
      have := hJw b hb
      have := K2.lt
      exact (T5.block b (by have := B3.size; have := T4.size; omega) (by simp; omega)).trans ((T4.block b (by have := B3.size; omega) (by simp; omega)).trans (B3.block b (by omega))))
  | cons x l =>
    obtain ⟨⟨L, cs, h1, ⟨ao, cap, rfl, hc, hcm, hnil, hat⟩, h3, h4, h5⟩, h6, h7⟩ := h
    cases ao with
    | none => have := (hnil rfl).1; simp at this
    | some a =>
      obtain ⟨b, o, sp⟩ := a
      obtain ⟨hsp, hr⟩ := hat _ rfl
      obtain ⟨rfl, hbI⟩ := hsp (by simp)
      have ok := (h5 0 x rfl).1
      clear hnil hat hsp
      simp at hc
      unfold maxLen at hcm
      have hlen : ((x :: l).length : Int) = (l.length : Int) + 1 := by simp
      have fin : ∀ o', (o' = o + 29 ∨ l.length = 0) → ∀ W, Turned [p] w W → Blk W p 50 [.int .i64 n, .slice (some ⟨b, o', none⟩) l.length (cap - 1)] → RefAt W p n l I := fun o' ho W hT hB => ref_pop hc (by unfold maxLen; omega) hbI hr (by simpa using h3) h4 h5 h6 h7 hT o' ho hB
      have hJw : ∀ b ∈ I, b < w.heap.size := h7
      have hpp : ∀ W, Below w.heap.size w W → Blk W p 50 [.int .i64 n, .slice (some ⟨b, o, none⟩) (l.length + 1) cap] := fun W hW => h1.below hW h1.lt
      replace fin := Lib.hid fin
      replace hpp := Lib.hid hpp
      clear h1 hr h3 h4 h5 hlen
      have hcap : cap = 1 ∨ 1 < cap := by omega
      rcases hcap with rfl | hcap
      · have hl0 : l.length = 0 := by omega
        have fin0 : ∀ W, Turned [p] w W → Blk W p 50 [.int .i64 n, .slice (some ⟨b, o, none⟩) 0 0] → RefAt W p n l I := fun W hT hB => fin.out o (.inr hl0) W hT (by rw [hl0]; exact hB)
        replace hl0 := Lib.hid hl0
        replace fin0 := Lib.hid fin0
        go_enter Try.func11, Try.ntmps11
        go_wp2_with ((with_reducible show wpList _ _ _ (⟨_, .alloc 42, _, _, _, _⟩ :: _) _ _); refine wpList_alloc_blk rfl 42 rfl zeroC zero_val ?_; intro W1 B1 K1 S1; clear S1; have l1 := K1.lt)
        refine (rat_any W1 p n (x :: l) I (H.out.below B1) 0).mono ?_
        rintro e w2 ⟨fc, J, rfl, hfa, hJ, hbel⟩
        simp only [show atS (x :: l) 0 = some x from rfl, Option.isSome_some, Option.getD_some] at hfa ⊢
        have hcN := Lib.hid (fr_cellsN hfa ok)
        have hfl := (fr_cells hfa ok).1
        have K2 := K1.below hbel l1
        have l2 := K2.lt
        replace hfa := Lib.hid hfa
        go_wp2_with (first
          | ((with_reducible show wpList _ _ _ (⟨some 4, .alloc 42, _, _, _, _⟩ :: _) _ _); refine wpList_alloc_blk rfl 42 rfl zeroC zero_val ?_; intro W3 B3 K3 S3; clear S3; have l3 := K3.lt)
          | ((with_reducible show wpList _ _ _ (⟨none, .store 42 (.tmp 4) _, _, _, _, _⟩ :: _) _ _); refine wpList_store_blk rfl 42 _ _ rfl w2.heap.size 42 zeroC fc 29 rfl rfl K3 rfl hcN.out info_frame ?_; intro W4 T4 K4 S4; clear S4; have B4 : Below w.heap.size w W4 := ((B1.trans (hbel.mono B1.size)).trans (B3.mono (by omega))).trans (T4.below (by omega) (by simp; omega)); have hp4 := hpp.out _ B4; have c1 : W4.cell? ⟨p, 1, none⟩ = some (.slice (some ⟨b, o, none⟩) (l.length + 1) _) := hp4.cell 1; have f1 := hp4.free 1)
          | ((with_reducible show wpList _ _ _ (⟨_, .load 42 (.tmp 4), _, _, _, _⟩ :: _) _ _); refine wpList_load_blk rfl 42 _ rfl w2.heap.size 42 fc d rfl (K4.setOther (by show w2.heap.size ≠ p; omega) _) hd.out hdr (by rw [hfl]; exact info_frame) ?_)
          | ((with_reducible show wpList _ _ _ (⟨none, .store 42 (.tmp 2) _, _, _, _, _⟩ :: _) _ _); refine wpList_store_blk rfl 42 _ _ rfl w.heap.size 42 zeroC fc 29 rfl rfl ((T4.blk (K2.below B3 l2) (by simp; omega)).setOther (by show w.heap.size ≠ p; omega) _) rfl hcN.out info_frame ?_; intro W5 T5 K5 S5; clear S5))
        have hT4 := ((Turned.of_below B4).mono (S' := [p]) (by simp)).setCell (p := ⟨p, 1, none⟩) (.inl (by simp)) (.slice (some ⟨b, o, none⟩) 0 0)
        have hT5 : Turned [p] w W5 := ⟨T5.os.trans hT4.os, T5.tape.trans hT4.tape, T5.output.trans hT4.output, Nat.le_trans hT4.size T5.size, fun k hk hn => (T5.block k (Nat.lt_of_lt_of_le hk hT4.size) (by simp; omega)).trans (hT4.block k hk hn)⟩
        refine bodyPost_ret (results_cell2 (b := w.heap.size) (o := 0) (cs := fc) Try.results11 rfl K5.rangeAll hd.out hdr (by rw [hfl]; exact info_frame)) rfl ⟨fc, J, rfl, ?_, hJ, fin0.out W5 hT5 (T5.blk (hp4.set 1 _) (by simp; omega)), hT5⟩
        exact hfa.out.same ok (fun b' hb => by
          have h1 := hJw b' (hJ b' hb)
          have h2 : b' ≠ p := fun e => h6 (e ▸ hJ b' hb)
          have e1 := hT5.block b' h1 (by simpa using h2)
          rw [e1]
          exact (((B1.trans (hbel.mono B1.size)).block b' h1)).symm)
      · have hx1 : 1 ≤ cap := by omega
        go_enter Try.func11, Try.ntmps11
        go_wp2_with ((with_reducible show wpList _ _ _ (⟨_, .alloc 42, _, _, _, _⟩ :: _) _ _); refine wpList_alloc_blk rfl 42 rfl zeroC zero_val ?_; intro W1 B1 K1 S1; clear S1; have l1 := K1.lt)
        refine (rat_any W1 p n (x :: l) I (H.out.below B1) 0).mono ?_
        rintro e w2 ⟨fc, J, rfl, hfa, hJ, hbel⟩
        simp only [show atS (x :: l) 0 = some x from rfl, Option.isSome_some, Option.getD_some] at hfa ⊢
        have hcN := Lib.hid (fr_cellsN hfa ok)
        have hfl := (fr_cells hfa ok).1
        have K2 := K1.below hbel l1
        have l2 := K2.lt
        replace hfa := Lib.hid hfa
        go_wp2_with (first
          | ((with_reducible show wpList _ _ _ (⟨some 4, .alloc 42, _, _, _, _⟩ :: _) _ _); refine wpList_alloc_blk rfl 42 rfl zeroC zero_val ?_; intro W3 B3 K3 S3; clear S3; have l3 := K3.lt)
          | ((with_reducible show wpList _ _ _ (⟨none, .store 42 (.tmp 4) _, _, _, _, _⟩ :: _) _ _); refine wpList_store_blk rfl 42 _ _ rfl w2.heap.size 42 zeroC fc 29 rfl rfl K3 rfl hcN.out info_frame ?_; intro W4 T4 K4 S4; clear S4; have B4 : Below w.heap.size w W4 := ((B1.trans (hbel.mono B1.size)).trans (B3.mono (by omega))).trans (T4.below (by omega) (by simp; omega)); have hp4 := hpp.out _ B4; have c1 : W4.cell? ⟨p, 1, none⟩ = some (.slice (some ⟨b, o, none⟩) (l.length + 1) _) := hp4.cell 1; have f1 := hp4.free 1)
          | ((with_reducible show wpList _ _ _ (⟨_, .load 42 (.tmp 4), _, _, _, _⟩ :: _) _ _); refine wpList_load_blk rfl 42 _ rfl w2.heap.size 42 fc d rfl (K4.setOther (by show w2.heap.size ≠ p; omega) _) hd.out hdr (by rw [hfl]; exact info_frame) ?_)
          | ((with_reducible show wpList _ _ _ (⟨none, .store 42 (.tmp 2) _, _, _, _, _⟩ :: _) _ _); refine wpList_store_blk rfl 42 _ _ rfl w.heap.size 42 zeroC fc 29 rfl rfl ((T4.blk (K2.below B3 l2) (by simp; omega)).setOther (by show w.heap.size ≠ p; omega) _) rfl hcN.out info_frame ?_; intro W5 T5 K5 S5; clear S5))
        have hT4 := ((Turned.of_below B4).mono (S' := [p]) (by simp)).setCell (p := ⟨p, 1, none⟩) (.inl (by simp)) (.slice (some ⟨b, (o + 29), none⟩) l.length (cap - 1))
        have hT5 : Turned [p] w W5 := ⟨T5.os.trans hT4.os, T5.tape.trans hT4.tape, T5.output.trans hT4.output, Nat.le_trans hT4.size T5.size, fun k hk hn => (T5.block k (Nat.lt_of_lt_of_le hk hT4.size) (by simp; omega)).trans (hT4.block k hk hn)⟩
        refine bodyPost_ret (results_cell2 (b := w.heap.size) (o := 0) (cs := fc) Try.results11 rfl K5.rangeAll hd.out hdr (by rw [hfl]; exact info_frame)) rfl ⟨fc, J, rfl, ?_, hJ, fin.out _ (.inl rfl) W5 hT5 (T5.blk (hp4.set 1 _) (by simp; omega)), hT5⟩
        exact hfa.out.same ok (fun b' hb => by
          have h1 := hJw b' (hJ b' hb)
          have h2 : b' ≠ p := fun e => h6 (e ▸ hJ b' hb)
          have e1 := hT5.block b' h1 (by simpa using h2)
          rw [e1]
          exact (((B1.trans (hbel.mono B1.size)).block b' h1)).symm)
end Go.Proofs.Ytgboealiclcgkaa.Rings
