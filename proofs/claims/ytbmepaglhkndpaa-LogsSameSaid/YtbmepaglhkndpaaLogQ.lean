/-
  Contract of the landed log (layer 11): Append. Conditions: those that it names.
-/
import Derived.Test.YtbmepaglhkndpaaLogP
import Derived.StillTailTactics
namespace Go.Proofs.Ytbmepaglhkndpaa.Logs
open Go.RowKit Go.Proofs.Ytbmepaglhkndpaa.Mem Go.Proofs.Ytbmepaglhkndpaa.Ops Go.Proofs.Ytbmepaglhkndpaa.Kv
set_option maxRecDepth 100000
set_option maxHeartbeats 4000000
section
variable (ρ : Operand → Value) (dst : Option Tmp) (x : Operand) (tt : TypeId) (pos : String) (af : Array Edge) (g : Option (Nat × Bool)) (w : World)
theorem execSliceRl : (execOp ρ ⟨dst, .buildSlice TRs 1 #[(0, x)], tt, pos, af, g⟩).run Try.prog w = s1Run Try.prog TRs w (ρ x) := exec_slice1 _ _ _ _ _ _ _ _ _
end
theorem sliceRl (w : World) (c : Rs) : s1Run Try.prog TRs w (.agg c.cells.toArray) = .ok (.value (.slice (some ⟨w.heap.size, 0, none⟩) 1 1)) (w.alloc (.cells c.cells.toArray TR)) := by
  obtain ⟨i0, hi, hz0, hz1, hz2⟩ := info_parts info_resR
  exact s1Run_row w _ _ 4 _ i0 _ Try.underlying55 hi hz0 hz1 (by decide) (by decide) (Rs.cellsN _)
attribute [local go_sem ↓] execLoadO execLoadR execLoadEn execSliceEn execSliceRl
attribute [local go_sem] sliceEn sliceRl Held.alloc Held.drew
theorem err_done {L : List E} {y : E} (hl : L.length ≤ 1000) (h : err L y = 0) : (0 ≤ y.client ∧ y.client ≤ 5) ∧ y.index = (L.length : Int) + 1 := by
  unfold err at h
  by_cases a : bad y
  · rw [if_pos a] at h; omega
  · rw [if_neg a, if_neg (by omega)] at h
    by_cases b : y.index ≠ (L.length : Int) + 1
    · rw [if_pos b] at h; omega
    · unfold bad at a
      omega
theorem lgC_set (ve vr v5 v6 : Value) (s : Nat) (f g : Nat → Int) (k : Nat) (n : Int) (hk : k < 6) (hg : ∀ j, g j = if k = j then n else f j) : (((lgC ve vr s f).set 0 v5).set 1 v6).set (2 + k) (.int .i64 n) = lgC v5 v6 s g := by
  have : k = 0 ∨ k = 1 ∨ k = 2 ∨ k = 3 ∨ k = 4 ∨ k = 5 := by omega
  rcases this with rfl | rfl | rfl | rfl | rfl | rfl <;> simp [lgC, hg]
theorem valid_snoc {L : List E} {y : E} (h : Valid L) (hc : 0 ≤ y.client ∧ y.client ≤ 5) (hi : y.index = (L.length : Int) + 1) : Valid (L ++ [y]) := fun i e he => by
  by_cases hlt : i < L.length
  · rw [List.getElem?_append_left hlt] at he
    exact h i e he
  · have h2 := (List.getElem?_eq_some_iff.1 he).1
    simp at h2
    have : i = L.length := by omega
    subst this
    simp at he
    subst he
    exact ⟨hi, hc⟩
def AppAt (w : World) (p : Nat) (ve vr : Value) (s m : Nat) (L : List E) (y : E) (e : Ending) (w' : World) : Prop :=
  e = .returned (.tuple #[.agg (ans L y).cells.toArray, .int .i64 (err L y)]) ∧ ∃ ve' vr', LgAt1 w' p ve' vr' s m (app L y) ∧ Turned (p :: s :: m :: (ve.ownBlock.toList ++ vr.ownBlock.toList)) w w' ∧
    (∀ k, ve'.ownBlock = some k → k ∈ p :: s :: m :: (ve.ownBlock.toList ++ vr.ownBlock.toList) ∨ w.heap.size ≤ k) ∧ (∀ k, vr'.ownBlock = some k → k ∈ p :: s :: m :: (ve.ownBlock.toList ++ vr.ownBlock.toList) ∨ w.heap.size ≤ k)
theorem append_at (w : World) (p : Nat) (ve vr : Value) (s m : Nat) (L : List E) (h : LgAt1 w p ve vr s m L) (y : E) (hl : L.length ≤ 1000) : Calls Try.prog 12 #[ptr p, .agg y.cells.toArray] w (AppAt w p ve vr s m L y) := by
  obtain ⟨d, hd, hdr⟩ := row_res
  replace hd := Lib.hid hd
  obtain ⟨d1, hd1, hdr1⟩ := row_entry
  replace hd1 := Lib.hid hd1
  have RF := Lib.hid (fun (w1 : World) (h1 : LgAt1 w1 p ve vr s m L) => refuses_at w1 p ve vr s m L h1 y hl)
  by_cases he : err L y = 0
  · obtain ⟨hc, hidx⟩ := err_done hl he
    obtain ⟨k, hk⟩ := Int.eq_ofNat_of_zero_le hc.1
    have hk6 : k < 6 := by omega
    have hk5 : (k : Int) < 6 := by omega
    have e2 : app L y = L ++ [y] := by unfold app; rw [if_pos he]
    have e3 : ans L y = told (store L) ((L.length : Int) + 1) y.op := by unfold ans; rw [if_pos he]
    unfold AppAt
    rw [e2, e3, he]
    rw [he] at RF
    have hvn := valid_snoc h.good hc hidx
    have hrs := results_snoc L y
    have hss := store_snoc L y
    have hlast : ∀ j : Nat, lasts (L ++ [y]) j = if k = j then (L.length : Int) + 1 else lasts L j := fun j => by
      unfold lasts
      rw [last_snoc]
      by_cases e : k = j
      · subst e; rw [if_pos hk, if_pos rfl]
      · rw [if_neg (by omega), if_neg e]
    have hsl : (store L).length < 1000000 := by have := store_len L; omega
    have AP := Lib.hid (fun (w1 : World) (h1 : StAt w1 s m (store L)) => Kv.apply_at w1 s m (store L) h1 hsl y.index y.op)
    rw [hidx] at AP
    have hml : (L ++ [y]).length ≤ 4096 := by simp; omega
    have hrl := results_len L
    generalize told (store L) ((L.length : Int) + 1) y.op = R at *
    generalize next (store L) ((L.length : Int) + 1) y.op = C2 at *
    replace hrs := Lib.hid hrs
    replace hss := Lib.hid hss
    replace hvn := Lib.hid hvn
    replace hlast := Lib.hid hlast
    replace hml := Lib.hid hml
    replace hidx := Lib.hid hidx
    replace hk := Lib.hid hk
    replace hrl := Lib.hid hrl
    clear he e2 e3 hc hsl
    replace h := Lib.hid h
    go_enter Try.func12, Try.ntmps12
    go_wp2_with (first
      | ((with_reducible show wpList _ _ _ (⟨some 3, .box _ _, _, _, _, _⟩ :: _) _ _); refine wpList_box_blk rfl TEn _ rfl y.cells rfl ?_; intro w1 hn K1 S1; clear S1; have HK := ((Kept.start w).below hn).add K1; have h1 := Lib.hid (h.out.below hn); clear hn K1)
      | ((with_reducible show wpList _ _ _ (⟨some 4, .alloc _, _, _, _, _⟩ :: _) _ _); refine wpList_alloc_blk rfl TR rfl _ zero_res ?_; intro w2 hn K2 S2; clear S2; have lo := HK.ends.size; replace h1 := Lib.hid (h1.out.below hn); replace HK := (HK.below hn).add K2; clear hn K2; generalize w1.heap.size = b4 at *)
      | ((with_reducible show wpList _ _ _ (⟨some 7, .load TEn _, _, _, _, _⟩ :: _) _ _); refine wpList_load_mid rfl TEn _ rfl w.heap.size 0 rfl y.cells d1 (HK.blk (cs := y.cells) (T := TEn) (by simp)).rangeAll hd1.out hdr1 info_entryN ?_)
      | (go_at_call 31; (with_reducible refine (RF.out _ h1.out).mono ?_); rintro e w3 ⟨rfl, hn⟩; replace h1 := Lib.hid (h1.out.below hn); replace HK := HK.below hn; clear hn))
    have M0 : Mid (p :: s :: m :: (ve.ownBlock.toList ++ vr.ownBlock.toList)) w w3 p (lgC ve vr s (lasts L)) ve vr L (results L) s m (store L) w.heap.size b4 y zeroR :=
      ⟨h1.out.blk, h1.out.ent, h1.out.res, h1.out.st, HK.blk (by simp), HK.blk (by simp), HK.1.mono (by simp), by simp, fun k hk => .inl (by simp [hk]), fun k hk => .inl (by simp [hk]), fun e => by have := (h.out.ent.lt _ e).2; omega, fun e => by have := (h.out.res.lt _ e).2; omega⟩
    clear HK h1
    replace M0 := Lib.hid M0.drew
    have c8 : w3.drew.cell? ⟨p, 8, none⟩ = some (ptr s) := M0.out.blk.cell 8
    have q0 : w3.drew.cell? ⟨w.heap.size, 0, none⟩ = some (.int .i64 y.index) := M0.out.ky.cell 0
    have g3 := ldOp M0.out.ky
    go_still_tail 8, (by kernel_rfl)
    change wpList _ _ _ _ _ w3.drew
    rw [hidx.out]
    generalize w3.drew = w4 at *
    clear c8 q0 g3
    go_wp2_with (first
      | (go_at_call 32; (with_reducible refine (AP.out _ M0.out.st).mono ?_); rintro e w5 ⟨rfl, hs5, ht5⟩; have M1 := Lib.hid (M0.out.store ht5 (by simp) hs5); clear hs5 ht5 M0)
      | ((with_reducible show wpList _ _ _ (⟨none, .store TR (.tmp 4) _, _, _, _, _⟩ :: _) _ _); refine wpList_store_blk rfl TR _ _ rfl b4 TR zeroR.cells R.cells 4 rfl rfl M1.out.k4 rfl (Rs.cellsN _) info_res ?_; intro w6 T6 K6 S6; clear S6; have M2 := Lib.hid (M1.out.answer T6 lo K6); clear M1 T6 K6))
    obtain ⟨X5, rfl⟩ : ∃ X : World, X = w6 := ⟨_, rfl⟩
    have H0 : Held [] X5 X5 := Held.refl _ _
    have H0d : Held [] X5 X5.drew := H0.drew
    have KB := M2.out.blk
    have KY := M2.out.ky
    have C3 : ∀ w', Held [] X5 w' → w'.cell? ⟨p, 0, none⟩ = some ve := fun w' hw => (hw.blk KB (by simp)).cell 0
    have L3 : ∀ w', Held [] X5 w' → ldRun Try.prog TEn w' (.pointer (some ⟨w.heap.size, 0, none⟩)) = .ok (.value (.agg y.cells.toArray)) w' := fun w' hw => ldEn (hw.blk KY (by simp))
    have hbX := KB.lt
    replace KB := Lib.hid KB
    replace KY := Lib.hid KY
    obtain ⟨i5, hi, hz0, hz1, hz2⟩ := info_parts info_entry
    replace hi := Lib.hid hi
    replace hz0 := Lib.hid hz0
    replace hz1 := Lib.hid hz1
    replace hz2 := Lib.hid hz2
    go_region_law (first
      | (refine step_append_at rfl (.tmp 26) (.tmp 28) TEs rfl 0 TEn i5 _ 7 72 Try.underlying28 hi.out hz0.out hz1.out hz2.out rfl (by decide) _ L.length (kE.row L) rfl (World.ownsRow.alloc (M2.out.drew.ent) _) X5.heap.size 1 1 y.cells rfl (Blk.new X5.drew TEn y.cells).rangeAll (by simp [E.cells, O.cells]) (by simp [E.cells, O.cells, Value.oneCell']) (by unfold maxLen; omega) (by omega) (by simp) ?_; intro v5 W5 hown hgrow hat; obtain ⟨ao5, m5, cp5, rfl⟩ := owns_slice hown; replace hgrow : World.grownBy _ W5 ve.ownBlock := hgrow; replace hat : Value.ownBlock (.slice ao5 m5 cp5) = ve.ownBlock ∨ _ := hat; have B5 := (turned_grown hgrow).blk ((KB.out.drewN 1).alloc _) (fun hm => own_ne_blk M2.out.ent KB.out (by decide) (by simpa using hm)); have cb : W5.cell? ⟨p, 0, none⟩ = some ve := B5.cell 0; have fb := B5.free 0; clear B5; replace hown := Lib.hid hown; replace hgrow := Lib.hid hgrow; replace hat := Lib.hid hat))
    all_goals
      have M3 := Lib.hid (M2.out.entries (W := W5) hown.out hgrow.out hat.out)
      generalize W5.setCell ⟨p, 0, none⟩ (.slice ao5 m5 cp5) = X6 at *
      clear hown hgrow hat cb fb C3 L3 H0 H0d KB KY hbX M2 hi hz0 hz1 hz2
      generalize (Value.slice ao5 m5 cp5) = v5 at *
      go_wp2_with fail
      obtain ⟨Y6, rfl⟩ : ∃ X : World, X = X6 := ⟨_, rfl⟩
      have H0 : Held [] Y6 Y6 := Held.refl _ _
      have H0d : Held [] Y6 Y6.drew := H0.drew
      have KB := M3.out.blk
      have KY := M3.out.k4
      have C3 : ∀ w', Held [] Y6 w' → w'.cell? ⟨p, 1, none⟩ = some vr := fun w' hw => (hw.blk KB (by simp)).cell 1
      have L3 : ∀ w', Held [] Y6 w' → ldRun Try.prog TR w' (.pointer (some ⟨b4, 0, none⟩)) = .ok (.value (.agg R.cells.toArray)) w' := fun w' hw => ldR (hw.blk KY (by simp))
      have hbX := KB.lt
      replace KB := Lib.hid KB
      replace KY := Lib.hid KY
      obtain ⟨i6, hi, hz0, hz1, hz2⟩ := info_parts info_resR
      replace hi := Lib.hid hi
      replace hz0 := Lib.hid hz0
      replace hz1 := Lib.hid hz1
      replace hz2 := Lib.hid hz2
      go_region_law (first
        | (refine step_append_at rfl (.tmp 36) (.tmp 38) TRs rfl 0 TR i6 _ 4 40 Try.underlying55 hi.out hz0.out hz1.out hz2.out rfl (by decide) _ (results L).length (kR.row (results L)) rfl (World.ownsRow.alloc (M3.out.drew.res) _) Y6.heap.size 1 1 R.cells rfl (Blk.new Y6.drew TR R.cells).rangeAll (by simp [Rs.cells]) (by simp [Rs.cells, Value.oneCell']) (by have := hrl.out; unfold maxLen; omega) (by have := hrl.out; omega) (by simp) ?_; intro v6 W6 hown hgrow hat; obtain ⟨ao6, m6, cp6, rfl⟩ := owns_slice hown; replace hgrow : World.grownBy _ W6 vr.ownBlock := hgrow; replace hat : Value.ownBlock (.slice ao6 m6 cp6) = vr.ownBlock ∨ _ := hat; have B6 := (turned_grown hgrow).blk ((KB.out.drewN 1).alloc _) (fun hm => own_ne_blk M3.out.res KB.out (by decide) (by simpa using hm)); have cb : W6.cell? ⟨p, 1, none⟩ = some vr := B6.cell 1; have fb := B6.free 1; clear B6; replace hown := Lib.hid hown; replace hgrow := Lib.hid hgrow; replace hat := Lib.hid hat))
      all_goals
        have M4 := Lib.hid (M3.out.results (W := W6) hown.out hgrow.out hat.out)
        generalize W6.setCell ⟨p, 1, none⟩ (.slice ao6 m6 cp6) = X7 at *
        clear hown hgrow hat cb fb C3 L3 H0 H0d KB KY hbX M3 hi hz0 hz1 hz2
        generalize (Value.slice ao6 m6 cp6) = v6 at *
        go_wp2_with fail
        replace M4 := Lib.hid M4.out.drew
        have q0 : X7.drew.cell? ⟨w.heap.size, 0, none⟩ = some (.int .i64 y.index) := M4.out.ky.cell 0
        have q1 : X7.drew.cell? ⟨w.heap.size, 1, none⟩ = some (.int .i64 (k : Int)) := by rw [← hk.out]; exact M4.out.ky.cell 1
        rw [hidx.out] at q0
        go_still_tail 8, (by kernel_rfl)
        change wpList _ _ _ _ _ X7.drew
        generalize X7.drew = X8 at *
        clear q0 q1
        go_wp2_with (first
          | ((with_reducible show wpList _ _ _ (⟨none, .store 3 (.tmp 49) _, _, _, _, _⟩ :: _) _ _); refine wpList_store_cell rfl _ _ _ rfl p (2 + k) (.int .i64 ((L.length : Int) + 1)) TLg _ rfl rfl M4.out.blk (by simp [lgC]; omega) rfl Kv.info_int ?_; intro X9 T9 K9 S9; have M5 := Lib.hid (M4.out.cell T9 K9); clear M4 T9 K9 S9)
          | ((with_reducible show wpList _ _ _ (⟨some 50, .load TR _, _, _, _, _⟩ :: _) _ _); refine wpList_load_mid rfl TR _ rfl b4 0 rfl R.cells d M5.out.k4.rangeAll hd.out hdr info_res ?_)
          | ((with_reducible show wpList _ _ _ (⟨none, .store TR (.tmp 4) _, _, _, _, _⟩ :: _) _ _); refine wpList_store_blk rfl TR _ _ rfl b4 TR R.cells R.cells 4 rfl rfl M5.out.k4 rfl (Rs.cellsN _) info_res ?_; intro w6 T6 K6 S6; clear S6; have M6 := Lib.hid (M5.out.answer T6 lo K6); clear M5 T6))
        have hb := M6.out.blk
        rw [lgC_set _ _ _ _ _ _ _ k _ hk6 hlast.out] at hb
        have hre := M6.out.res
        rw [← hrs.out] at hre
        have hst := M6.out.st
        rw [← hss.out] at hst
        refine bodyPost_ret (results_cell2 (b := b4) (o := 0) (cs := R.cells) Try.results12 rfl K6.rangeAll hd.out hdr info_res) rfl ⟨rfl, v5, v6, ⟨hb, M6.out.ent, hre, hst, hvn.out, hml.out⟩, M6.out.t, M6.out.e_in, M6.out.r_in⟩
  · have e2 : app L y = L := by unfold app; rw [if_neg he]
    have e3 : ans L y = zeroR := by unfold ans; rw [if_neg he]
    unfold AppAt
    rw [e2, e3]
    have t0 : (err L y == 0) = false := by simpa using he
    generalize err L y = er at *
    replace h := Lib.hid h
    clear he e2 e3
    go_enter Try.func12, Try.ntmps12
    go_wp2_with (first
      | ((with_reducible show wpList _ _ _ (⟨some 3, .box _ _, _, _, _, _⟩ :: _) _ _); refine wpList_box_blk rfl TEn _ rfl y.cells rfl ?_; intro w1 hn K1 S1; clear S1; have HK := ((Kept.start w).below hn).add K1; have h1 := Lib.hid (h.out.below hn); clear hn K1)
      | ((with_reducible show wpList _ _ _ (⟨some 4, .alloc _, _, _, _, _⟩ :: _) _ _); refine wpList_alloc_blk rfl TR rfl _ zero_res ?_; intro w2 hn K2 S2; clear S2; have lo := HK.ends.size; replace h1 := Lib.hid (h1.out.below hn); replace HK := (HK.below hn).add K2; clear hn K2; generalize w1.heap.size = b4 at *)
      | ((with_reducible show wpList _ _ _ (⟨some 7, .load TEn _, _, _, _, _⟩ :: _) _ _); refine wpList_load_mid rfl TEn _ rfl w.heap.size 0 rfl y.cells d1 (HK.blk (cs := y.cells) (T := TEn) (by simp)).rangeAll hd1.out hdr1 info_entryN ?_)
      | (go_at_call 31; (with_reducible refine (RF.out _ h1.out).mono ?_); rintro e w3 ⟨rfl, hn⟩; replace h1 := Lib.hid (h1.out.below hn); replace HK := HK.below hn; clear hn)
      | ((with_reducible show wpList _ _ _ (⟨none, .store TR (.tmp 4) _, _, _, _, _⟩ :: _) _ _); refine wpList_store_blk rfl TR _ _ rfl b4 TR zeroR.cells zeroR.cells 4 rfl rfl (HK.blk (by simp)) rfl (Rs.cellsN _) info_res ?_; intro w9 T9 K9 S9; clear S9))
    have nb := Lib.hid (HK.blk (b := b4) (T := TR) (cs := zeroR.cells) (by simp))
    refine bodyPost_ret (results_cell2 (b := b4) (o := 0) (cs := zeroR.cells) Try.results12 rfl K9.rangeAll hd.out hdr info_res) rfl ⟨rfl, ve, vr, h1.out.keep T9 (by simp; exact fun e => blk_ne nb.out h1.out.blk (by decide) e.symm) (by simp; exact fun e => blk_ne nb.out h1.out.st.blk (by decide) e.symm) (by simp; exact fun e => blk_ne_map nb.out h1.out.st.map e.symm) (fun k hk e => by simp at hk; subst hk; have := (h.out.ent.lt _ e).2; omega) (fun k hk => by simp at hk; subst hk; intro e; have := (h.out.res.lt _ e).2; omega), (HK.1.trans T9 (fun k hk hm => by simp at hm; omega)).mono (by simp), fun k hk => .inl (by simp [hk]), fun k hk => .inl (by simp [hk])⟩
end Go.Proofs.Ytbmepaglhkndpaa.Logs
