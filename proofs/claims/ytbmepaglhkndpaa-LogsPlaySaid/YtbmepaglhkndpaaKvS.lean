/-
  Contracts of the document's answer for stores (fairwayref10): with, Apply. Conditions: those that each names.
-/
import Derived.Test.YtbmepaglhkndpaaKvR
import Derived.Deep.RegionLaw
namespace Go.Proofs.Ytbmepaglhkndpaa.Kv
open Go.RowKit Go.Proofs.Ytbmepaglhkndpaa.Mem Go.Proofs.Ytbmepaglhkndpaa.Ops
set_option maxRecDepth 100000

section
variable (ρ : Operand → Value) (dst : Option Tmp) (x y : Operand) (tt : TypeId) (pos : String) (af : Array Edge) (g : Option (Nat × Bool)) (w : World)
theorem execSliceC : (execOp ρ ⟨dst, .buildSlice TL 1 #[(0, x)], tt, pos, af, g⟩).run Try.prog w = s1Run Try.prog TL w (ρ x) := exec_slice1 _ _ _ _ _ _ _ _ _
theorem execLoadC : (execOp ρ ⟨dst, .load TC x, tt, pos, af, g⟩).run Try.prog w = ldRun Try.prog TC w (ρ x) := exec_load _ _ _ _ _ _ _ _ _
end
theorem sliceC (w : World) (c : C) : s1Run Try.prog TL w (.agg c.cells.toArray) = .ok (.value (.slice (some ⟨w.heap.size, 0, none⟩) 1 1)) (w.alloc (.cells c.cells.toArray TC)) := by
  obtain ⟨i0, hi, hz0, hz1, hz2⟩ := info_parts info_cell
  exact s1Run_row w _ _ 3 _ i0 _ Try.underlying67 hi hz0 hz1 (by decide) (by decide) c.cellsN
theorem ldC {w : World} {b : Nat} {c : C} (h : Blk w b TC c.cells) : ldRun Try.prog TC w (.pointer (some ⟨b, 0, none⟩)) = .ok (.value (.agg c.cells.toArray)) w := by
  have := ldRun_row w b 0 TC 3 _ Try.underlying86 rfl info_cellN (h.rows (n := 3) rfl).1
  rw [(h.rows (n := 3) rfl).2] at this
  exact this
attribute [local go_sem ↓] execLoadC execSliceC
attribute [local go_sem] sliceC Held.alloc Held.drew

theorem rowC_take : ∀ (L : List C) (k : Nat), (rowC L).take (k * 3) = rowC (L.take k)
  | [], k => by simp [rowC]
  | a :: L, 0 => by simp [rowC]
  | a :: L, k + 1 => by
    have := rowC_take L k
    simp only [rowC, List.flatMap_cons, List.take_succ_cons] at *
    rw [List.take_append, ← this]
    simp [C.cells]
    rw [show (k + 1) * 3 = k * 3 + 1 + 1 + 1 by omega]
    simp
theorem rowC_drop : ∀ (L : List C) (k : Nat), (rowC L).drop (k * 3) = rowC (L.drop k)
  | [], k => by simp [rowC]
  | a :: L, 0 => by simp [rowC]
  | a :: L, k + 1 => by
    have := rowC_drop L k
    simp only [rowC, List.flatMap_cons, List.drop_succ_cons] at *
    rw [List.drop_append, ← this]
    simp [C.cells]
    rw [show (k + 1) * 3 = k * 3 + 1 + 1 + 1 by omega]
    simp
/-- A beginning of the cells, as a slice; and what is behind it. -/
theorem CsO.head {w : World} {base : Nat} {v : Value} {M : List C} (h : CsO w base v M) {ao : Option Addr} {cap : Nat} (hv : v = .slice ao M.length cap) (k : Nat) (hk : k ≤ M.length) : ∃ I, SlAt w (.slice ao k cap) k (rowC (M.take k)) I := by
  obtain ⟨ao', cap', e, h1, h2, h3, h4⟩ := h.form
  rw [hv] at e
  cases e
  cases ao with
  | none => exact ⟨[], none, cap, rfl, by omega, h2, fun _ => by have := h3 rfl; obtain ⟨rfl, rfl⟩ := this; simp at hk; subst hk; simp [rowC], fun a e => by cases e⟩
  | some a =>
    obtain ⟨g, rfl, _, _, hr⟩ := h4 a rfl
    refine ⟨[g], _, cap, rfl, by omega, h2, (fun e => by cases e), fun a e => ?_⟩
    cases e
    refine ⟨fun _ => ⟨rfl, by simp⟩, fun j u hu => hr j u ?_⟩
    rw [← rowC_take, List.getElem?_take] at hu
    split at hu
    · exact hu
    · cases hu

theorem CsO.tail {w : World} {base : Nat} {v : Value} {M : List C} (h : CsO w base v M) {ao : Option Addr} {cap : Nat} (hv : v = .slice ao M.length cap) (k : Nat) (hk : k ≤ M.length) :
    ∃ I, SlAt w (.slice (if cap = k then ao else Option.map (fun x => x.add (k * 3)) ao) (M.length - k) (cap - k)) (M.length - k) (rowC (M.drop k)) I := by
  obtain ⟨ao', cap', e, h1, h2, h3, h4⟩ := h.form
  rw [hv] at e
  cases e
  cases ao with
  | none =>
    obtain ⟨rfl, rfl⟩ := h3 rfl
    exact ⟨[], none, 0 - k, by simp, by simp, by unfold maxLen; omega, fun _ => ⟨by simp, by simp, by simp [rowC]⟩, fun a e => by cases e⟩
  | some a =>
    obtain ⟨g, rfl, _, _, hr⟩ := h4 a rfl
    by_cases hc : cap = k
    · rw [if_pos hc]
      have hz : M.length - k = 0 := by omega
      refine ⟨[g], _, cap - k, rfl, by omega, by omega, (fun e => by cases e), fun a e => ?_⟩
      cases e
      refine ⟨fun h => by omega, fun j u hu => ?_⟩
      rw [List.drop_eq_nil_iff.2 (by omega)] at hu
      simp [rowC] at hu
    · rw [if_neg hc]
      refine ⟨[g], _, cap - k, rfl, by omega, by omega, (fun e => by cases e), fun a e => ?_⟩
      simp only [Option.map_some, Option.some.injEq] at e
      rw [Addr.add_mid] at e
      subst e
      refine ⟨fun _ => ⟨rfl, by simp⟩, fun j u hu => ?_⟩
      rw [← rowC_drop, List.getElem?_drop] at hu
      have := hr (k * 3 + j) u hu
      rw [show 0 + k * 3 + j = 0 + (k * 3 + j) by omega]
      exact this
theorem SlAt.held {w w' : World} {v : Value} {n : Nat} {cs : List Value} {I : List Nat} (h : SlAt w v n cs I) (hw : Held [] w w') : SlAt w' v n cs I := by
  obtain ⟨ao, cap, e, h1, h2, h3, h4⟩ := h
  refine ⟨ao, cap, e, h1, h2, h3, fun a ha => ⟨(h4 a ha).1, fun j u hu => ?_⟩⟩
  exact hw.cell ((h4 a ha).2 j u hu) (by simp)

theorem place_step : ∀ (M : List C) (key : List UInt8) (k : Nat), k ≤ place M key → (k < place M key ↔ ∃ c, M[k]? = some c ∧ lt c.key key = true)
  | [], key, k, h => by
    have : k = 0 := by simpa [place] using h
    subst this
    simp [place]
  | a :: M, key, 0, h => by
    unfold place
    rw [List.takeWhile_cons]
    by_cases hl : lt a.key key = true
    · rw [if_pos hl]
      simp [hl]
    · rw [if_neg hl]
      simp [hl]
  | a :: M, key, k + 1, h => by
    unfold place at *
    rw [List.takeWhile_cons] at *
    by_cases hl : lt a.key key = true
    · rw [if_pos hl] at *
      have := place_step M key k (by unfold place; simpa using h)
      unfold place at this
      simpa using this
    · rw [if_neg hl] at h
      simp at h
set_option maxHeartbeats 2000000 in
theorem rwith_any (w : World) (base : Nat) (v : Value) (L : List C) (h : CsO w base v L) (c : C) (hl : L.length ≤ 1000000) :
    Calls Try.prog 48 #[v, .agg c.cells.toArray] w (OutP w.heap.size w (withC L c)) := by
  obtain ⟨d, hd, hdr⟩ := row_cell
  replace hd := Lib.hid hd
  obtain ⟨i0, hi, hz0, hz1, hz2⟩ := info_parts info_cell
  replace hi := Lib.hid hi
  replace hz0 := Lib.hid hz0
  replace hz1 := Lib.hid hz1
  replace hz2 := Lib.hid hz2
  have W := Lib.hid (fun w1 (hb : Below w.heap.size w w1) => rwithout_any w1 base v L (h.below hb) c.key hl)
  have hml := without_len L c.key
  have HW : Hid (withC L c = (without L c.key).take (place (without L c.key) c.key) ++ c :: (without L c.key).drop (place (without L c.key) c.key)) := Lib.hid rfl
  generalize without L c.key = M at *
  have hpl := place_le M c.key
  have hps := Lib.hid (place_step M c.key)
  clear h
  go_enter Try.func48, Try.ntmps48
  go_wp2_with (first
    | ((with_reducible show wpList _ _ _ (⟨_, .box _ _, _, _, _, _⟩ :: _) _ _); refine wpList_box_blk rfl TC _ rfl c.cells rfl ?_; intro W1 B1 K1 S1; clear S1; have q0 := range_key (off := 0) K1.rangeAll)
    | (go_at_call 47; refine (W.out _ B1).mono ?_; rintro e w2 ⟨v0, rfl, hM, hn, ho⟩; have K2 := K1.below hn K1.lt; have hl2 := K1.lt; replace ho := fun k hk => Nat.lt_of_lt_of_le hl2 (ho k hk); have hB := bel B1 hn; replace hM := hM.lower (base' := w.heap.size + 1) (by have := K1.lt; omega); clear K1 q0 B1 hn))
  obtain ⟨ao, cap, rfl, hc1, hc2, hnil, hat⟩ := hM.form
  replace hat := Lib.hid hat
  replace hnil := Lib.hid hnil
  go_loopg [5] (M.length + 1) (fun g i wr => ∃ k : Nat, g = M.length + 1 - k ∧ k ≤ place M c.key ∧ i = .int .i64 (k : Int) ∧ Below w2.heap.size w2 wr)
  case atStart => exact ⟨0, rfl, Nat.zero_le _, rfl, Below.refl _ _⟩
  case round =>
    obtain ⟨k, hg, hk, rfl, hBr⟩ := hrel
    replace hg := Lib.hid hg
    have K3 := K2.below hBr K2.lt
    have hM3 := hM.below hBr
    have hB3 := bel hB hBr
    have q0 := range_key (off := 0) K3.rangeAll
    have hM2l : (M.length : Int) ≤ 1000000 := by omega
    have hps2 := hps.out k hk
    by_cases hlt : k < place M c.key
    · obtain ⟨a, ha, hla⟩ := hps2.1 hlt
      have t1 : decide ((k : Int) < (M.length : Int)) = true := decide_eq_true (by omega)
      obtain ⟨ad, rfl⟩ : ∃ ad, ao = some ad := by
        cases ao with
        | none => have := (hnil.out rfl).1; rw [this] at hlt; simp [place] at hlt
        | some ad => exact ⟨ad, rfl⟩
      obtain ⟨g, rfl, hgb, hgl, hgr⟩ := hat.out ad rfl
      have hkk : (k : Int) < (M.length : Int) := by omega
      have q1 := range_key (rangeAt_below (range_at hgr ha) hBr (fun _ => hgl))
      clear hgr hps2 hnil hat
      replace ha := Lib.hid ha
      go_wp2_with fail
      go_quiet (fail)
      go_wp2_with fail
      go_roundg (M.length + 1 - (k + 1))
      case measure => have := hg.out; omega
      case rel => exact ⟨k + 1, rfl, by omega, by go_num, ⟨hBr.os, hBr.tape, hBr.output, hBr.size, hBr.block⟩⟩
    · have hkk : k = place M c.key := by omega
      by_cases hkm : k < M.length
      case' pos =>
        obtain ⟨a, ha⟩ : ∃ a, M[k]? = some a := ⟨_, List.getElem?_eq_getElem hkm⟩
        have hla : lt a.key c.key = false := by
          cases e : lt a.key c.key with
          | false => rfl
          | true => exact absurd (hps2.2 ⟨a, ha, e⟩) hlt
        have t1 : decide ((k : Int) < (M.length : Int)) = true := decide_eq_true (by omega)
        have hkk2 : (k : Int) < (M.length : Int) := by omega
        obtain ⟨ad, rfl⟩ : ∃ ad, ao = some ad := by
          cases ao with
          | none => have := (hnil.out rfl).1; rw [this] at hkm; simp at hkm
          | some ad => exact ⟨ad, rfl⟩
        obtain ⟨g, rfl, hgb, hgl, hgr⟩ := hat.out ad rfl
        have q1 := range_key (rangeAt_below (range_at hgr ha) hBr (fun _ => hgl))
        clear hps2 hnil hat
        replace ha := Lib.hid ha
        replace hkk := Lib.hid hkk
        have hkc : (k : Int) ≤ (cap : Int) := by omega
        go_wp2_with fail
        go_quiet (fail)
        clear q1 hgb hgl hgr ha hla
        generalize (some (⟨g, 0, none⟩ : Addr)) = ao at *
      case' neg =>
        have t1 : decide ((k : Int) < (M.length : Int)) = false := decide_eq_false (by omega)
        clear hps2 hnil hat
        replace hkk := Lib.hid hkk
        have hkc : (k : Int) ≤ (cap : Int) := by omega
        go_wp2_with fail
        go_quiet (fail)
      all_goals
        go_wp2_with fail
        have hkn : k ≤ M.length := by omega
        have KX : Blk (wr.drewN nq) w.heap.size TC c.cells := K3
        have MX : CsO (wr.drewN nq) (w.heap.size + 1) (.slice ao M.length cap) M := hM3
        have BX : Below w.heap.size w (wr.drewN nq) := ⟨hB3.os, hB3.tape, hB3.output, hB3.size, hB3.block⟩
        clear K3 hM3 hB3 q0 hBr K2 hM
        obtain ⟨I1, SL1⟩ := MX.head rfl k hkn
        obtain ⟨I2, SL2⟩ := MX.tail rfl k hkn
        generalize wr.drewN nq = X at *
        have H0 : Held [] X X := Held.refl _ _
        have H0d : Held [] X X.drew := H0.drew
        have L3 : ∀ w', Held [] X w' → ldRun Try.prog TC w' (.pointer (some ⟨w.heap.size, 0, none⟩)) = .ok (.value (.agg c.cells.toArray)) w' := fun w' hw => ldC (hw.blk KX (by simp))
        replace SL1 := Lib.hid SL1
        replace SL2 := Lib.hid SL2
        have r1 := rowC_len (M.take k)
        rw [List.length_take_of_le hkn] at r1
        have r2 := rowC_len (M.drop k)
        rw [List.length_drop] at r2
        replace r1 := Lib.hid r1
        replace r2 := Lib.hid r2
        have o1 := Lib.hid (rowC_cell (M.take k))
        have o2 := Lib.hid (rowC_cell (M.drop k))
        replace hml := Lib.hid hml
        clear hpl hps hM2l hc1 hc2
        go_region_law (first
          | (refine step_append_sl rfl (.const (.slice none 0 0)) (.tmp 28) TL rfl X.heap.size TC i0 _ 3 40 Try.underlying67 hi.out hz0.out hz1.out hz2.out rfl (by decide) _ 0 [] rfl (World.ownsRow_nil _ _ _ _) _ k (rowC (M.take k)) I1 rfl (SlAt.held SL1.out (by repeat (first | assumption | exact Held.refl _ _ | apply Held.drew | apply Held.drewN | apply Held.alloc))) r1.out o1.out (by have := hml.out; unfold maxLen; omega) (by have := hml.out; omega) (by simp) ?_; intro v3 W4 hown4 hgrow4; simp only [Nat.zero_add, List.nil_append] at hown4; have hb4 := (Below.refl _ _).grown hgrow4 (Nat.le_refl _) (fun k hk => by cases hk); have hH4 : Held [] X W4 := Held.below (by repeat (first | assumption | exact Held.refl _ _ | apply Held.drew | apply Held.drewN | apply Held.alloc)) hb4)
          | (refine step_append_sl rfl (.tmp 29) (.tmp 31) TL rfl X.heap.size TC i0 _ 3 40 Try.underlying67 hi.out hz0.out hz1.out hz2.out rfl (by decide) _ k (rowC (M.take k)) rfl (hown4.alloc _) _ 1 c.cells [W4.heap.size] rfl ⟨_, 1, rfl, Nat.le_refl _, by simp [maxLen], (fun e => by cases e), fun a ha => by cases ha; exact ⟨fun _ => ⟨rfl, by simp⟩, (Blk.new W4 TC c.cells).rangeAll⟩⟩ (by simp [C.cells]) (by simp [C.cells, Value.oneCell']) (by have := hml.out; unfold maxLen; omega) (by have := hml.out; omega) (by have := hH4.turned.size; simp; omega) ?_; intro v5 W5 hown5 hgrow5; have hb5 := ((hH4.turned.below (Nat.le_refl _) (by simp)).alloc hH4.turned.size _).grown hgrow5 (by have := hH4.turned.size; simp; omega) (fun k hk => (hown4.lt k hk).1); have hH5 : Held [] X W5 := H0.below hb5)
          | (refine step_append_sl rfl (.tmp 29) (.tmp 31) TL rfl X.heap.size TC i0 _ 3 40 Try.underlying67 hi.out hz0.out hz1.out hz2.out rfl (by decide) _ k (rowC (M.take k)) rfl hown4 _ 1 c.cells [X.heap.size] rfl ⟨_, 1, rfl, Nat.le_refl _, by simp [maxLen], (fun e => by cases e), fun a ha => by cases ha; exact ⟨fun _ => ⟨rfl, by simp⟩, ((Blk.new X.drew TC c.cells).below hb4 (by simp)).rangeAll⟩⟩ (by simp [C.cells]) (by simp [C.cells, Value.oneCell']) (by have := hml.out; unfold maxLen; omega) (by have := hml.out; omega) (by have := hH4.turned.size; omega) ?_; intro v5 W5 hown5 hgrow5; have hb5 := (hH4.turned.below (Nat.le_refl _) (by simp)).grown hgrow5 (by have := hH4.turned.size; omega) (fun k hk => (hown4.lt k hk).1); have hH5 : Held [] X W5 := H0.below hb5)
          | (refine step_append_sl rfl (.tmp 32) (.tmp 35) TL rfl X.heap.size TC i0 _ 3 40 Try.underlying67 hi.out hz0.out hz1.out hz2.out rfl (by decide) _ (k + 1) (rowC (M.take k) ++ c.cells) rfl hown5 _ (M.length - k) (rowC (M.drop k)) I2 rfl (SlAt.held SL2.out hH5) r2.out o2.out (by have := hml.out; unfold maxLen; omega) (by have := hml.out; omega) (by have := hH5.turned.size; omega) ?_; intro v6 W6 hown6 hgrow6; have hb6 := hb5.grown hgrow6 (by have := hH5.turned.size; omega) (fun k hk => (hown5.lt k hk).1)))
        all_goals go_wp2_with fail
        all_goals go_ret
        all_goals
          have hfin : CsO W6 X.heap.size v6 (withC L c) := by
            unfold CsO
            have e1 : withC L c = M.take k ++ c :: M.drop k := by rw [HW.out, ← hkk.out]
            have e2 : (withC L c).length = k + 1 + (M.length - k) := by rw [e1]; simp; omega
            rw [e2, e1, rowC_app, show rowC (c :: M.drop k) = c.cells ++ rowC (M.drop k) by simp [rowC], ← List.append_assoc]
            exact hown6
          exact ⟨v6, rfl, hfin.lower BX.size, bel BX hb6, fun j hj => Nat.le_trans BX.size (owned_new hfin j hj)⟩
end Go.Proofs.Ytbmepaglhkndpaa.Kv
