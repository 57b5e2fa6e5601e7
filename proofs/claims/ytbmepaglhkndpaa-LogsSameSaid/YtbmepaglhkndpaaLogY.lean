/-
  Contracts of the landed log (layer 11): New, Copy. Conditions: those that each names.
-/
import Derived.Test.YtbmepaglhkndpaaLogQ
namespace Go.Proofs.Ytbmepaglhkndpaa.Logs
open Go.RowKit Go.Proofs.Ytbmepaglhkndpaa.Mem Go.Proofs.Ytbmepaglhkndpaa.Ops Go.Proofs.Ytbmepaglhkndpaa.Kv
set_option maxRecDepth 100000
set_option maxHeartbeats 4000000
/-- The zero cells of a Log. -/
def zeroLg : List Value := [.slice none 0 0, .slice none 0 0, .int .i64 0, .int .i64 0, .int .i64 0, .int .i64 0, .int .i64 0, .int .i64 0, .pointer none]
theorem zero_lg : ∀ w, (zeroValue TLg).run Try.prog w = .ok (.agg zeroLg.toArray) w := fun w => by kernel_rfl
theorem info_lg : (Try.prog.info? TLg).map (·.size) = some 9 := by kernel_rfl
theorem row_lg : ∃ d, Try.prog.underlying TLg = some d ∧ d.isRow = true := ⟨_, Try.underlying59, rfl⟩
theorem lgCN (ao : Option Addr) (n c : Nat) (ao' : Option Addr) (n' c' : Nat) (s : Nat) (f : Nat → Int) : CellsN 9 (lgC (.slice ao n c) (.slice ao' n' c') s f).toArray := ⟨rfl, all_oneCell_toArray (by simp [lgC, Value.oneCell'])⟩
abbrev TSp : TypeId := 57
theorem info_slR : (Try.prog.info? TRs).map (·.size) = some 1 := by kernel_rfl
theorem info_sp : (Try.prog.info? TSp).map (·.size) = some 1 := by kernel_rfl
theorem lg_new1 (w : World) : Calls Try.prog 8 #[] w fun e w' => ∃ p s m, e = .returned (ptr p) ∧ LgAt1 w' p (.slice none 0 0) (.slice none 0 0) s m [] ∧ w.heap.size ≤ p ∧ w.heap.size ≤ s ∧ w.heap.size ≤ m ∧ Below w.heap.size w w' := by
  have NW := Lib.hid (Kv.new_any w)
  go_enter Try.func8, Try.ntmps8
  go_wp2_with (first
    | (go_at_call 23; refine NW.out.mono ?_; rintro e w1 ⟨s, m, rfl, hst, hs, hm, hb⟩; replace hst := Lib.hid hst)
    | ((with_reducible show wpList _ _ _ (⟨some 3, .box _ _, _, _, _, _⟩ :: _) _ _); refine wpList_box_blk rfl TLg _ rfl (lgC (.slice none 0 0) (.slice none 0 0) s (lasts [])) rfl ?_; intro w2 hn K2 S2; clear S2))
  go_ret
  exact ⟨w1.heap.size, s, m, rfl, ⟨K2, Kind.Own.nil _ _, Kind.Own.nil _ _, hst.out.below hn, fun i e he => by simp at he, by simp⟩, hb.size, hs, hm, hb.trans (below_le hn hb.size)⟩
theorem lg_copy1 (w : World) (p : Nat) (ve vr : Value) (s m : Nat) (L : List E) (h : LgAt1 w p ve vr s m L) : Calls Try.prog 9 #[ptr p] w fun e w' => ∃ q ve' vr' s' m', e = .returned (ptr q) ∧ LgAt1 w' q ve' vr' s' m' L ∧ w.heap.size ≤ q ∧ w.heap.size ≤ s' ∧ w.heap.size ≤ m' ∧ (∀ k, ve'.ownBlock = some k → w.heap.size ≤ k) ∧ (∀ k, vr'.ownBlock = some k → w.heap.size ≤ k) ∧ Below w.heap.size w w' := by
  obtain ⟨d, hd, hdr⟩ := row_lg
  replace hd := Lib.hid hd
  have N := Lib.hid (fun (w1 : World) (h1 : LgAt1 w1 p ve vr s m L) => lnone_at w1 p s h1.c8)
  have CE := Lib.hid (fun (w1 : World) (h1 : LgAt1 w1 p ve vr s m L) => cloneE_any w1 0 ve L h1.ent (by have := h1.many; omega))
  have CR := Lib.hid (fun (w1 : World) (h1 : LgAt1 w1 p ve vr s m L) => cloneR_any w1 0 vr (results L) h1.res (by have := h1.many; rw [results_len]; omega))
  have KC := Lib.hid (fun (w1 : World) (h1 : LgAt1 w1 p ve vr s m L) => Kv.copy_at w1 s m (store L) h1.st)
  obtain ⟨ao, cp, hve, _⟩ := h.ent.form
  obtain ⟨ao', cp', hvr, _⟩ := h.res.form
  have hC : CellsN 9 (lgC ve vr s (lasts L)).toArray := by subst hve; subst hvr; exact lgCN _ _ _ _ _ _ _ _
  clear hve hvr
  have nq : ∀ k, k < w.heap.size → k ∉ [w.heap.size] := fun k hk hm => by simp at hm; omega
  replace nq := Lib.hid nq
  have c8 := h.c8
  have c0 := h.c0
  have hr := Lib.hid h.blk.rangeAll
  replace h := Lib.hid h
  replace hC := Lib.hid hC
  generalize hcs : lgC ve vr s (lasts L) = cs at *
  replace hcs := Lib.hid hcs
  have hl9 := Lib.hid (show cs.length = 9 by rw [← hcs.out]; rfl)
  go_enter Try.func9, Try.ntmps9
  go_wp2_with (first
    | (go_at_call 24; (with_reducible refine (N.out _ h.out).mono ?_); rintro e w2 ⟨rfl, rfl⟩)
    | ((with_reducible show wpList _ _ _ (⟨some 8, .load TLg _, _, _, _, _⟩ :: _) _ _); refine wpList_load_mid rfl TLg _ rfl p 0 rfl cs d hr.out hd.out hdr (by rw [hl9.out]; exact info_lg) ?_)
    | ((with_reducible show wpList _ _ _ (⟨some 3, .alloc _, _, _, _, _⟩ :: _) _ _); refine wpList_alloc_blk rfl TLg rfl _ zero_lg ?_; intro w3 hn K3 S3; clear S3; have HK := ((Kept.start _).below hn).add K3; have h1 := Lib.hid (h.out.below hn); clear hn K3)
    | ((with_reducible show wpList _ _ _ (⟨none, .store TLg (.tmp 3) _, _, _, _, _⟩ :: _) _ _); refine wpList_store_blk rfl TLg _ _ rfl w2.heap.size TLg zeroLg cs 9 rfl rfl (HK.blk (by simp)) rfl hC.out info_lg ?_; intro w4 T4 K4 S4; clear S4; replace h1 := Lib.hid (h1.out.keep T4 (nq.out _ h.out.blk.lt) (nq.out _ h.out.st.lt.1) (nq.out _ h.out.st.lt.2) (fun k hk => by simp at hk; subst hk; intro e; have := (h.out.ent.lt _ e).2; omega) (fun k hk => by simp at hk; subst hk; intro e; have := (h.out.res.lt _ e).2; omega)); replace HK := HK.swap T4 (Nat.le_refl _) (by simp) K4; have d0 := h1.out.c0; clear T4 K4)
    | (go_at_call 25; (with_reducible refine (CE.out _ h1.out).mono ?_); rintro e w5 ⟨ve', rfl, ho, hn⟩; have lo5 := HK.ends.size; replace h1 := Lib.hid (h1.out.below hn); replace HK := HK.below hn; have hE := Lib.hid (ho.lower lo5); obtain ⟨ao5, cp5, hv5, _⟩ := ho.form; clear hn d0 ho lo5; subst hv5)
    | ((with_reducible show wpList _ _ _ (⟨none, .store TEs (.tmp 14) _, _, _, _, _⟩ :: _) _ _); refine wpList_store_cell rfl TEs _ _ rfl w2.heap.size 0 _ TLg cs rfl rfl (HK.blk (by simp)) (by have := hl9.out; omega) rfl info_sl ?_; intro w6 T6 K6 S6; clear S6; replace h1 := Lib.hid (h1.out.keep T6 (nq.out _ h.out.blk.lt) (nq.out _ h.out.st.lt.1) (nq.out _ h.out.st.lt.2) (fun k hk => by simp at hk; subst hk; intro e; have := (h.out.ent.lt _ e).2; omega) (fun k hk => by simp at hk; subst hk; intro e; have := (h.out.res.lt _ e).2; omega)); replace hE := Lib.hid (hE.out.turned T6 (fun k hk => by simp at hk; subst hk; exact own_ne_blk hE.out (HK.blk (cs := cs) (T := TLg) (by simp)) (by decide))); replace HK := HK.swap T6 (Nat.le_refl _) (by simp) K6; have d1 := h1.out.c1; clear T6 K6)
    | (go_at_call 26; (with_reducible refine (CR.out _ h1.out).mono ?_); rintro e w7 ⟨vr', rfl, ho, hn⟩; have lo7 := HK.ends.size; replace h1 := Lib.hid (h1.out.below hn); replace HK := HK.below hn; replace hE := Lib.hid (hE.out.below hn); have hR := Lib.hid (ho.lower lo7); obtain ⟨ao7, cp7, hv7, _⟩ := ho.form; clear hn d1 ho lo7; subst hv7)
    | ((with_reducible show wpList _ _ _ (⟨none, .store TRs (.tmp 20) _, _, _, _, _⟩ :: _) _ _); refine wpList_store_cell rfl TRs _ _ rfl w2.heap.size 1 _ TLg _ rfl rfl (HK.blk (List.mem_cons_self)) (by have := hl9.out; simp; omega) rfl info_slR ?_; intro w8 T8 K8 S8; clear S8; replace h1 := Lib.hid (h1.out.keep T8 (nq.out _ h.out.blk.lt) (nq.out _ h.out.st.lt.1) (nq.out _ h.out.st.lt.2) (fun k hk => by simp at hk; subst hk; intro e; have := (h.out.ent.lt _ e).2; omega) (fun k hk => by simp at hk; subst hk; intro e; have := (h.out.res.lt _ e).2; omega)); replace hE := Lib.hid (hE.out.turned T8 (fun k hk => by simp at hk; subst hk; exact own_ne_blk hE.out (HK.blk (List.mem_cons_self)) (by decide))); replace hR := Lib.hid (hR.out.turned T8 (fun k hk => by simp at hk; subst hk; exact own_ne_blk hR.out (HK.blk (List.mem_cons_self)) (by decide))); replace HK := HK.swap T8 (Nat.le_refl _) (by simp) K8; have d8 := h1.out.c8; clear T8 K8)
    | (go_at_call 27; (with_reducible refine (KC.out _ h1.out).mono ?_); rintro e w9 ⟨s', m', rfl, hst, ls, lm, hn⟩; have lo9 := HK.ends.size; replace HK := HK.below hn; replace hE := Lib.hid (hE.out.below hn); replace hR := Lib.hid (hR.out.below hn); replace hst := Lib.hid hst; clear hn d8)
    | ((with_reducible show wpList _ _ _ (⟨none, .store TSp (.tmp 26) _, _, _, _, _⟩ :: _) _ _); refine wpList_store_cell rfl TSp _ _ rfl w2.heap.size 8 _ TLg _ rfl rfl (HK.blk (List.mem_cons_self)) (by have := hl9.out; simp; omega) rfl info_sp ?_; intro w10 T10 K10 S10; clear S10; replace hE := Lib.hid (hE.out.turned T10 (fun k hk => by simp at hk; subst hk; exact own_ne_blk hE.out (HK.blk (List.mem_cons_self)) (by decide))); replace hR := Lib.hid (hR.out.turned T10 (fun k hk => by simp at hk; subst hk; exact own_ne_blk hR.out (HK.blk (List.mem_cons_self)) (by decide))); replace hst := Lib.hid (hst.out.keep T10 (by simp; exact fun e => blk_ne hst.out.blk (HK.blk (List.mem_cons_self)) (by decide) e) (by simp; exact fun e => blk_ne_map (HK.blk (List.mem_cons_self)) hst.out.map e.symm)); replace HK := HK.swap T10 (Nat.le_refl _) (by simp) K10; clear T10))
  go_ret
  refine ⟨_, _, _, s', m', rfl, ⟨?_, hE.out.lower (Nat.zero_le _), hR.out.lower (Nat.zero_le _), hst.out, h.out.good, h.out.many⟩, Nat.le_refl _, by omega, by omega, fun k hk => (hE.out.lt k hk).1, fun k hk => (hR.out.lt k hk).1, HK.ends⟩
  have := K10
  rw [← hcs.out] at this
  exact this
end Go.Proofs.Ytbmepaglhkndpaa.Logs
