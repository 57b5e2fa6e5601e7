/-
  Contracts of the landed log (layer 11): At, Result, Last, Look, Entries. Conditions: those that each names.
-/
import Derived.Test.YtbmepaglhkndpaaLogU
import Derived.BigQuiet
import Derived.StillTailTactics
namespace Go.Proofs.Ytbmepaglhkndpaa.Logs
open Go.RowKit Go.Proofs.Ytbmepaglhkndpaa.Mem Go.Proofs.Ytbmepaglhkndpaa.Ops Go.Proofs.Ytbmepaglhkndpaa.Kv
set_option maxRecDepth 100000
set_option maxHeartbeats 2000000
theorem inL_ent {L : List E} {i : Int} (h : inL L i = true) : ∃ (k : Nat) (e : E), i = (k : Int) + 1 ∧ k < L.length ∧ L[k]? = some e ∧ entAt L i = e := by
  have h' := h
  unfold inL at h
  simp only [Bool.and_eq_true, decide_eq_true_eq] at h
  obtain ⟨k, hk⟩ := Int.eq_ofNat_of_zero_le (show 0 ≤ i - 1 by omega)
  have hl : k < L.length := by omega
  refine ⟨k, L[k], by omega, hl, List.getElem?_eq_getElem hl, ?_⟩
  unfold entAt
  rw [if_pos h', hk]
  simp [List.getElem?_eq_getElem hl]
theorem inL_res {L : List E} {i : Int} (h : inL L i = true) : ∃ (k : Nat) (r : Rs), i = (k : Int) + 1 ∧ k < L.length ∧ (results L)[k]? = some r ∧ resAt L i = r := by
  have h' := h
  unfold inL at h
  simp only [Bool.and_eq_true, decide_eq_true_eq] at h
  obtain ⟨k, hk⟩ := Int.eq_ofNat_of_zero_le (show 0 ≤ i - 1 by omega)
  have hl : k < (results L).length := by rw [results_len]; omega
  refine ⟨k, (results L)[k], by omega, by omega, List.getElem?_eq_getElem hl, ?_⟩
  unfold resAt
  rw [if_pos h', hk]
  simp [List.getElem?_eq_getElem hl]
theorem at_at (w : World) (p : Nat) (ve vr : Value) (s m : Nat) (L : List E) (h : LgAt1 w p ve vr s m L) (i : Int) : Calls Try.prog 18 #[ptr p, .int .i64 i] w fun e w' => e = .returned (.tuple #[.agg (entAt L i).cells.toArray, .bool (inL L i)]) ∧ Below w.heap.size w w' := by
  obtain ⟨d, hd, hdr⟩ := row_entry
  replace hd := Lib.hid hd
  have HA := Lib.hid (fun (w1 : World) (h1 : LgAt1 w1 p ve vr s m L) => has_at w1 p ve vr s m L h1 i)
  cases hi : inL L i with
  | false =>
    have he : entAt L i = zeroE := by unfold entAt; rw [hi]; rfl
    rw [he]
    rw [hi] at HA
    replace h := Lib.hid h
    clear he hi
    go_enter Try.func18, Try.ntmps18
    go_wp2_with (first
      | ((with_reducible show wpList _ _ _ (⟨some 4, .alloc _, _, _, _, _⟩ :: _) _ _); refine wpList_alloc_blk rfl TEn rfl _ zero_entry ?_; intro w1 hn K1 S1; clear S1; have HK := ((Kept.start w).below hn).add K1; have h1 := Lib.hid (h.out.below hn); clear hn K1)
      | (go_at_call 36; refine (HA.out _ h1.out).mono ?_; rintro e w2 ⟨rfl, rfl⟩)
      | ((with_reducible show wpList _ _ _ (⟨none, .store TEn (.tmp 4) _, _, _, _, _⟩ :: _) _ _); refine wpList_store_blk rfl TEn _ _ rfl w.heap.size TEn zeroE.cells zeroE.cells 7 rfl rfl (HK.blk (by simp)) rfl (E.cellsN _) info_entryN ?_; intro w5 T5 K5 S5; clear S5))
    refine bodyPost_ret (results_cell2 (b := w.heap.size) (o := 0) (cs := zeroE.cells) Try.results18 rfl K5.rangeAll hd.out hdr info_entryN) rfl ⟨rfl, HK.ends.trans (T5.below HK.ends.size (by simp))⟩
  | true =>
    rw [hi] at HA
    obtain ⟨k, e, rfl, hk, hL, he⟩ := inL_ent hi
    rw [he]
    obtain ⟨g, cap, hv, hg1, hg2, hr⟩ := h.ent.at hL
    subst hv
    replace h := Lib.hid h
    replace hr := Lib.hid hr
    have hk2 : (k : Int) < (L.length : Int) := by omega
    have hk3 : (L.length : Int) ≤ 4096 := by have := h.out.many; omega
    clear he hi hL
    go_enter Try.func18, Try.ntmps18
    go_wp2_with (first
      | ((with_reducible show wpList _ _ _ (⟨some 4, .alloc _, _, _, _, _⟩ :: _) _ _); refine wpList_alloc_blk rfl TEn rfl _ zero_entry ?_; intro w1 hn K1 S1; clear S1; have HK := ((Kept.start w).below hn).add K1; have h1 := Lib.hid (h.out.below hn); have c0 := h1.out.c0; have hr1 := Lib.hid (rangeAt_below hr.out hn (fun _ => hg2)); clear hn K1)
      | (go_at_call 36; refine (HA.out _ h1.out).mono ?_; rintro e2 w2 ⟨rfl, rfl⟩)
      | ((with_reducible show wpList _ _ _ (⟨some 18, .load TEn _, _, _, _, _⟩ :: _) _ _); refine wpList_load_mid rfl TEn _ rfl g (k * 7) rfl e.cells d hr1.out hd.out hdr info_entryN ?_)
      | ((with_reducible show wpList _ _ _ (⟨none, .store TEn (.tmp 4) _, _, _, _, _⟩ :: _) _ _); refine wpList_store_blk rfl TEn _ _ rfl w.heap.size TEn zeroE.cells e.cells 7 rfl rfl (HK.blk (by simp)) rfl (E.cellsN _) info_entryN ?_; intro w5 T5 K5 S5; clear S5))
    refine bodyPost_ret (results_cell2 (b := w.heap.size) (o := 0) (cs := e.cells) Try.results18 rfl K5.rangeAll hd.out hdr info_entryN) rfl ⟨rfl, HK.ends.trans (T5.below HK.ends.size (by simp))⟩
theorem result_at (w : World) (p : Nat) (ve vr : Value) (s m : Nat) (L : List E) (h : LgAt1 w p ve vr s m L) (i : Int) : Calls Try.prog 19 #[ptr p, .int .i64 i] w fun e w' => e = .returned (.tuple #[.agg (resAt L i).cells.toArray, .bool (inL L i)]) ∧ Below w.heap.size w w' := by
  obtain ⟨d, hd, hdr⟩ := row_res
  replace hd := Lib.hid hd
  have HA := Lib.hid (fun (w1 : World) (h1 : LgAt1 w1 p ve vr s m L) => has_at w1 p ve vr s m L h1 i)
  cases hi : inL L i with
  | false =>
    have he : resAt L i = zeroR := by unfold resAt; rw [hi]; rfl
    rw [he]
    rw [hi] at HA
    replace h := Lib.hid h
    clear he hi
    go_enter Try.func19, Try.ntmps19
    go_wp2_with (first
      | ((with_reducible show wpList _ _ _ (⟨some 4, .alloc _, _, _, _, _⟩ :: _) _ _); refine wpList_alloc_blk rfl TR rfl _ zero_res ?_; intro w1 hn K1 S1; clear S1; have HK := ((Kept.start w).below hn).add K1; have h1 := Lib.hid (h.out.below hn); clear hn K1)
      | (go_at_call 36; refine (HA.out _ h1.out).mono ?_; rintro e w2 ⟨rfl, rfl⟩)
      | ((with_reducible show wpList _ _ _ (⟨none, .store TR (.tmp 4) _, _, _, _, _⟩ :: _) _ _); refine wpList_store_blk rfl TR _ _ rfl w.heap.size TR zeroR.cells zeroR.cells 4 rfl rfl (HK.blk (by simp)) rfl (Rs.cellsN _) info_res ?_; intro w5 T5 K5 S5; clear S5))
    refine bodyPost_ret (results_cell2 (b := w.heap.size) (o := 0) (cs := zeroR.cells) Try.results19 rfl K5.rangeAll hd.out hdr info_res) rfl ⟨rfl, HK.ends.trans (T5.below HK.ends.size (by simp))⟩
  | true =>
    rw [hi] at HA
    obtain ⟨k, e, rfl, hk, hL, he⟩ := inL_res hi
    rw [he]
    obtain ⟨g, cap, hv, hg1, hg2, hr⟩ := h.res.at hL
    have hv' := hv
    rw [results_len] at hv
    subst hv
    clear hv'
    replace h := Lib.hid h
    replace hr := Lib.hid hr
    have hk2 : (k : Int) < (L.length : Int) := by omega
    have hk3 : (L.length : Int) ≤ 4096 := by have := h.out.many; omega
    clear he hi hL
    go_enter Try.func19, Try.ntmps19
    go_wp2_with (first
      | ((with_reducible show wpList _ _ _ (⟨some 4, .alloc _, _, _, _, _⟩ :: _) _ _); refine wpList_alloc_blk rfl TR rfl _ zero_res ?_; intro w1 hn K1 S1; clear S1; have HK := ((Kept.start w).below hn).add K1; have h1 := Lib.hid (h.out.below hn); have c1 := h1.out.c1; have hr1 := Lib.hid (rangeAt_below hr.out hn (fun _ => hg2)); clear hn K1)
      | (go_at_call 36; refine (HA.out _ h1.out).mono ?_; rintro e2 w2 ⟨rfl, rfl⟩)
      | ((with_reducible show wpList _ _ _ (⟨some 18, .load TR _, _, _, _, _⟩ :: _) _ _); refine wpList_load_mid rfl TR _ rfl g (k * 4) rfl e.cells d hr1.out hd.out hdr info_res ?_)
      | ((with_reducible show wpList _ _ _ (⟨none, .store TR (.tmp 4) _, _, _, _, _⟩ :: _) _ _); refine wpList_store_blk rfl TR _ _ rfl w.heap.size TR zeroR.cells e.cells 4 rfl rfl (HK.blk (by simp)) rfl (Rs.cellsN _) info_res ?_; intro w5 T5 K5 S5; clear S5))
    refine bodyPost_ret (results_cell2 (b := w.heap.size) (o := 0) (cs := e.cells) Try.results19 rfl K5.rangeAll hd.out hdr info_res) rfl ⟨rfl, HK.ends.trans (T5.below HK.ends.size (by simp))⟩
theorem lastN_ways (L : List E) (c : Int) : ∀ k, k ≤ L.length → lastN L k c = (0, 0) ∨ ∃ (i : Nat) (e : E), L[i]? = some e ∧ e.client = c ∧ lastN L k c = (e.seq, (i : Int) + 1)
  | 0, _ => .inl rfl
  | k + 1, h => by
    have he : L[k]? = some L[k] := List.getElem?_eq_getElem (by omega)
    by_cases hc : L[k].client = c
    · exact .inr ⟨k, _, he, hc, lastN_hit he hc⟩
    · rw [lastN_miss he hc]
      exact lastN_ways L c k (by omega)
theorem last_ent {L : List E} (h : Valid L) (c : Int) : (entAt L (last L c).2).seq = (last L c).1 ∧ (entAt L (last L c).2).index = (last L c).2 := by
  rcases lastN_ways L c L.length (Nat.le_refl _) with e | ⟨i, e, hi, hc, hl⟩
  · have e : last L c = (0, 0) := e
    rw [e]
    exact ⟨rfl, rfl⟩
  · have hl : last L c = (e.seq, (i : Int) + 1) := hl
    have hlt := (List.getElem?_eq_some_iff.1 hi).1
    have hin : inL L ((i : Int) + 1) = true := inL_yes (by omega) (by omega)
    have : entAt L ((i : Int) + 1) = e := by unfold entAt; rw [if_pos hin]; simp [hi]
    rw [hl]
    simp only
    rw [this]
    exact ⟨rfl, (h i e hi).1⟩
theorem last_none {L : List E} (h : Valid L) {c : Int} (hc : ¬ (0 ≤ c ∧ c ≤ 5)) : last L c = (0, 0) := by
  rcases lastN_ways L c L.length (Nat.le_refl _) with e | ⟨i, e, hi, hc', _⟩
  · exact e
  · have := h i e hi
    omega
theorem last_at (w : World) (p : Nat) (ve vr : Value) (s m : Nat) (L : List E) (h : LgAt1 w p ve vr s m L) (c : Int) : Calls Try.prog 20 #[ptr p, .int .i64 c] w fun e w' => e = .returned (.tuple #[.int .i64 (last L c).1, .int .i64 (last L c).2]) ∧ Below w.heap.size w w' := by
  have N := Lib.hid (lnone_at w p s h.c8)
  have KN := Lib.hid (known_any c w)
  by_cases hc : 0 ≤ c ∧ c ≤ 5
  · have hk : kn c = true := by unfold kn; simp [hc]
    rw [hk] at KN
    obtain ⟨k, rfl⟩ := Int.eq_ofNat_of_zero_le hc.1
    have hk5 : k < 6 := by omega
    have hk6 : (k : Int) < 6 := by omega
    have ck : w.cell? ⟨p, 2 + k, none⟩ = some (.int .i64 (lasts L k)) := (h.blk.cell (2 + k)).trans (lgC_last _ _ _ _ k hk5)
    have AT := Lib.hid (at_at w p ve vr s m L h (lasts L k))
    have hl : (entAt L (lasts L k)).seq = (last L (k : Int)).1 ∧ (entAt L (lasts L k)).index = (last L (k : Int)).2 := last_ent h.good _
    rw [← hl.1, ← hl.2]
    generalize lasts L k = n at *
    generalize entAt L n = y at *
    replace h := Lib.hid h
    clear hk hl hc
    go_enter Try.func20, Try.ntmps20
    go_wp2_with (first
      | (go_at_call 24; refine N.out.mono ?_; rintro e w2 ⟨rfl, rfl⟩)
      | (go_at_call 37; refine KN.out.mono ?_; rintro e w3 ⟨rfl, rfl⟩)
      | (go_at_call 18; refine AT.out.mono ?_; rintro e w4 ⟨rfl, hn⟩; have HK := (Kept.start _).below hn; clear hn)
      | ((with_reducible show wpList _ _ _ (⟨some 6, .alloc _, _, _, _, _⟩ :: _) _ _); refine wpList_alloc_blk rfl TEn rfl _ zero_entry ?_; intro w1 hn K1 S1; clear S1; have lo := HK.ends.size; replace HK := (HK.below hn).add K1; clear hn K1; generalize w4.heap.size = b6 at *)
      | ((with_reducible show wpList _ _ _ (⟨none, .store TEn (.tmp 6) _, _, _, _, _⟩ :: _) _ _); refine wpList_store_blk rfl TEn _ _ rfl b6 TEn zeroE.cells y.cells 7 rfl rfl (HK.blk (by simp)) rfl (E.cellsN _) info_entryN ?_; intro w5 T5 K5 S5; clear S5; replace HK := HK.swap T5 (by omega) (by simp) K5; have q0 := K5.cell 0; have q2 := K5.cell 2; replace q0 : w5.cell? ⟨b6, 0, none⟩ = some (.int .i64 y.index) := q0; replace q2 : w5.cell? ⟨b6, 2, none⟩ = some (.int .i64 y.seq) := q2; clear T5 K5))
    go_quiet (fail)
    go_wp2
    go_ret2
    exact ⟨rfl, HK.ends.trans ⟨rfl, rfl, rfl, Nat.le_refl _, fun _ _ => rfl⟩⟩
  · have hk : kn c = false := by unfold kn; simp; omega
    rw [hk] at KN
    rw [last_none h.good hc]
    clear hk hc h
    go_enter Try.func20, Try.ntmps20
    go_wp2_with (first
      | (go_at_call 24; refine N.out.mono ?_; rintro e w2 ⟨rfl, rfl⟩)
      | (go_at_call 37; refine KN.out.mono ?_; rintro e w3 ⟨rfl, rfl⟩))
    go_ret2
    exact ⟨rfl, Below.refl _ _⟩
end Go.Proofs.Ytbmepaglhkndpaa.Logs
