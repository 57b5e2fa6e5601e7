/-
  Contracts of the landed log (layer 11): Look, Entries. Conditions: those that each names.
-/
import Derived.Test.YtbmepaglhkndpaaLogW
import Derived.StillTailTactics
namespace Go.Proofs.Ytbmepaglhkndpaa.Logs
open Go.RowKit Go.Proofs.Ytbmepaglhkndpaa.Mem Go.Proofs.Ytbmepaglhkndpaa.Ops Go.Proofs.Ytbmepaglhkndpaa.Kv
set_option maxRecDepth 100000
set_option maxHeartbeats 2000000
theorem below_drew (w : World) : Below w.heap.size w w.drew := ⟨rfl, rfl, rfl, Nat.le_refl _, fun _ _ => rfl⟩
theorem llook_at (w : World) (p : Nat) (ve vr : Value) (s m : Nat) (L : List E) (h : LgAt1 w p ve vr s m L) (key : List UInt8) (hk : key.length ≤ 1000000) : Calls Try.prog 10 #[ptr p, .string ⟨key.toArray⟩] w fun e w' => e = .returned (.agg (Kv.look (store L) key L.length).cells.toArray) ∧ Below w.heap.size w w' := by
  obtain ⟨d, hd, hdr⟩ := row_res
  replace hd := Lib.hid hd
  have LN := Lib.hid (fun (w1 : World) (h1 : LgAt1 w1 p ve vr s m L) => len_at w1 p ve vr s m L h1)
  have LK := Lib.hid (fun (w1 : World) (h1 : LgAt1 w1 p ve vr s m L) => Kv.look_at w1 s m (store L) h1.st key hk L.length)
  have N := Lib.hid (fun (w1 : World) (h1 : LgAt1 w1 p ve vr s m L) => lnone_at w1 p s h1.c8)
  generalize Kv.look (store L) key L.length = R at *
  replace h := Lib.hid h
  go_enter Try.func10, Try.ntmps10
  go_wp2_with (first
    | ((with_reducible show wpList _ _ _ (⟨some 4, .alloc _, _, _, _, _⟩ :: _) _ _); refine wpList_alloc_blk rfl TR rfl _ zero_res ?_; intro w1 hn K1 S1; clear S1; have HK := ((Kept.start w).below hn).add K1; have h1 := Lib.hid (h.out.below hn); clear hn K1)
    | (go_at_call 24; refine (N.out _ h1.out).mono ?_; rintro e w2 ⟨rfl, rfl⟩))
  have h2 := Lib.hid (h1.out.below (below_drew w2))
  have c8 := h2.out.c8
  have HK2 := HK.drew
  refine wp_region_still_tail 7 (by kernel_rfl) (by kernel_rfl) ?_
  simp only [List.take_succ_cons, List.take_zero, List.drop_succ_cons, List.drop_zero]
  repeat still_step
  still_call (LN.out _ h2.out)
  repeat still_step
  try refine wpStill_nil ?_
  change wpList _ _ _ _ _ w2.drew
  generalize w2.drew = wd at *
  go_wp2_with (first
    | (go_at_call 28; refine (LK.out _ h2.out).mono ?_; rintro e w3 ⟨rfl, hn⟩; replace HK2 := HK2.below hn; clear hn)
    | ((with_reducible show wpList _ _ _ (⟨none, .store TR (.tmp 4) _, _, _, _, _⟩ :: _) _ _); refine wpList_store_blk rfl TR _ _ rfl w.heap.size TR zeroR.cells R.cells 4 rfl rfl (HK2.blk (by simp)) rfl (Rs.cellsN _) info_res ?_; intro w5 T5 K5 S5; clear S5))
  refine bodyPost_ret (results_cell1 (b := w.heap.size) (o := 0) (cs := R.cells) Try.results10 rfl K5.rangeAll hd.out hdr info_res) rfl ⟨rfl, HK2.ends.trans (T5.below HK2.ends.size (by simp))⟩
theorem cells_own {α : Type} {K : Kind α} {w : World} {base : Nat} {v : Value} {L : List α} (h : K.Own w base v L) : (v = .slice none 0 0 ∧ L = []) ∨ ∃ g cap, v = .slice (some ⟨g, 0, none⟩) L.length cap ∧ w.rangeAt g 0 (K.row L) := by
  obtain ⟨ao, cap, rfl, _, _, hnil, hat⟩ := h.form
  cases ao with
  | none => obtain ⟨rfl, rfl⟩ := hnil rfl; exact .inl ⟨rfl, rfl⟩
  | some a => obtain ⟨g, rfl, _, _, hr⟩ := hat a rfl; exact .inr ⟨g, cap, rfl, hr⟩
theorem cloneE_any (w : World) (base : Nat) (v : Value) (L : List E) (h : kE.Own w base v L) (hl : L.length ≤ 1000000) : Calls Try.prog 25 #[v] w fun e w' => ∃ v', e = .returned v' ∧ kE.Own w' w.heap.size v' L ∧ Below w.heap.size w w' := by
  obtain ⟨i0, hi, hz0, hz1, hz2⟩ := info_parts info_entry
  rcases cells_own h with ⟨rfl, rfl⟩ | ⟨g, cap, rfl, hr⟩
  · exact (AnyE.slices_Clone_nil Try.cloneN25 0 0 w).mono fun _ _ ⟨he, hw⟩ => by subst he; subst hw; exact ⟨_, rfl, Kind.Own.nil _ _, Below.refl _ _⟩
  · exact (AnyE.slices_Clone Try.cloneN25 i0 _ 7 72 hi hz0 hz1 hz2 rfl (by decide) Try.sizeOf34 g 0 L.length cap (kE.row L) w (kE.row_len L) (by unfold maxLen; omega) (by omega) (fun j u hu => hr j u hu) (kE.row_cell L)).mono fun _ _ ⟨v', he, ho, _, hb⟩ => ⟨v', he, ho, hb⟩
theorem cloneR_any (w : World) (base : Nat) (v : Value) (L : List Rs) (h : kR.Own w base v L) (hl : L.length ≤ 1000000) : Calls Try.prog 26 #[v] w fun e w' => ∃ v', e = .returned v' ∧ kR.Own w' w.heap.size v' L ∧ Below w.heap.size w w' := by
  obtain ⟨i0, hi, hz0, hz1, hz2⟩ := info_parts info_resR
  rcases cells_own h with ⟨rfl, rfl⟩ | ⟨g, cap, rfl, hr⟩
  · exact (AnyE.slices_Clone_nil Try.cloneN26 0 0 w).mono fun _ _ ⟨he, hw⟩ => by subst he; subst hw; exact ⟨_, rfl, Kind.Own.nil _ _, Below.refl _ _⟩
  · exact (AnyE.slices_Clone Try.cloneN26 i0 _ 4 40 hi hz0 hz1 hz2 rfl (by decide) Try.sizeOf38 g 0 L.length cap (kR.row L) w (kR.row_len L) (by unfold maxLen; omega) (by omega) (fun j u hu => hr j u hu) (kR.row_cell L)).mono fun _ _ ⟨v', he, ho, _, hb⟩ => ⟨v', he, ho, hb⟩
theorem entries_at (w : World) (p : Nat) (ve vr : Value) (s m : Nat) (L : List E) (h : LgAt1 w p ve vr s m L) : Calls Try.prog 21 #[ptr p] w fun e w' => ∃ v, e = .returned v ∧ kE.Own w' w.heap.size v L ∧ Below w.heap.size w w' := by
  have c0 := h.c0
  have N := Lib.hid (lnone_at w p s h.c8)
  have CE := Lib.hid (cloneE_any w 0 ve L h.ent (by have := h.many; omega))
  clear h
  go_enter Try.func21, Try.ntmps21
  go_wp2_with (first
    | (go_at_call 24; refine N.out.mono ?_; rintro e w2 ⟨rfl, rfl⟩)
    | (go_at_call 25; refine CE.out.mono ?_; rintro e w3 ⟨v', rfl, ho, hb⟩; replace ho := Lib.hid ho; replace hb := Lib.hid hb))
  go_ret
  exact ⟨_, rfl, ho.out, hb.out⟩
end Go.Proofs.Ytbmepaglhkndpaa.Logs
