/-
  Contracts of the landed log (layer 11): Begins; logs that are none. Conditions: those that each names.
-/
import Derived.Test.YtbmepaglhkndpaaLogY
import Derived.Test.YtbmepaglhkndpaaLogEq
namespace Go.Proofs.Ytbmepaglhkndpaa.Logs
open Go.RowKit Go.Proofs.Ytbmepaglhkndpaa.Mem Go.Proofs.Ytbmepaglhkndpaa.Ops Go.Proofs.Ytbmepaglhkndpaa.Kv
set_option maxRecDepth 100000
set_option maxHeartbeats 2000000
theorem lgAt_drewN {w : World} {p : Nat} {ve vr : Value} {s m : Nat} {L : List E} (h : LgAt1 w p ve vr s m L) (n : Nat) : LgAt1 (w.drewN n) p ve vr s m L := h.below (below_drewN w n)
theorem begins_at (w : World) (p : Nat) (ve vr : Value) (s m : Nat) (L : List E) (h : LgAt1 w p ve vr s m L) (q : Nat) (ve' vr' : Value) (s' m' : Nat) (M : List E) (k : LgAt1 w q ve' vr' s' m' M) (b : Bool) (hb : b = true ↔ L <+: M) :
    Calls Try.prog 16 #[ptr p, ptr q] w fun e w' => e = .returned (.bool b) ∧ Below w.heap.size w w' := by
  have NA := Lib.hid (lnone_at w p s h.c8)
  have NB := Lib.hid (lnone_at w q s' k.c8)
  have LA := Lib.hid (fun n => len_at (w.drewN n) p ve vr s m L (lgAt_drewN h n))
  have LB := Lib.hid (fun n => len_at (w.drewN n) q ve' vr' s' m' M (lgAt_drewN k n))
  have c0 := h.c0
  have d0 := k.c0
  by_cases hl : L.length ≤ M.length
  · have hbb : b = Lib.allEq sameE L (M.take L.length) := by
      rw [Bool.eq_iff_iff, hb, allEq_ents, List.prefix_iff_eq_take]
    have EQ := Lib.hid (fun n => (eqls_any (w.drewN n) ve ve' L M (lgAt_drewN h n).ent (lgAt_drewN k n).ent hl k.many).mono fun e w'' ⟨he, q, hq⟩ => (⟨he, n + q, by rw [hq, World.drewN_drewN]⟩ : e = Ending.returned (.bool (Lib.allEq sameE L (M.take L.length))) ∧ ∃ m, w'' = w.drewN m))
    rw [← hbb] at EQ
    obtain ⟨ao1, c1, rfl, _⟩ := h.ent.form
    obtain ⟨ao2, c2, rfl, hc2, hc3, _⟩ := k.ent.form
    have hi1 : (L.length : Int) ≤ (M.length : Int) := by omega
    have hi2 : (L.length : Int) ≤ (c2 : Int) := by omega
    clear h k hb hbb
    go_enter Try.func16, Try.ntmps16
    go_wp2_with (first
      | (go_at_call 24; (with_reducible refine NA.out.mono ?_); rintro e w2 ⟨rfl, rfl⟩)
      | (go_at_call 24; (with_reducible refine NB.out.mono ?_); rintro e w2 ⟨rfl, rfl⟩))
    go_quiet (first
      | (go_at_call 13; (with_reducible exact Calls.quiet_of_same (LA.out _)))
      | (go_at_call 13; (with_reducible exact Calls.quiet_of_same (LB.out _)))
      | (go_at_call 35; exact EQ.out _))
    go_wp2
    go_ret
    exact ⟨rfl, below_drewN _ _⟩
  · have hbb : b = false := by
      rw [Bool.eq_false_iff]
      exact fun e => hl ((hb.1 e).length_le)
    subst hbb
    have hi1 : decide ((L.length : Int) ≤ (M.length : Int)) = false := by simp; omega
    clear h k hb
    go_enter Try.func16, Try.ntmps16
    go_wp2_with (first
      | (go_at_call 24; (with_reducible refine NA.out.mono ?_); rintro e w2 ⟨rfl, rfl⟩)
      | (go_at_call 24; (with_reducible refine NB.out.mono ?_); rintro e w2 ⟨rfl, rfl⟩))
    go_quiet (first
      | (go_at_call 13; (with_reducible exact Calls.quiet_of_same (LA.out _)))
      | (go_at_call 13; (with_reducible exact Calls.quiet_of_same (LB.out _))))
    go_wp2
    go_ret
    exact ⟨rfl, below_drewN _ _⟩
/-- A log that is nil, or that New did not make. -/
def NoL (w : World) (v : Value) : Prop := v = .pointer none ∨ ∃ p, v = ptr p ∧ Blk w p TLg zeroLg
theorem NoL.below {w w' : World} {v : Value} (h : NoL w v) (hb : Below w.heap.size w w') : NoL w' v := h.imp id (fun ⟨p, e, k⟩ => ⟨p, e, k.below hb k.lt⟩)
theorem nol_nil (w : World) : NoL w (.pointer none) := .inl rfl
theorem nol_zero (w : World) (p : Nat) (h : Blk w p TLg zeroLg) : NoL w (ptr p) := .inr ⟨p, rfl, h⟩
theorem nl_none (w : World) (v : Value) (h : NoL w v) : Calls Try.prog 24 #[v] w fun e w' => e = .returned (.bool true) ∧ w' = w := by
  rcases h with rfl | ⟨p, rfl, h⟩
  · go_enter Try.func24, Try.ntmps24
    go_wp2_with fail
    go_ret
    exact ⟨rfl, rfl⟩
  · have c8 : w.cell? ⟨p, 8, none⟩ = some (.pointer none) := h.cell 8
    go_enter Try.func24, Try.ntmps24
    go_wp2_with fail
    go_ret
    exact ⟨rfl, rfl⟩
theorem nl_len1 (w : World) (v : Value) (h : NoL w v) : Calls Try.prog 13 #[v] w fun e w' => e = .returned (.int .i64 0) ∧ w' = w := by
  have N := Lib.hid (nl_none w v h)
  clear h
  go_enter Try.func13, Try.ntmps13
  go_wp2_with (go_at_call 24; refine N.out.mono ?_; rintro e w2 ⟨rfl, rfl⟩)
  go_ret
  exact ⟨rfl, rfl⟩
theorem nl_len (w : World) (v : Value) (h : NoL w v) : Calls Try.prog 13 #[v] w fun e w' => e = .returned (.int .i64 0) ∧ Below w.heap.size w w' :=
  (nl_len1 w v h).mono fun _ _ ⟨he, hw⟩ => ⟨he, by subst hw; exact Below.refl _ _⟩
theorem nl_has (w : World) (v : Value) (h : NoL w v) (i : Int) : Calls Try.prog 36 #[v, .int .i64 i] w fun e w' => e = .returned (.bool false) ∧ w' = w := by
  have LN := Lib.hid (nl_len1 w v h)
  clear h
  by_cases h1 : 1 ≤ i
  · have h2 : ¬ i ≤ 0 := by omega
    go_enter Try.func36, Try.ntmps36
    go_wp2_with (go_at_call 13; refine LN.out.mono ?_; rintro e w2 ⟨rfl, rfl⟩)
    go_ret
    exact ⟨ret_bool (decide_eq_false (by omega)), rfl⟩
  · go_enter Try.func36, Try.ntmps36
    go_wp2_with fail
    go_ret
    exact ⟨rfl, rfl⟩
theorem nl_at (w : World) (v : Value) (h : NoL w v) (i : Int) : Calls Try.prog 18 #[v, .int .i64 i] w fun e w' => e = .returned (.tuple #[.agg zeroE.cells.toArray, .bool false]) ∧ Below w.heap.size w w' := by
  obtain ⟨d, hd, hdr⟩ := row_entry
  replace hd := Lib.hid hd
  have HA := Lib.hid (fun (w1 : World) (h1 : NoL w1 v) => nl_has w1 v h1 i)
  replace h := Lib.hid h
  go_enter Try.func18, Try.ntmps18
  go_wp2_with (first
    | ((with_reducible show wpList _ _ _ (⟨some 4, .alloc _, _, _, _, _⟩ :: _) _ _); refine wpList_alloc_blk rfl TEn rfl _ zero_entry ?_; intro w1 hn K1 S1; clear S1; have HK := ((Kept.start w).below hn).add K1; have h1 := Lib.hid (h.out.below hn); clear hn K1)
    | (go_at_call 36; refine (HA.out _ h1.out).mono ?_; rintro e w2 ⟨rfl, rfl⟩)
    | ((with_reducible show wpList _ _ _ (⟨none, .store TEn (.tmp 4) _, _, _, _, _⟩ :: _) _ _); refine wpList_store_blk rfl TEn _ _ rfl w.heap.size TEn zeroE.cells zeroE.cells 7 rfl rfl (HK.blk (by simp)) rfl (E.cellsN _) info_entryN ?_; intro w5 T5 K5 S5; clear S5))
  refine bodyPost_ret (results_cell2 (b := w.heap.size) (o := 0) (cs := zeroE.cells) Try.results18 rfl K5.rangeAll hd.out hdr info_entryN) rfl ⟨rfl, HK.ends.trans (T5.below HK.ends.size (by simp))⟩
theorem nl_result (w : World) (v : Value) (h : NoL w v) (i : Int) : Calls Try.prog 19 #[v, .int .i64 i] w fun e w' => e = .returned (.tuple #[.agg zeroR.cells.toArray, .bool false]) ∧ Below w.heap.size w w' := by
  obtain ⟨d, hd, hdr⟩ := row_res
  replace hd := Lib.hid hd
  have HA := Lib.hid (fun (w1 : World) (h1 : NoL w1 v) => nl_has w1 v h1 i)
  replace h := Lib.hid h
  go_enter Try.func19, Try.ntmps19
  go_wp2_with (first
    | ((with_reducible show wpList _ _ _ (⟨some 4, .alloc _, _, _, _, _⟩ :: _) _ _); refine wpList_alloc_blk rfl TR rfl _ zero_res ?_; intro w1 hn K1 S1; clear S1; have HK := ((Kept.start w).below hn).add K1; have h1 := Lib.hid (h.out.below hn); clear hn K1)
    | (go_at_call 36; refine (HA.out _ h1.out).mono ?_; rintro e w2 ⟨rfl, rfl⟩)
    | ((with_reducible show wpList _ _ _ (⟨none, .store TR (.tmp 4) _, _, _, _, _⟩ :: _) _ _); refine wpList_store_blk rfl TR _ _ rfl w.heap.size TR zeroR.cells zeroR.cells 4 rfl rfl (HK.blk (by simp)) rfl (Rs.cellsN _) info_res ?_; intro w5 T5 K5 S5; clear S5))
  refine bodyPost_ret (results_cell2 (b := w.heap.size) (o := 0) (cs := zeroR.cells) Try.results19 rfl K5.rangeAll hd.out hdr info_res) rfl ⟨rfl, HK.ends.trans (T5.below HK.ends.size (by simp))⟩
theorem nl_entries (w : World) (v : Value) (h : NoL w v) : Calls Try.prog 21 #[v] w fun e w' => (∃ ao cap, e = .returned (.slice ao 0 cap)) ∧ Below w.heap.size w w' := by
  have N := Lib.hid (nl_none w v h)
  clear h
  go_enter Try.func21, Try.ntmps21
  go_wp2_with (go_at_call 24; refine N.out.mono ?_; rintro e w2 ⟨rfl, rfl⟩)
  go_ret
  exact ⟨⟨none, 0, rfl⟩, Below.refl _ _⟩
theorem nl_last1 (w : World) (v : Value) (h : NoL w v) (c : Int) : Calls Try.prog 20 #[v, .int .i64 c] w fun e w' => e = .returned (.tuple #[.int .i64 0, .int .i64 0]) ∧ w' = w := by
  have N := Lib.hid (nl_none w v h)
  clear h
  go_enter Try.func20, Try.ntmps20
  go_wp2_with (go_at_call 24; refine N.out.mono ?_; rintro e w2 ⟨rfl, rfl⟩)
  go_ret2
  exact ⟨rfl, rfl⟩
theorem nl_last (w : World) (v : Value) (h : NoL w v) (c : Int) : Calls Try.prog 20 #[v, .int .i64 c] w fun e w' => e = .returned (.tuple #[.int .i64 0, .int .i64 0]) ∧ Below w.heap.size w w' :=
  (nl_last1 w v h c).mono fun _ _ ⟨he, hw⟩ => ⟨he, by subst hw; exact Below.refl _ _⟩
theorem nl_look (w : World) (v : Value) (h : NoL w v) (key : List UInt8) : Calls Try.prog 10 #[v, .string ⟨key.toArray⟩] w fun e w' => e = .returned (.agg zeroR.cells.toArray) ∧ Below w.heap.size w w' := by
  obtain ⟨d, hd, hdr⟩ := row_res
  replace hd := Lib.hid hd
  have N := Lib.hid (fun (w1 : World) (h1 : NoL w1 v) => nl_none w1 v h1)
  replace h := Lib.hid h
  go_enter Try.func10, Try.ntmps10
  go_wp2_with (first
    | ((with_reducible show wpList _ _ _ (⟨some 4, .alloc _, _, _, _, _⟩ :: _) _ _); refine wpList_alloc_blk rfl TR rfl _ zero_res ?_; intro w1 hn K1 S1; clear S1; have HK := ((Kept.start w).below hn).add K1; have h1 := Lib.hid (h.out.below hn); clear hn K1)
    | (go_at_call 24; refine (N.out _ h1.out).mono ?_; rintro e w2 ⟨rfl, rfl⟩)
    | ((with_reducible show wpList _ _ _ (⟨none, .store TR (.tmp 4) _, _, _, _, _⟩ :: _) _ _); refine wpList_store_blk rfl TR _ _ rfl w.heap.size TR zeroR.cells zeroR.cells 4 rfl rfl (HK.blk (by simp)) rfl (Rs.cellsN _) info_res ?_; intro w5 T5 K5 S5; clear S5))
  refine bodyPost_ret (results_cell1 (b := w.heap.size) (o := 0) (cs := zeroR.cells) Try.results10 rfl K5.rangeAll hd.out hdr info_res) rfl ⟨rfl, HK.ends.trans (T5.below HK.ends.size (by simp))⟩
theorem nl_copy (w : World) (v : Value) (h : NoL w v) : Calls Try.prog 9 #[v] w fun e w' => e = .returned (.pointer none) ∧ Below w.heap.size w w' := by
  have N := Lib.hid (nl_none w v h)
  clear h
  go_enter Try.func9, Try.ntmps9
  go_wp2_with (go_at_call 24; refine N.out.mono ?_; rintro e w2 ⟨rfl, rfl⟩)
  go_ret
  exact ⟨rfl, Below.refl _ _⟩
theorem nl_refuses (w : World) (v : Value) (h : NoL w v) (y : E) : Calls Try.prog 31 #[v, .agg y.cells.toArray] w fun e w' => e = .returned (.int .i64 1) ∧ Below w.heap.size w w' := by
  have N := Lib.hid (fun (w1 : World) (h1 : NoL w1 v) => nl_none w1 v h1)
  have LA := Lib.hid (fun (w1 : World) (h1 : NoL w1 v) => nl_last1 w1 v h1 y.client)
  replace h := Lib.hid h
  go_enter Try.func31, Try.ntmps31
  go_wp2_with (first
    | ((with_reducible show wpList _ _ _ (⟨_, .box _ _, _, _, _, _⟩ :: _) _ _); refine wpList_box_blk rfl TEn _ rfl y.cells rfl ?_; intro w1 hn K1 S1; clear S1; have hL := Lib.hid (h.out.below hn); have hB := hn; have q1 := K1.cell 1; replace q1 : w1.cell? ⟨w.heap.size, 1, none⟩ = some (.int .i64 y.client) := q1; clear K1 hn)
    | (go_at_call 20; (with_reducible refine (LA.out _ hL.out).mono ?_); rintro e w3 ⟨rfl, rfl⟩)
    | (go_at_call 24; (with_reducible refine (N.out _ hL.out).mono ?_); rintro e w4 ⟨rfl, rfl⟩))
  go_ret
  exact ⟨rfl, hB⟩
theorem nl_append (w : World) (v : Value) (h : NoL w v) (y : E) : Calls Try.prog 12 #[v, .agg y.cells.toArray] w fun e w' => e = .returned (.tuple #[.agg zeroR.cells.toArray, .int .i64 1]) ∧ Below w.heap.size w w' := by
  obtain ⟨d, hd, hdr⟩ := row_res
  replace hd := Lib.hid hd
  obtain ⟨d1, hd1, hdr1⟩ := row_entry
  replace hd1 := Lib.hid hd1
  have RF := Lib.hid (fun (w1 : World) (h1 : NoL w1 v) => nl_refuses w1 v h1 y)
  replace h := Lib.hid h
  go_enter Try.func12, Try.ntmps12
  go_wp2_with (first
    | ((with_reducible show wpList _ _ _ (⟨some 3, .box _ _, _, _, _, _⟩ :: _) _ _); refine wpList_box_blk rfl TEn _ rfl y.cells rfl ?_; intro w1 hn K1 S1; clear S1; have HK := ((Kept.start w).below hn).add K1; have h1 := Lib.hid (h.out.below hn); clear hn K1)
    | ((with_reducible show wpList _ _ _ (⟨some 4, .alloc _, _, _, _, _⟩ :: _) _ _); refine wpList_alloc_blk rfl TR rfl _ zero_res ?_; intro w2 hn K2 S2; clear S2; have lo := HK.ends.size; replace h1 := Lib.hid (h1.out.below hn); replace HK := (HK.below hn).add K2; clear hn K2; generalize w1.heap.size = b4 at *)
    | ((with_reducible show wpList _ _ _ (⟨some 7, .load TEn _, _, _, _, _⟩ :: _) _ _); refine wpList_load_mid rfl TEn _ rfl w.heap.size 0 rfl y.cells d1 (HK.blk (cs := y.cells) (T := TEn) (by simp)).rangeAll hd1.out hdr1 info_entryN ?_)
    | (go_at_call 31; (with_reducible refine (RF.out _ h1.out).mono ?_); rintro e w3 ⟨rfl, hn⟩; replace HK := HK.below hn; clear hn)
    | ((with_reducible show wpList _ _ _ (⟨none, .store TR (.tmp 4) _, _, _, _, _⟩ :: _) _ _); refine wpList_store_blk rfl TR _ _ rfl b4 TR zeroR.cells zeroR.cells 4 rfl rfl (HK.blk (by simp)) rfl (Rs.cellsN _) info_res ?_; intro w9 T9 K9 S9; clear S9))
  refine bodyPost_ret (results_cell2 (b := b4) (o := 0) (cs := zeroR.cells) Try.results12 rfl K9.rangeAll hd.out hdr info_res) rfl ⟨rfl, HK.ends.trans (T9.below HK.ends.size (by simp; omega))⟩
theorem nl_begins_nn (w : World) (v u : Value) (h : NoL w v) (k : NoL w u) : Calls Try.prog 16 #[v, u] w fun e w' => e = .returned (.bool true) ∧ Below w.heap.size w w' := by
  have N := Lib.hid (nl_none w v h)
  have M := Lib.hid (nl_none w u k)
  clear h k
  go_enter Try.func16, Try.ntmps16
  go_wp2_with (first
    | (go_at_call 24; (with_reducible refine N.out.mono ?_); rintro e w2 ⟨rfl, rfl⟩)
    | (go_at_call 24; (with_reducible refine M.out.mono ?_); rintro e w2 ⟨rfl, rfl⟩))
  go_ret
  exact ⟨rfl, Below.refl _ _⟩
theorem nl_begins_n1' (w : World) (v : Value) (h : NoL w v) (p : Nat) (ve vr : Value) (s m : Nat) (L : List E) (k : LgAt1 w p ve vr s m L) : Calls Try.prog 16 #[v, ptr p] w fun e w' => e = .returned (.bool false) ∧ Below w.heap.size w w' := by
  have N := Lib.hid (nl_none w v h)
  have M := Lib.hid (lnone_at w p s k.c8)
  clear h k
  go_enter Try.func16, Try.ntmps16
  go_wp2_with (first
    | (go_at_call 24; (with_reducible refine N.out.mono ?_); rintro e w2 ⟨rfl, rfl⟩)
    | (go_at_call 24; (with_reducible refine M.out.mono ?_); rintro e w2 ⟨rfl, rfl⟩))
  go_ret
  exact ⟨rfl, Below.refl _ _⟩
theorem nl_begins_1n' (w : World) (v : Value) (h : NoL w v) (p : Nat) (ve vr : Value) (s m : Nat) (L : List E) (k : LgAt1 w p ve vr s m L) : Calls Try.prog 16 #[ptr p, v] w fun e w' => e = .returned (.bool false) ∧ Below w.heap.size w w' := by
  have N := Lib.hid (nl_none w v h)
  have M := Lib.hid (lnone_at w p s k.c8)
  clear h k
  go_enter Try.func16, Try.ntmps16
  go_wp2_with (first
    | (go_at_call 24; (with_reducible refine N.out.mono ?_); rintro e w2 ⟨rfl, rfl⟩)
    | (go_at_call 24; (with_reducible refine M.out.mono ?_); rintro e w2 ⟨rfl, rfl⟩))
  go_ret
  exact ⟨rfl, Below.refl _ _⟩
end Go.Proofs.Ytbmepaglhkndpaa.Logs
