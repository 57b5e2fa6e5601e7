/-
  Acts on logs as arguments of a law; contracts of Great and next of fairwaylaw11. Conditions: those that each names.
-/
import Derived.Test.YtbmepaglhkndpaaLogR
import Derived.Test.YtbmepaglhkndpaaOpsG
import Derived.Test.YtbmepaglhkndpaaCell
import Derived.Deep.LoopGhost
namespace Go.Proofs.Ytbmepaglhkndpaa.Logs
open Go.RowKit Go.Proofs.Ytbmepaglhkndpaa.Mem Go.Proofs.Ytbmepaglhkndpaa.Ops Go.Proofs.Ytbmepaglhkndpaa.Kv

abbrev TA : TypeId := 36
/-- An act. -/
structure A where
  kind : Int
  ent : E
def A.cells (a : A) : List Value := .int .u8 a.kind :: a.ent.cells
def entTy : Ty := .pair (.int .i64) (.pair (.int .i64) (.pair (.int .i64) (.pair opTy .unit)))
def actTy : Ty := .pair (.int .u8) (.pair entTy .unit)
def A.next (a : A) (many : Int) : E := if a.kind % 9 < 6 then { a.ent with index := many + 1 } else a.ent
theorem A.cellsN (a : A) : CellsN 8 a.cells.toArray := ⟨rfl, all_oneCell_toArray (by simp [A.cells, E.cells, O.cells, Value.oneCell'])⟩
theorem zero_act : ∀ w, (zeroValue TA).run Try.prog w = .ok (.agg (A.mk 0 zeroE).cells.toArray) w := fun w => by kernel_rfl
theorem info_actN : (Try.prog.info? TA).map (·.size) = some 8 := by kernel_rfl
theorem row_act : ∃ d, Try.prog.underlying TA = some d ∧ d.isRow = true := ⟨_, Try.underlying36, rfl⟩
theorem act_fits {w : World} {cs : List Value} (f : Fits w actTy cs) : ∃ a : A, cs = a.cells ∧ (0 ≤ a.kind ∧ a.kind ≤ 255) := by
  obtain ⟨_, _, rfl, ⟨a, rfl, ha⟩, _, _, rfl, ⟨_, _, rfl, ⟨b, rfl, _⟩, _, _, rfl, ⟨c, rfl, _⟩, _, _, rfl, ⟨d, rfl, _⟩, _, _, rfl, ho, rfl⟩, rfl⟩ := f
  obtain ⟨o, rfl⟩ := op_fits ho
  exact ⟨⟨a, b, c, d, o⟩, by simp [A.cells, E.cells], by have := bounds_u8 ha; simp; omega⟩
/-- The acts g 0, g 1 .. lie in a slice. -/
def ActsAt (w : World) (ao : Option Addr) (ln : Nat) (g : Nat → A) : Prop := ∀ i, i < ln → ∃ b off, ao = some ⟨b, off, none⟩ ∧ b < w.heap.size ∧ w.rangeAt b (off + i * 8) (g i).cells
theorem acts_fits {w : World} {ao : Option Addr} {ln cp : Nat} (f : Fits w (.slice actTy) [.slice ao ln cp]) : ln ≤ cp ∧ (cp : Int) ≤ 9223372036854775807 ∧ ∃ g : Nat → A, ActsAt w ao ln g ∧ ∀ i, i < ln → 0 ≤ (g i).kind ∧ (g i).kind ≤ 255 := by
  rcases f with f | ⟨a, len, cap, f, h1, h2, h3⟩
  · simp at f
    obtain ⟨rfl, rfl, rfl⟩ := f
    exact ⟨Nat.le_refl _, by omega, fun _ => ⟨0, zeroE⟩, (fun i hi => by omega), fun i hi => by omega⟩
  · simp at f
    obtain ⟨rfl, rfl, rfl⟩ := f
    have hex : ∀ i, i < ln → ∃ x : A, (∃ b off, some a = some ⟨b, off, none⟩ ∧ b < w.heap.size ∧ w.rangeAt b (off + i * 8) x.cells) ∧ 0 ≤ x.kind ∧ x.kind ≤ 255 := by
      intro i hi
      obtain ⟨b, o, sp⟩ := a
      obtain ⟨hs, es, hl, hr, hf⟩ := h3 i hi
      simp only at hs hr
      subst hs
      obtain ⟨x, rfl, hx⟩ := act_fits hf
      exact ⟨x, ⟨b, o, rfl, World.block_lt_of_cell? w _ (hr 0 _ rfl), hr⟩, hx⟩
    refine ⟨h1, by unfold maxLen at h2; omega, fun i => if h : i < ln then Classical.choose (hex i h) else ⟨0, zeroE⟩, fun i hi => ?_, fun i hi => ?_⟩
    · simp only [dif_pos hi]
      exact (Classical.choose_spec (hex i hi)).1
    · simp only [dif_pos hi]
      exact (Classical.choose_spec (hex i hi)).2
theorem ActsAt.below {w w' : World} {ao : Option Addr} {ln : Nat} {g : Nat → A} (h : ActsAt w ao ln g) (hb : Below w.heap.size w w') : ActsAt w' ao ln g := fun i hi => by
  obtain ⟨b, off, e, h1, h2⟩ := h i hi
  exact ⟨b, off, e, Nat.lt_of_lt_of_le h1 hb.size, rangeAt_below h2 hb (fun _ => h1)⟩
theorem range_aent {w : World} {b off : Nat} {a : A} (h : w.rangeAt b off a.cells) : w.rangeAt b (off + 1) a.ent.cells := fun j u hu => by
  have := h (j + 1) u (by simpa [A.cells] using hu)
  rw [← this]
  congr 2
  omega
theorem range_aop {w : World} {b off : Nat} {a : A} (h : w.rangeAt b off a.cells) : w.rangeAt b (off + 4) a.ent.op.cells := range_eop (range_aent h)
def greatF (g : Nat → A) (k : Nat) : Bool := (List.range k).any fun i => (g i).ent.op.great
theorem greatF_next (g : Nat → A) (k : Nat) : greatF g (k + 1) = (greatF g k || (g k).ent.op.great) := by simp [greatF, List.range_succ]
theorem greatF_hit {g : Nat → A} {k ln : Nat} (hk : k < ln) (h : (g k).ent.op.great = true) : greatF g ln = true := by
  unfold greatF
  exact List.any_eq_true.2 ⟨k, List.mem_range.2 hk, h⟩
theorem greatF_no {g : Nat → A} {ln : Nat} (h : greatF g ln = false) {i : Nat} (hi : i < ln) : (g i).ent.op.great = false := by
  cases e : (g i).ent.op.great with
  | false => rfl
  | true => rw [greatF_hit hi e] at h; cases h
def greatL (g : Nat → A) (ln : Nat) (most : Int) : Bool := greatF g ln || decide (most < ln)
set_option maxHeartbeats 1000000 in
theorem greatL_any (w : World) (ao : Option Addr) (ln cp : Nat) (g : Nat → A) (h : ActsAt w ao ln g) (most : Int) (hl : (ln : Int) ≤ 9223372036854775807) :
    Calls Try.prog 6 #[.slice ao ln cp, .int .i64 most] w fun e w' => e = .returned (.bool (greatL g ln most)) ∧ Below w.heap.size w w' := by
  obtain ⟨d, hd, hdr⟩ := row_op
  replace hd := Lib.hid hd
  replace h := Lib.hid h
  go_enter Try.func6, Try.ntmps6
  go_wp2_with fail
  go_loopg [5] (ln + 1) (fun gk i wr => ∃ k : Nat, gk = ln + 1 - k ∧ k ≤ ln ∧ i = .int .i64 (k : Int) ∧ Below w.heap.size w wr ∧ Hid (greatF g k = false))
  case atStart => exact ⟨0, rfl, Nat.zero_le _, rfl, Below.refl _ _, Lib.hid rfl⟩
  case round =>
    obtain ⟨k, hg, hk, rfl, hB, hf⟩ := hrel
    replace hg := Lib.hid hg
    by_cases hlt : k < ln
    · obtain ⟨b, off, rfl, hb, hr⟩ := h.out.below hB k hlt
      have hr2 := range_aop hr
      have hkk : (k : Int) < (ln : Int) := by omega
      have GR := Lib.hid (great_any (g k).ent.op)
      have hfn := greatF_next g k
      rw [hf.out, Bool.false_or] at hfn
      replace hr2 := Lib.hid hr2
      clear hr hf
      cases hgr : (g k).ent.op.great with
      | true =>
        have hhit := Lib.hid (show greatL g ln most = true by unfold greatL; rw [greatF_hit hlt hgr]; rfl)
        rw [hgr] at GR
        clear hgr hfn
        go_wp2_with (first
          | ((with_reducible show wpList _ _ _ (⟨_, .load TO _, _, _, _, _⟩ :: _) _ _); refine wpList_load_mid rfl TO _ rfl b (off + k * 8 + 1 + 3) rfl (g k).ent.op.cells d hr2.out hd.out hdr info_op ?_)
          | (go_at_call 22; refine (GR.out _).mono ?_; rintro e w2 ⟨rfl, hn⟩; replace hB := bel hB hn; clear hn))
        go_ret
        exact ⟨ret_bool hhit.out.symm, hB⟩
      | false =>
        rw [hgr] at GR hfn
        replace hfn := Lib.hid hfn
        clear hgr
        go_wp2_with (first
          | ((with_reducible show wpList _ _ _ (⟨_, .load TO _, _, _, _, _⟩ :: _) _ _); refine wpList_load_mid rfl TO _ rfl b (off + k * 8 + 1 + 3) rfl (g k).ent.op.cells d hr2.out hd.out hdr info_op ?_)
          | (go_at_call 22; refine (GR.out _).mono ?_; rintro e w2 ⟨rfl, hn⟩; replace hB := bel hB hn; clear hn))
        go_roundg (ln + 1 - (k + 1))
        case measure => have := hg.out; omega
        case rel => exact ⟨k + 1, rfl, by omega, by go_num, hB, hfn⟩
    · obtain rfl : k = ln := by omega
      have hfin := Lib.hid (show greatL g k most = decide (most < (k : Int)) by unfold greatL; rw [hf.out]; rfl)
      clear hf
      go_wp2_with fail
      go_ret
      exact ⟨ret_bool hfin.out.symm, hB⟩
theorem info_int : (Try.prog.info? 3).map (·.size) = some 1 := by kernel_rfl
set_option maxRecDepth 100000
set_option maxHeartbeats 1000000 in
theorem next_any (w : World) (a : A) (h0 : 0 ≤ a.kind ∧ a.kind ≤ 255) (n : Nat) (hn : n ≤ 1000000) : Calls Try.prog 14 #[.agg a.cells.toArray, .int .i64 (n : Int)] w fun e w' => e = .returned (.agg (a.next n).cells.toArray) ∧ Below w.heap.size w w' := by
  obtain ⟨d, hd, hdr⟩ := row_entry
  replace hd := Lib.hid hd
  obtain ⟨h1, h2⟩ := h0
  by_cases h6 : a.kind % 9 < 6
  · have e1 : a.next n = { a.ent with index := (n : Int) + 1 } := if_pos h6
    rw [e1]
    clear e1
    go_enter Try.func14, Try.ntmps14
    go_wp2_with (first
      | ((with_reducible show wpList _ _ _ (⟨some 2, .box _ _, _, _, _, _⟩ :: _) _ _); refine wpList_box_blk rfl TA _ rfl a.cells rfl ?_; intro w1 hb K1 S1; clear S1; have HK := ((Kept.start w).below hb).add K1; have z1 := hb.size; clear hb K1)
      | ((with_reducible show wpList _ _ _ (⟨some 4, .alloc _, _, _, _, _⟩ :: _) _ _); refine wpList_alloc_blk rfl TEn rfl _ zero_entry ?_; intro w2 hb K2 S2; clear S2; have lo := HK.lt (List.mem_cons_self); replace HK := (HK.below hb).add K2; clear hb K2; generalize w1.heap.size = b4 at *)
      | ((with_reducible show wpList _ _ _ (⟨some 7, .load TEn _, _, _, _, _⟩ :: _) _ _); refine wpList_load_mid rfl TEn _ rfl w.heap.size 1 rfl a.ent.cells d (by simpa using range_aent (off := 0) (HK.blk (b := w.heap.size) (T := TA) (cs := a.cells) (by simp)).rangeAll) hd.out hdr info_entryN ?_)
      | ((with_reducible show wpList _ _ _ (⟨some 5, .alloc _, _, _, _, _⟩ :: _) _ _); refine wpList_alloc_blk rfl TEn rfl _ zero_entry ?_; intro w3 hb K3 S3; clear S3; have lo4 := HK.lt (List.mem_cons_self); replace HK := (HK.below hb).add K3; clear hb K3; generalize w2.heap.size = b5 at *)
      | ((with_reducible show wpList _ _ _ (⟨none, .store TEn (.tmp 5) _, _, _, _, _⟩ :: _) _ _); refine wpList_store_blk rfl TEn _ _ rfl b5 TEn zeroE.cells a.ent.cells 7 rfl rfl (HK.blk (List.mem_cons_self)) rfl (E.cellsN _) info_entryN ?_; intro w4 T4 K4 S4; clear S4; replace HK := HK.swap T4 (by omega) (by simp <;> omega) K4; have c0 := HK.cell (b := w.heap.size) (T := TA) (cs := a.cells) (by simp) 0 rfl; clear T4 K4)
      | ((with_reducible show wpList _ _ _ (⟨none, .store _ (.tmp 14) _, _, _, _, _⟩ :: _) _ _); refine wpList_store_cell rfl 3 _ _ rfl b5 0 (.int .i64 ((n : Int) + 1)) TEn a.ent.cells rfl rfl (HK.blk (List.mem_cons_self)) (by simp [E.cells]) rfl info_int ?_; intro w5 T5 K5 S5; clear S5; replace HK := HK.swap T5 (by omega) (by simp <;> omega) (show Blk w5 b5 TEn ({ a.ent with index := (n : Int) + 1 } : E).cells from K5); clear T5 K5 c0)
      | ((with_reducible show wpList _ _ _ (⟨some 15, .load TEn _, _, _, _, _⟩ :: _) _ _); refine wpList_load_blk rfl TEn _ rfl b5 TEn _ d rfl (HK.blk (T := TEn) (List.mem_cons_self)) hd.out hdr info_entryN ?_)
      | ((with_reducible show wpList _ _ _ (⟨none, .store TEn (.tmp 4) _, _, _, _, _⟩ :: _) _ _); refine wpList_store_blk rfl TEn _ _ rfl b4 TEn zeroE.cells ({ a.ent with index := (n : Int) + 1 } : E).cells 7 rfl rfl (HK.blk (by simp)) rfl (E.cellsN _) info_entryN ?_; intro w9 T9 K9 S9; clear S9))
    exact bodyPost_ret (results_cell1 (b := b4) (o := 0) (cs := ({ a.ent with index := (n : Int) + 1 } : E).cells) Try.results14 rfl K9.rangeAll hd.out hdr info_entryN) rfl ⟨rfl, HK.ends.trans (T9.below HK.ends.size (by simp; omega))⟩
  · have e1 : a.next n = a.ent := if_neg h6
    rw [e1]
    clear e1
    go_enter Try.func14, Try.ntmps14
    go_wp2_with (first
      | ((with_reducible show wpList _ _ _ (⟨some 2, .box _ _, _, _, _, _⟩ :: _) _ _); refine wpList_box_blk rfl TA _ rfl a.cells rfl ?_; intro w1 hb K1 S1; clear S1; have HK := ((Kept.start w).below hb).add K1; have z1 := hb.size; clear hb K1)
      | ((with_reducible show wpList _ _ _ (⟨some 4, .alloc _, _, _, _, _⟩ :: _) _ _); refine wpList_alloc_blk rfl TEn rfl _ zero_entry ?_; intro w2 hb K2 S2; clear S2; have lo := HK.lt (List.mem_cons_self); replace HK := (HK.below hb).add K2; clear hb K2; generalize w1.heap.size = b4 at *)
      | ((with_reducible show wpList _ _ _ (⟨some 7, .load TEn _, _, _, _, _⟩ :: _) _ _); refine wpList_load_mid rfl TEn _ rfl w.heap.size 1 rfl a.ent.cells d (by simpa using range_aent (off := 0) (HK.blk (b := w.heap.size) (T := TA) (cs := a.cells) (by simp)).rangeAll) hd.out hdr info_entryN ?_)
      | ((with_reducible show wpList _ _ _ (⟨some 5, .alloc _, _, _, _, _⟩ :: _) _ _); refine wpList_alloc_blk rfl TEn rfl _ zero_entry ?_; intro w3 hb K3 S3; clear S3; have lo4 := HK.lt (List.mem_cons_self); replace HK := (HK.below hb).add K3; clear hb K3; generalize w2.heap.size = b5 at *)
      | ((with_reducible show wpList _ _ _ (⟨none, .store TEn (.tmp 5) _, _, _, _, _⟩ :: _) _ _); refine wpList_store_blk rfl TEn _ _ rfl b5 TEn zeroE.cells a.ent.cells 7 rfl rfl (HK.blk (List.mem_cons_self)) rfl (E.cellsN _) info_entryN ?_; intro w4 T4 K4 S4; clear S4; replace HK := HK.swap T4 (by omega) (by simp <;> omega) K4; have c0 := HK.cell (b := w.heap.size) (T := TA) (cs := a.cells) (by simp) 0 rfl; clear T4 K4)
      | ((with_reducible show wpList _ _ _ (⟨some 15, .load TEn _, _, _, _, _⟩ :: _) _ _); refine wpList_load_blk rfl TEn _ rfl b5 TEn _ d rfl (HK.blk (T := TEn) (List.mem_cons_self)) hd.out hdr info_entryN ?_)
      | ((with_reducible show wpList _ _ _ (⟨none, .store TEn (.tmp 4) _, _, _, _, _⟩ :: _) _ _); refine wpList_store_blk rfl TEn _ _ rfl b4 TEn zeroE.cells a.ent.cells 7 rfl rfl (HK.blk (by simp)) rfl (E.cellsN _) info_entryN ?_; intro w9 T9 K9 S9; clear S9))
    exact bodyPost_ret (results_cell1 (b := b4) (o := 0) (cs := a.ent.cells) Try.results14 rfl K9.rangeAll hd.out hdr info_entryN) rfl ⟨rfl, HK.ends.trans (T9.below HK.ends.size (by simp; omega))⟩
end Go.Proofs.Ytbmepaglhkndpaa.Logs
