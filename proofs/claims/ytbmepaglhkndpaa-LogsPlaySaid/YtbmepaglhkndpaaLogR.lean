/-
  The document's log in memory (fairwayref11); contracts of its Cells and Last. Conditions: those that each names.
-/
import Derived.Test.YtbmepaglhkndpaaKvT
import Derived.Test.YtbmepaglhkndpaaLogMath
import Derived.Test.YtbmepaglhkndpaaKinds
import Derived.Deep.LoopGhost
namespace Go.Proofs.Ytbmepaglhkndpaa.Logs
open Go.RowKit Go.Proofs.Ytbmepaglhkndpaa.Mem Go.Proofs.Ytbmepaglhkndpaa.Ops Go.Proofs.Ytbmepaglhkndpaa.Kv

abbrev TEn : TypeId := 34
abbrev TEs : TypeId := 28
abbrev TRs : TypeId := 55
abbrev TRL : TypeId := 30
def E.cells (e : E) : List Value := .int .i64 e.index :: .int .i64 e.client :: .int .i64 e.seq :: e.op.cells
theorem E.cellsN (e : E) : CellsN 7 e.cells.toArray := ⟨rfl, all_oneCell_toArray (by simp [E.cells, O.cells, Value.oneCell'])⟩
theorem zero_entry : ∀ w, (zeroValue TEn).run Try.prog w = .ok (.agg zeroE.cells.toArray) w := fun w => by kernel_rfl
theorem info_entry : (Try.prog.info? TEn).map (fun i => (i.zero, i.size, i.bytes)) = some (some (.agg zeroE.cells.toArray), 7, 72) := by kernel_rfl
theorem info_entryN : (Try.prog.info? TEn).map (·.size) = some 7 := by kernel_rfl
theorem row_entry : ∃ d, Try.prog.underlying TEn = some d ∧ d.isRow = true := ⟨_, Try.underlying34, rfl⟩
theorem info_resR : (Try.prog.info? TR).map (fun i => (i.zero, i.size, i.bytes)) = some (some (.agg zeroR.cells.toArray), 4, 40) := by kernel_rfl
def kE : Kind E := ⟨TEn, 7, E.cells, fun _ => rfl, fun a u hu => by simp [E.cells, O.cells] at hu; rcases hu with rfl | rfl | rfl | rfl | rfl | rfl | rfl <;> rfl⟩
def kR : Kind Rs := ⟨TR, 4, Rs.cells, fun _ => rfl, fun a u hu => by simp [Rs.cells] at hu; rcases hu with rfl | rfl | rfl | rfl <;> rfl⟩
def kC : Kind C := ⟨TC, 3, C.cells, fun _ => rfl, fun a u hu => by simp [C.cells] at hu; rcases hu with rfl | rfl | rfl <;> rfl⟩
theorem range_eop {w : World} {b off : Nat} {e : E} (h : w.rangeAt b off e.cells) : w.rangeAt b (off + 3) e.op.cells := fun j u hu => by
  have := h (j + 3) u (by simpa [E.cells] using hu)
  rw [← this]
  congr 2
  omega
/-- The document's log. -/
structure RefAt (w : World) (b base : Nat) (v : Value) (L : List E) : Prop where
  blk : Blk w b TRL [v]
  own : kE.Own w base v L
theorem RefAt.turned {S : List Nat} {w w' : World} {b base : Nat} {v : Value} {L : List E} (h : RefAt w b base v L) (t : Turned S w w') (hb : b ∉ S) (hS : ∀ k ∈ S, v.ownBlock ≠ some k) : RefAt w' b base v L := ⟨t.blk h.blk hb, h.own.turned t hS⟩
theorem RefAt.below {w w' : World} {b base : Nat} {v : Value} {L : List E} (h : RefAt w b base v L) (hb : Below w.heap.size w w') : RefAt w' b base v L := h.turned (Turned.of_below hb) (by simp) (by simp)

theorem owned_ltC {w : World} {base : Nat} {v : Value} {L : List C} (h : CsO w base v L) : ∀ j, v.ownBlock = some j → base ≤ j ∧ j < w.heap.size := fun j hj => World.ownsRow.lt h j hj
def CellsP (w : World) (L : List E) (e : Ending) (w' : World) : Prop := ∃ c out, e = .returned (.tuple #[c, out]) ∧ CsO w' w.heap.size c (store L) ∧ kR.Own w' w.heap.size out (results L) ∧ Below w.heap.size w w'
set_option maxRecDepth 100000
set_option maxHeartbeats 2000000
attribute [local go_sem ↓] execLoadR
theorem rcells_any (w : World) (b base : Nat) (v : Value) (L : List E) (h : RefAt w b base v L) (hl : L.length ≤ 4096) : Calls Try.prog 29 #[ptr b] w (CellsP w L) := by
  obtain ⟨d, hd, hdr⟩ := row_res
  replace hd := Lib.hid hd
  obtain ⟨d1, hd1, hdr1⟩ := row_op
  replace hd1 := Lib.hid hd1
  obtain ⟨i0, hi, hz0, hz1, hz2⟩ := info_parts info_resR
  replace hi := Lib.hid hi
  replace hz0 := Lib.hid hz0
  replace hz1 := Lib.hid hz1
  replace hz2 := Lib.hid hz2
  have hbl := h.blk.lt
  obtain ⟨aos, cps, hv, _⟩ := h.own.form
  replace h := Lib.hid h
  subst hv
  go_enter Try.func29, Try.ntmps29
  go_wp2_with fail
  go_loopg [4, 5, 6] (L.length + 1) (fun g c out i wr => ∃ k : Nat, g = L.length + 1 - k ∧ k ≤ L.length ∧ i = .int .i64 (k : Int) ∧ CsO wr w.heap.size c (store (L.take k)) ∧ kR.Own wr w.heap.size out (results (L.take k)) ∧ Below w.heap.size w wr)
  case atStart => exact ⟨0, rfl, Nat.zero_le _, rfl, CsO.nil _ _, Kind.Own.nil _ _, Below.refl _ _⟩
  case round =>
    obtain ⟨k, hg, hk, rfl, hC, hO, hB⟩ := hrel
    replace hg := Lib.hid hg
    have hw := h.out.below hB
    have c0 : wr.cell? ⟨b, 0, none⟩ = some (.slice aos L.length cps) := hw.blk.cell 0
    by_cases hlt : k < L.length
    · obtain ⟨e, he⟩ : ∃ e, L[k]? = some e := ⟨_, List.getElem?_eq_getElem hlt⟩
      obtain ⟨g, cap, hv, hg1, hg2, hr⟩ := hw.own.at he
      cases hv
      have hr2 := Lib.hid (range_eop hr)
      have hkk : (k : Int) < (L.length : Int) := by omega
      have htk := take_snoc L k e he
      have hlk : (L.take k).length = k := by simp; omega
      have hsl := store_len (L.take k)
      have hs1 : store (L.take (k + 1)) = next (store (L.take k)) ((k : Int) + 1) e.op := by rw [htk, store_snoc, hlk]
      have hs2 : results (L.take (k + 1)) = results (L.take k) ++ [told (store (L.take k)) ((k : Int) + 1) e.op] := by rw [htk, results_snoc, hlk]
      have hrl : (results (L.take k)).length = k := by rw [results_len, hlk]
      have AP := Lib.hid (fun (W1 : World) (h1 : CsO W1 w.heap.size u4 (store (L.take k))) (hb1 : w.heap.size ≤ W1.heap.size) => rapply_any W1 w.heap.size u4 _ h1 ((k : Int) + 1) e.op (by omega) hb1)
      unfold ApplyP at AP
      clear htk hr
      replace hs1 := Lib.hid hs1
      replace hs2 := Lib.hid hs2
      generalize told (store (L.take k)) ((k : Int) + 1) e.op = R at *
      generalize next (store (L.take k)) ((k : Int) + 1) e.op = C2 at *
      generalize store (L.take k) = C1 at *
      generalize results (L.take k) = O1 at *
      replace hC := Lib.hid hC
      replace hO := Lib.hid hO
      generalize hop : e.op = op at *
      clear hop he hlk hsl
      have hmm : O1.length ≤ 4096 := by omega
      replace hrl := Lib.hid hrl
      go_wp2_with (first
        | ((with_reducible show wpList _ _ _ (⟨some 29, .load TO _, _, _, _, _⟩ :: _) _ _); refine wpList_load_mid rfl TO _ rfl g (k * 7 + 3) rfl op.cells d1 hr2.out hd1.out hdr1 info_op ?_)
        | (go_at_call 40; refine (AP.out _ hC.out hB.size).mono ?_; rintro e w5 ⟨v2, rfl, MN, hn, hv2⟩; have hC2 := Lib.hid MN; replace hO := Lib.hid (hO.out.below hn); replace hB := bel hB hn; replace hg2 := Nat.lt_of_lt_of_le hg2 hn.size; clear hn hv2 MN c0)
        | ((with_reducible show wpList _ _ _ (⟨some 8, .alloc _, _, _, _, _⟩ :: _) _ _); refine wpList_alloc_blk rfl TR rfl _ zero_res ?_; intro w6 hn K6 S6; clear S6; have hol := Lib.hid hO.out.lt; have hcl := Lib.hid (owned_ltC hC2.out); replace hC2 := Lib.hid (hC2.out.below hn); replace hO := Lib.hid (hO.out.below hn); have hb8 := hB.size; replace hB := bel hB hn; clear hn; generalize w5.heap.size = b8 at *)
        | ((with_reducible show wpList _ _ _ (⟨none, .store TR (.tmp 8) _, _, _, _, _⟩ :: _) _ _); refine wpList_store_blk rfl TR _ _ rfl b8 TR zeroR.cells R.cells 4 rfl rfl K6 rfl (Rs.cellsN _) info_res ?_; intro w7 T7 K7 S7; clear S7; replace hC2 := Lib.hid (hC2.out.turned T7 (fun j hj e => by have := hcl.out j e; simp at hj; omega)); replace hO := Lib.hid (hO.out.turned T7 (fun j hj e => by have := hol.out j e; simp at hj; omega)); replace hB := hB.trans (T7.below hB.size (by simp; omega)); have g7 := ldR K7; clear T7 K6)
        | ((with_reducible show wpList _ _ _ (⟨_, .buildSlice _ _ _, _, _, _, _⟩ :: _) _ _); refine wpList_slice1_blk rfl TRs TR _ rfl R.cells i0 _ rfl Try.underlying55 hi.out hz0.out (by rw [hz1.out]; rfl) (by simp [Rs.cells]) (by simp [Rs.cells]) ?_; intro w8 hn K8 S8; clear S8; replace hC2 := Lib.hid (hC2.out.below hn); replace hO := Lib.hid (hO.out.below hn); have hb9 := hB.size; replace hB := bel hB hn; have hs8 := hn.size; clear hn g7 K7; generalize w7.heap.size = b9 at *)
        | ((with_reducible show wpList _ _ _ (⟨some 37, .call _, _, _, _, _⟩ :: _) _ _); refine wpList_append_sl rfl _ _ TRs rfl w.heap.size TR i0 _ 4 40 Try.underlying55 hi.out hz0.out hz1.out hz2.out rfl (by decide) _ O1.length (kR.row O1) rfl hO.out _ 1 R.cells [b9] rfl ⟨_, 1, rfl, Nat.le_refl _, by simp [maxLen], (fun e => by cases e), fun a ha => by cases ha; exact ⟨fun _ => ⟨rfl, by simp⟩, K8.rangeAll⟩⟩ (by simp [Rs.cells]) (by simp [Rs.cells, Value.oneCell']) (by unfold maxLen; omega) (by omega) (by omega) ?_; intro v5 w9 hown hgrow))
      go_roundg (L.length + 1 - (k + 1))
      case measure => have := hg.out; omega
      case rel =>
        replace hgrow : w8.grownBy w9 u5.ownBlock := hgrow
        have hap := Kind.own_apart (K := kC) (K' := kR) (by decide) (show kC.Own _ _ _ _ from hC2.out) hO.out
        refine ⟨k + 1, rfl, by omega, by go_num, ?_, ?_, hB.grown hgrow hB.size (fun j hj => (hO.out.lt j hj).1)⟩
        · rw [hs1.out]
          exact hC2.out.turned (turned_grown hgrow) (fun j hj => hap j (by simpa using hj))
        · rw [hs2.out]
          show World.ownsRow _ _ _ _ _ _ _
          rw [List.length_append, kR.row_app, kR.row_one]
          exact hown
    · have hkk : k = L.length := by omega
      subst hkk
      rw [List.take_length] at hC hO
      replace hC := Lib.hid hC
      replace hO := Lib.hid hO
      go_wp2_with fail
      go_ret2
      exact ⟨_, _, rfl, hC.out, hO.out, hB⟩

set_option maxHeartbeats 1000000 in
theorem rlast_any (w : World) (b base : Nat) (v : Value) (L : List E) (h : RefAt w b base v L) (c : Int) (hl : L.length ≤ 1000000) : Calls Try.prog 34 #[ptr b, .int .i64 c] w fun e w' => e = .returned (.tuple #[.int .i64 (last L c).1, .int .i64 (last L c).2]) ∧ w' = w := by
  obtain ⟨aos, cps, hv, _⟩ := h.own.form
  subst hv
  have c0 : w.cell? ⟨b, 0, none⟩ = some (.slice aos L.length cps) := h.blk.cell 0
  replace h := Lib.hid h
  obtain ⟨R, hR⟩ : ∃ R, R = last L c := ⟨_, rfl⟩
  rw [← hR]
  unfold last at hR
  replace hR := Lib.hid hR
  go_enter Try.func34, Try.ntmps34
  go_wp2_with fail
  go_loopg [6] (L.length + 1) (fun g i wr => ∃ k : Nat, g = k + 1 ∧ k ≤ L.length ∧ i = .int .i64 ((k : Int) - 1) ∧ wr = w ∧ Hid (R = lastN L k c))
  case atStart => exact ⟨L.length, rfl, Nat.le_refl _, rfl, rfl, hR⟩
  case round =>
    obtain ⟨k, hg, hk, rfl, rfl, hRk⟩ := hrel
    replace hg := Lib.hid hg
    cases k with
    | zero =>
      have hz := hRk.out
      subst hz
      go_wp2_with fail
      go_ret2
      exact ⟨rfl, rfl⟩
    | succ k =>
      obtain ⟨e, he⟩ : ∃ e, L[k]? = some e := ⟨_, List.getElem?_eq_getElem (by omega)⟩
      obtain ⟨g, cap, hv, hg1, hg2, hr⟩ := h.out.own.at he
      cases hv
      have q1 : wr.cell? ⟨g, k * 7 + 1, none⟩ = some (.int .i64 e.client) := hr 1 _ rfl
      have q2 : wr.cell? ⟨g, k * 7 + 2, none⟩ = some (.int .i64 e.seq) := hr 2 _ rfl
      have hkk : (k : Int) + 1 ≤ (L.length : Int) := by omega
      have hki : ((k + 1 : Nat) : Int) - 1 = (k : Int) := by omega
      rw [hki]
      clear hr
      by_cases hc : e.client = c
      · have t1 : (e.client == c) = true := by simpa using hc
        have hz := hRk.out
        rw [lastN_hit he hc] at hz
        subst hz
        replace hc := Lib.hid hc
        clear he hRk hki
        go_wp2_with fail
        go_ret2
        exact ⟨rfl, rfl⟩
      · have t1 : (e.client == c) = false := by simpa using hc
        have hz := hRk.out
        rw [lastN_miss he hc] at hz
        replace hz := Lib.hid hz
        replace hc := Lib.hid hc
        clear he hRk hki
        go_wp2_with fail
        go_roundg (k + 1)
        case measure => have := hg.out; omega
        case rel => exact ⟨k, rfl, by omega, rfl, rfl, hz⟩
end Go.Proofs.Ytbmepaglhkndpaa.Logs
