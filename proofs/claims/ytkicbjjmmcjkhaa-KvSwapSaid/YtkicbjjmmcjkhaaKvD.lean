/-
  Contracts of package kv (layer 10): Same, over maps.Equal at one list. Conditions: those that each names.
-/
import Derived.Test.YtkicbjjmmcjkhaaKvC
import Derived.Test.YtkicbjjmmcjkhaaKvE
import Derived.Laws.StructEq
import Derived.StillTactics
import Derived.Maps.RangeWalk
import Derived.Deep.LoopGhost
namespace Go.Proofs.Ytkicbjjmmcjkhaa.Kv
open Go.RowKit Go.Proofs.Ytkicbjjmmcjkhaa.Mem Go.Proofs.Ytkicbjjmmcjkhaa.Ops
open Go.Maps (has size)

set_option maxRecDepth 20000 in
theorem equal_elem (v : List UInt8) (n : Int) (w : World) : (Op.equalIn 10000 TE (.agg (eC v n).toArray) (.agg (eC v n).toArray)).run Try.prog w = .ok true w := by
  have hS : Try.prog.underlying TE = some (.struct (Try.prog.fieldsOf TE)) := by kernel_rfl
  have hp : Try.prog.stoodInHeld TE = false := by kernel_rfl
  rw [show (10000 : Nat) = 9999 + 1 from rfl, run_equalIn_agg w 9999 TE _ _ hS hp]
  clear hS hp
  have u3 := Try.underlying3
  have u9 := Try.underlying9
  simp only [Program.fieldsOf, Try.underlying56]
  simp [Op.eqFields, go_sem, u3, u9, eC]
theorem neq_elem (v : List UInt8) (n : Int) (w : World) : (binOp .neq TE (.agg (eC v n).toArray) (.agg (eC v n).toArray)).run Try.prog w = .ok (.bool false) w := by rw [run_neq_struct, equal_elem]; rfl
theorem guard_elem (op : BinOp) (x y : Operand) (v : List UInt8) (n : Int) (w : World) : (eqGuard op TE x y (.agg (eC v n).toArray) (.agg (eC v n).toArray)).run Try.prog w = .ok () w := run_eqGuard_agg w op TE x y _ _ (by kernel_rfl)
theorem look_of_at {L : List C} {x v : List UInt8} {n : Int} (h : ∀ zd, (datum L).atKey (.string x) zd = .agg [.lit (.string v), .lit (.int .i64 n)]) : hit L x = true ∧ (look L x 0).val = v ∧ (look L x 0).ver = n := by
  have h1 := Maps.has_true_of_atKey h
  rw [has_str] at h1
  obtain ⟨c, hc⟩ := Option.isSome_iff_exists.1 h1
  have h2 := h .nil
  rw [at_str, hc] at h2
  simp [elemD] at h2
  refine ⟨h1, ?_, ?_⟩
  · unfold look
    rw [hc]
    exact h2.1
  · unfold look
    rw [hc]
    exact h2.2
attribute [local go_sem ↓] execLoadE
set_option maxRecDepth 100000
set_option maxHeartbeats 1000000
theorem equal_yes (w : World) (m r : Nat) (L : List C) (h : MapAt w m L) (k : MapAt w r L) : Calls Try.prog 28 #[.map (some m), .map (some r)] w fun e w' => e = .returned (.bool true) ∧ Below w.heap.size w w' := by
  have hbl := h.lt
  have hmany := h.many
  have hsd := Lib.hid (size_datum L)
  have l1 := map_len (w := w) h
  have l2 := map_len (w := w) k
  replace h := Lib.hid h
  replace k := Lib.hid k
  go_enter Try.func28, Try.ntmps28
  go_wp2_with (at_range; refine wpList_range_own _ rfl _ TM rfl TK TE keyed Try.underlying45 _ m L.length _ rfl h.out.owns ?_; intro w0 hrg0 hg0 hs0)
  go_frame
  have SQ0 := k.out.turned (turned_none hg0) (by simp)
  have hsl := k.out.lt
  have hB1 : Below w.heap.size w w0 := (Below.refl _ _).grown hg0 (Nat.le_refl _) (fun j hj => by cases hj)
  have hit : w.heap.size ≤ w.heap.size := Nat.le_refl _
  go_loopw [] (fun wr => ∃ (left : Lit → Bool) (cnt : Nat), wr.ranges Try.prog TK elemR m w.heap.size L.length (datum L) left cnt ∧ MapAt wr r L ∧ Below w.heap.size w wr)
    (fun wr => wr.rangeLeft m w.heap.size)
  case atStart => exact ⟨_, _, hrg0, SQ0, hB1⟩
  case round =>
    obtain ⟨left, cnt, hrg, SM, hnx⟩ := hrel
    go_wp2_with (first
      | (at_next; refine wpList_next_ranges _ rfl _ rfl TK keyed elemR encStr (fun c : List UInt8 × Int => elemV c.1 c.2) (fun key kl hk => by obtain ⟨x, hx, _⟩ := Maps.keyOf_str Try.underlying9 hk; exact ⟨x, hx⟩) (fun v y hv => by obtain ⟨s, n, rfl, _⟩ := elemR_inv hv; exact ⟨(s, n), rfl⟩) m w.heap.size L.length _ _ _ rfl hrg ?_ ?_))
    · intro hc0 hl0
      go_wp2_with fail
      go_ret
      exact ⟨rfl, hnx⟩
    · intro x cv cn kl yd yp w5 cnt2 hkey hlk hv hat hrg2 hlt hg2 hs2 hen
      obtain ⟨x', ex, rfl, _⟩ := Maps.keyOf_str Try.underlying9 hkey
      obtain rfl : x = x' := encStr_inj ex
      rw [elemR_mk] at hv
      cases hv
      have hxl : x.length ≤ 16 := by
        obtain ⟨c0, hc0, rfl⟩ := key_in hat
        exact h.out.keys c0 hc0
      obtain ⟨lh, lv, ln⟩ := look_of_at hat
      have hsz := hnx.size
      have hB5 : Below w.heap.size w w5 := hnx.grown hg2 hsz (fun j hj => by cases hj; omega)
      have SM5 := Lib.hid (SM.turned (turned_of_grown hg2) (by simp; omega))
      have LU := Lib.hid (fun (w1 : World) (h1 : MapAt w1 r L) => map_lookup h1 x (by omega))
      rw [lh, lv, ln] at LU
      have hlt5 := SM5.out.lt
      have hrl := hrg2.lt
      have hml := hrg2.owns.lt
      replace hen : (Instr.entry (.pointer (some ⟨w.heap.size, 0, none⟩))).run Try.prog w5 = .ok (.tuple #[.string ⟨x.toArray⟩, .agg (eC cv cn).toArray]) w5 := hen
      replace hrg2 := Lib.hid hrg2
      have hleq := Lib.hid hrg.left_eq
      have q0 := neq_elem cv cn
      have u0 := fun op x y => guard_elem op x y cv cn
      clear hs2 hg2 hrg hat hkey hlk lh lv ln
      go_wp2_with (first
        | ((with_reducible show wpList _ _ _ (⟨some 6, .alloc _, _, _, _, _⟩ :: _) _ _); refine wpList_alloc_blk rfl TE rfl _ zero_cell ?_; intro w6 hn K6 S6; clear S6; replace SM5 := Lib.hid (SM5.out.turned (Turned.of_below hn) (by simp)); replace hrg2 := Lib.hid (ranges_turned hrg2.out (Turned.of_below hn) (by simp) (by simp)); replace hB5 := bel hB5 hn; clear hn; generalize w5.heap.size = b5 at *)
        | ((with_reducible show wpList _ _ _ (⟨none, .store TE (.tmp 6) _, _, _, _, _⟩ :: _) _ _); refine wpList_store_blk rfl TE _ _ rfl b5 TE (eC [] 0) (eC cv cn) 2 rfl rfl K6 rfl (eCN _ _) info_elem ?_; intro w7 T7 K7 S7; clear S7; replace SM5 := Lib.hid (SM5.out.turned T7 (by simp; omega)); replace hrg2 := Lib.hid (ranges_turned hrg2.out T7 (by simp; omega) (by simp; omega)); replace hB5 := hB5.trans (T7.below hB5.size (by simp; omega)); have l1 := LU.out _ SM5.out; clear T7 K6)
        | ((with_reducible show wpList _ _ _ (⟨some 7, .alloc _, _, _, _, _⟩ :: _) _ _); refine wpList_alloc_blk rfl TE rfl _ zero_cell ?_; intro w8 hn K8 S8; clear S8; have hlt7 := SM5.out.lt; have hrl7 := hrg2.out.lt; have hml7 := hrg2.out.owns.lt; have h57 := K7.lt; replace SM5 := Lib.hid (SM5.out.turned (Turned.of_below hn) (by simp)); replace hrg2 := Lib.hid (ranges_turned hrg2.out (Turned.of_below hn) (by simp) (by simp)); replace hB5 := bel hB5 hn; replace K7 := K7.below hn h57; clear hn l1; generalize w7.heap.size = b7 at *)
        | ((with_reducible show wpList _ _ _ (⟨none, .store TE (.tmp 7) _, _, _, _, _⟩ :: _) _ _); refine wpList_store_blk rfl TE _ _ rfl b7 TE (eC [] 0) (eC cv cn) 2 rfl rfl K8 rfl (eCN _ _) info_elem ?_; intro w9 T9 K9 S9; clear S9; replace SM5 := Lib.hid (SM5.out.turned T9 (by simp; omega)); replace hrg2 := Lib.hid (ranges_turned hrg2.out T9 (by simp; omega) (by simp; omega)); replace hB5 := hB5.trans (T9.below hB5.size (by simp; omega)); have g7 := ldE (T9.blk K7 (by simp; omega)); have g9 := ldE K9; clear T9 K8))
      go_roundw
      case rel => exact ⟨_, cnt2, hrg2.out, SM5.out, hB5⟩
      case measure => rw [hrg2.out.left_eq, hleq.out]; exact hlt
theorem same_yes (w : World) (p m q r : Nat) (L : List C) (h : StAt w p m L) (k : StAt w q r L) : Calls Try.prog 15 #[ptr p, ptr q] w fun e w' => e = .returned (.bool true) ∧ Below w.heap.size w w' := by
  have N := Lib.hid (none_at w p m L h)
  have N2 := Lib.hid (none_at w q r L k)
  have d1 : w.drew.cell? ⟨p, 0, none⟩ = some (.map (some m)) := h.blk.cell 0
  have d2 : w.drew.cell? ⟨q, 0, none⟩ = some (.map (some r)) := k.blk.cell 0
  have TD : Turned [] w w.drew := ⟨rfl, rfl, rfl, Nat.le_refl _, fun _ _ _ => rfl⟩
  have EQ := Lib.hid (equal_yes w.drew m r L (h.map.turned TD (by simp)) (k.map.turned TD (by simp)))
  have hB0 : Below w.heap.size w w.drew := ⟨rfl, rfl, rfl, Nat.le_refl _, fun _ _ => rfl⟩
  replace hB0 := Lib.hid hB0
  clear TD h k
  go_enter Try.func15, Try.ntmps15
  go_wp2_with (first
    | (go_at_call 20; (with_reducible refine N.out.mono ?_); rintro e w2 ⟨rfl, rfl⟩)
    | (go_at_call 20; (with_reducible refine N2.out.mono ?_); rintro e w2 ⟨rfl, rfl⟩))
  go_still_tail 8, (by kernel_rfl)
  change wpList _ _ _ _ _ w2.drew
  clear d1 d2 N N2
  generalize w2.drew = w3 at *
  go_wp2_with (go_at_call 28; refine EQ.out.mono ?_; rintro e w4 ⟨rfl, hn⟩)
  go_ret
  exact ⟨rfl, bel hB0.out hn⟩
end Go.Proofs.Ytkicbjjmmcjkhaa.Kv
