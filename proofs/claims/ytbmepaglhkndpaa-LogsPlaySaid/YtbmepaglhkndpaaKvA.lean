/-
  Contracts of package kv (layer 10), first part: New, Size, Look. Conditions: those that each names.
-/
import Derived.Test.YtbmepaglhkndpaaKvOwn
import Derived.Test.YtbmepaglhkndpaaOpsC
import Derived.Test.YtbmepaglhkndpaaCell
namespace Go.Proofs.Ytbmepaglhkndpaa.Kv
open Go.RowKit Go.Proofs.Ytbmepaglhkndpaa.Mem Go.Proofs.Ytbmepaglhkndpaa.Ops
set_option maxRecDepth 100000

/-- A store that New made: its block, its map. -/
structure StAt (w : World) (p m : Nat) (L : List C) : Prop where
  blk : Blk w p TS [.map (some m)]
  map : MapAt w m L
theorem StAt.lt {w : World} {p m : Nat} {L : List C} (h : StAt w p m L) : p < w.heap.size ∧ m < w.heap.size := ⟨h.blk.lt, h.map.lt⟩
theorem StAt.keep {S : List Nat} {w w' : World} {p m : Nat} {L : List C} (h : StAt w p m L) (t : Turned S w w') (hp : p ∉ S) (hm : m ∉ S) : StAt w' p m L := ⟨t.blk h.blk hp, h.map.turned t hm⟩
theorem StAt.ne {w : World} {p m : Nat} {L : List C} (h : StAt w p m L) : p ≠ m := fun e => by
  subst e
  obtain ⟨es, clock, h1, _⟩ := h.map.owns
  have := h.blk
  unfold Blk at this
  rw [this] at h1
  cases h1
theorem StAt.below {w w' : World} {p m : Nat} {L : List C} (h : StAt w p m L) (hb : Below w.heap.size w w') : StAt w' p m L := h.keep (Turned.of_below hb) (by simp) (by simp)
theorem StAt.keys {w : World} {p m : Nat} {L : List C} (h : StAt w p m L) : ∀ c ∈ L, c.key.length ≤ 16 := h.map.keys
theorem StAt.many {w : World} {p m : Nat} {L : List C} (h : StAt w p m L) : L.length ≤ 1000000 := h.map.many

theorem new_any (w : World) : Calls Try.prog 23 #[] w fun e w' => ∃ p m, e = .returned (ptr p) ∧ StAt w' p m [] ∧ w.heap.size ≤ p ∧ w.heap.size ≤ m ∧ Below w.heap.size w w' := by
  have hmm := @run_makeMap Try.prog
  have hM := map_made w
  have hB : Below w.heap.size w (w.alloc (.map #[] 0)) := (Below.refl _ _).alloc (Nat.le_refl _) _
  replace hM := Lib.hid hM
  replace hB := Lib.hid hB
  go_enter Try.func23, Try.ntmps23
  go_wp2_with fail
  go_ret
  have hs : (w.alloc (.map #[] 0)).heap.size = w.heap.size + 1 := by simp
  have hb := Blk.new (w.alloc (.map #[] 0)) TS [.map (some w.heap.size)]
  have hm := hM.out.same (w' := (w.alloc (.map #[] 0)).alloc (.cells [Value.map (some w.heap.size)].toArray TS)) (Below.heap_alloc _ _ _ (by omega))
  rw [hs] at hb
  exact ⟨_, _, rfl, ⟨hb, hm⟩, by omega, by omega, hB.out.alloc (by omega) _⟩

theorem eq_map (m : Nat) (w : World) : (binOp .eql TM (.map (some m)) (.map none)).run Try.prog w = .ok (.bool false) w := by kernel_rfl
theorem eq_map0 (w : World) : (binOp .eql TM (.map none) (.map none)).run Try.prog w = .ok (.bool true) w := by kernel_rfl
theorem none_at (w : World) (p m : Nat) (L : List C) (h : StAt w p m L) : Calls Try.prog 38 #[ptr p] w fun e w' => e = .returned (.bool false) ∧ w' = w := by
  have c0 := h.blk.cell 0
  replace c0 : w.cell? ⟨p, 0, none⟩ = some (.map (some m)) := c0
  go_enter Try.func38, Try.ntmps38
  have e0 := eq_map m
  go_wp2_with fail
  go_ret
  exact ⟨rfl, rfl⟩

/-- The cells of an element. -/
def eC (v : List UInt8) (n : Int) : List Value := [.string ⟨v.toArray⟩, .int .i64 n]
theorem zero_cell : ∀ w, (zeroValue TE).run Try.prog w = .ok (.agg (eC [] 0).toArray) w := fun w => by kernel_rfl
theorem info_elem : (Try.prog.info? TE).map (·.size) = some 2 := by kernel_rfl
theorem eCN (v : List UInt8) (n : Int) : CellsN 2 (eC v n).toArray := ⟨rfl, all_oneCell_toArray (by simp [eC, Value.oneCell'])⟩
theorem look_at (w : World) (p m : Nat) (L : List C) (h : StAt w p m L) (key : List UInt8) (hk : key.length ≤ 1000000) (n : Int) : Calls Try.prog 28 #[ptr p, .string ⟨key.toArray⟩, .int .i64 n] w fun e w' => e = .returned (.agg (look L key n).cells.toArray) ∧ Below w.heap.size w w' := by
  obtain ⟨d, hd, hdr⟩ := row_res
  replace hd := Lib.hid hd
  have lk := look_there L key n
  have LU := Lib.hid (fun (w1 : World) (h1 : StAt w1 p m L) => map_lookup h1.map key hk)
  unfold elemV at LU
  generalize (look L key 0).val = V at *
  generalize (look L key 0).ver = N at *
  generalize look L key n = R at *
  cases hh : hit L key with
  | true =>
    rw [hh] at LU lk
    rw [if_pos rfl] at lk
    subst lk
    go_enter Try.func28, Try.ntmps28
    go_wp2_with (first
      | ((with_reducible show wpList _ _ _ (⟨some 6, .alloc _, _, _, _, _⟩ :: _) _ _); refine wpList_alloc_blk rfl TR rfl _ zero_res ?_; intro w1 hn K1 S1; clear S1; have HK := ((Kept.start w).below hn).add K1; have c0 : w1.cell? ⟨p, 0, none⟩ = some (.map (some m)) := (h.below hn).blk.cell 0; have l1 := LU.out _ (h.below hn); have N1 := Lib.hid (none_at _ p m L (h.below hn)); clear hn K1)
      | (go_at_call 38; refine N1.out.mono ?_; rintro e w2 ⟨rfl, rfl⟩)
      | ((with_reducible show wpList _ _ _ (⟨some 7, .alloc _, _, _, _, _⟩ :: _) _ _); refine wpList_alloc_blk rfl TE rfl _ zero_cell ?_; intro w3 hn K3 S3; clear S3; have lo := HK.lt (List.mem_cons_self); replace HK := (HK.below hn).add K3; clear hn K3 c0 l1; generalize w2.heap.size = b2 at *)
      | ((with_reducible show wpList _ _ _ (⟨none, .store TE (.tmp 7) _, _, _, _, _⟩ :: _) _ _); refine wpList_store_blk rfl TE _ _ rfl b2 TE (eC [] 0) (eC V N) 2 rfl rfl (HK.blk (List.mem_cons_self)) rfl (eCN _ _) info_elem ?_; intro w4 T4 K4 S4; clear S4; replace HK := HK.swap T4 (by omega) (by simp <;> omega) K4; have e0 := HK.cell (List.mem_cons_self) 0 rfl; have e1 := HK.cell (List.mem_cons_self) 1 rfl; clear T4 K4)
      | ((with_reducible show wpList _ _ _ (⟨none, .store TR (.tmp 6) _, _, _, _, _⟩ :: _) _ _); refine wpList_store_blk rfl TR _ _ rfl w.heap.size TR zeroR.cells (Rs.mk 1 V N n).cells 4 rfl rfl (HK.blk (by simp)) rfl (Rs.cellsN _) info_res ?_; intro w5 T5 K5 S5; clear S5))
    refine bodyPost_ret (results_cell1 (b := w.heap.size) (o := 0) (cs := (Rs.mk 1 V N n).cells) Try.results28 rfl K5.rangeAll hd.out hdr info_res) rfl ⟨rfl, HK.ends.trans (T5.below HK.ends.size (by simp))⟩
  | false =>
    rw [hh] at LU lk
    rw [if_neg (by simp)] at lk
    subst lk
    go_enter Try.func28, Try.ntmps28
    go_wp2_with (first
      | ((with_reducible show wpList _ _ _ (⟨some 6, .alloc _, _, _, _, _⟩ :: _) _ _); refine wpList_alloc_blk rfl TR rfl _ zero_res ?_; intro w1 hn K1 S1; clear S1; have HK := ((Kept.start w).below hn).add K1; have c0 : w1.cell? ⟨p, 0, none⟩ = some (.map (some m)) := (h.below hn).blk.cell 0; have l1 := LU.out _ (h.below hn); have N1 := Lib.hid (none_at _ p m L (h.below hn)); clear hn K1)
      | (go_at_call 38; refine N1.out.mono ?_; rintro e w2 ⟨rfl, rfl⟩)
      | ((with_reducible show wpList _ _ _ (⟨some 7, .alloc _, _, _, _, _⟩ :: _) _ _); refine wpList_alloc_blk rfl TE rfl _ zero_cell ?_; intro w3 hn K3 S3; clear S3; have lo := HK.lt (List.mem_cons_self); replace HK := (HK.below hn).add K3; clear hn K3 c0 l1; generalize w2.heap.size = b2 at *)
      | ((with_reducible show wpList _ _ _ (⟨none, .store TE (.tmp 7) _, _, _, _, _⟩ :: _) _ _); refine wpList_store_blk rfl TE _ _ rfl b2 TE (eC [] 0) (eC V N) 2 rfl rfl (HK.blk (List.mem_cons_self)) rfl (eCN _ _) info_elem ?_; intro w4 T4 K4 S4; clear S4; replace HK := HK.swap T4 (by omega) (by simp <;> omega) K4; have e0 := HK.cell (List.mem_cons_self) 0 rfl; have e1 := HK.cell (List.mem_cons_self) 1 rfl; clear T4 K4)
      | ((with_reducible show wpList _ _ _ (⟨none, .store TR (.tmp 6) _, _, _, _, _⟩ :: _) _ _); refine wpList_store_blk rfl TR _ _ rfl w.heap.size TR zeroR.cells (Rs.mk 2 [] 0 n).cells 4 rfl rfl (HK.blk (by simp)) rfl (Rs.cellsN _) info_res ?_; intro w5 T5 K5 S5; clear S5))
    refine bodyPost_ret (results_cell1 (b := w.heap.size) (o := 0) (cs := (Rs.mk 2 [] 0 n).cells) Try.results28 rfl K5.rangeAll hd.out hdr info_res) rfl ⟨rfl, HK.ends.trans (T5.below HK.ends.size (by simp))⟩
end Go.Proofs.Ytbmepaglhkndpaa.Kv
