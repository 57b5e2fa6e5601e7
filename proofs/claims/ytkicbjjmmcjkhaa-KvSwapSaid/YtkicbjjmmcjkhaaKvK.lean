/-
  Contract of package kv (layer 10): Keys, by the shelf's contracts of maps.Keys and slices.Sorted. Conditions: those that it names.
-/
import Derived.Test.YtkicbjjmmcjkhaaKvA
import Derived.Test.YtkicbjjmmcjkhaaShelf
import Derived.Sort.OwnSorted
import Derived.Shelf.SlIter.Nil
import Derived.Shelf.SortM.Plain
import Derived.Shelf.SortM.SortNone
namespace Go.Proofs.Ytkicbjjmmcjkhaa.Kv
open Go.RowKit Go.Proofs.Ytkicbjjmmcjkhaa.Mem Go.Proofs.Ytkicbjjmmcjkhaa.Ops
open Go.Maps (has size)
open Go.Sort (Holds)

def keyR (L : List C) : List Value := L.map (fun c => .string ⟨c.key.toArray⟩)
theorem lt_list : ∀ a b : List UInt8, lt a b = decide (a < b)
  | [], [] => by simp [lt, Op.bytesLess]
  | [], _ :: _ => by simp [lt, Op.bytesLess]
  | _ :: _, [] => by simp [lt, Op.bytesLess]
  | a :: x, b :: y => by
    have ih := lt_list x y
    show (decide (a < b) || (a == b && Op.bytesLess x y)) = _
    rw [show Op.bytesLess x y = decide (x < y) from ih]
    simp only [List.cons_lt_cons_iff, Bool.decide_or, Bool.decide_and]
    congr 1
theorem keys_sorted {L : List C} (h : Rising L) : (L.map (·.key)).mergeSort leB = L.map (·.key) := by
  refine List.mergeSort_of_pairwise ?_
  refine List.pairwise_map.2 (h.imp fun hab => ?_)
  rw [lt_list, decide_eq_true_eq] at hab
  simp only [leB, decide_eq_true_eq]
  exact List.le_of_lt hab
theorem keyR_eq (L : List C) : keyR L = (L.map (·.key)).map encStr := by simp [keyR, encStr]
theorem info_str : (Try.prog.info? TK).map (fun i => (i.zero, i.size, i.bytes)) = some (some (.string ⟨#[]⟩), 1, 16) := by kernel_rfl
abbrev TSl : TypeId := 43
theorem ownsRow_low {w : World} {base base' : Nat} {e : TypeId} {size n : Nat} {v : Value} {xs : List Value} (h : w.ownsRow base e size v n xs) (hb : base' ≤ base) : w.ownsRow base' e size v n xs := by
  obtain ⟨h1, h2⟩ := h
  refine ⟨h1, ?_⟩
  rcases h2 with h2 | ⟨g, cap, cur, h3, h4, h5⟩
  · exact .inl h2
  · exact .inr ⟨g, cap, cur, h3, by omega, h5⟩
theorem turned_none {w w' : World} (h : w.grownBy w' none) : Turned [] w w' := ⟨h.os, h.tape, h.output, h.size, fun k hk _ => h.block k hk (by simp)⟩

section
open Go.Shelf Go.Sort
theorem sorts (m : Nat) : AnyZ.SortsIn Try.prog Try.sorted29_ren Fence.wide m :=
  ⟨fun blk off cap ss W hH hblk hsz => callsIn_wide.2 (AnyM.slices_Sort_string Try.sort35 blk off cap ss W hH hblk hsz),
   fun p cap W => callsIn_wide.2 (AnyM.slices_Sort_string_none Try.sort35 p cap W)⟩
/-- What maps.Keys hands back: a function value over a new block that holds the map. -/
abbrev seqV (w : World) : Value := .func (.func 36) #[] #[.pointer (some ⟨w.heap.size, 0, none⟩)]
abbrev seqW (m : Nat) (w : World) : World := w.alloc (.cells #[.map (some m)] TM)
theorem maps_keys (m : Nat) (W : World) : Calls Try.prog 30 #[.map (some m)] W fun e w' => e = .returned (seqV W) ∧ w' = seqW m W :=
  callsIn_wide.1 (AnyZ.keys_in Try.keys30 Fence.wide 5 trivial rfl (some m) W)
theorem maps_sorted (b nn : Nat) (D0 : DD) (w : World) (hown : w.ownsMap Try.prog TK elemR b nn D0) (hmax : Maps.size D0 ≤ maxLen) (hbytes : Maps.size D0 * 16 ≤ 140737488355328) :
    Calls Try.prog 29 #[seqV w] (seqW b w) fun e w' => ∃ (v : Value) (ss : List (List UInt8)), e = .returned v ∧ ss.Perm (strKeys D0) ∧
      w'.ownsRow (seqW b w).heap.size TK 1 v ss.length ((ss.mergeSort (fun x y => decide (x ≤ y))).map encStr) ∧ Below (seqW b w).heap.size (seqW b w) w' := by
  have hbl := hown.lt
  have hseq : SeqGives Fence.wide 2 Try.prog 36 #[.pointer (some ⟨w.heap.size, 0, none⟩)] encStr (fun ss => ss.Perm (strKeys D0)) (Maps.size D0) (seqW b w) :=
    AnyZ.keys_gives (ρ := Try.keys30_ren) { Try.keys30 with } Fence.wide _ trivial rfl (by omega) w.heap.size b nn D0 _ (by simp) (by simp) (by
      obtain ⟨es, clock, hb, Ft, hs, hD⟩ := hown
      exact ⟨es, clock, (Below.heap_alloc _ _ b hbl).trans hb, Ft, hs, hD⟩)
  refine (callsIn_wide.1 (AnyZ.sorted_in Try.sorted29 Fence.wide 5 trivial trivial trivial trivial rfl (by omega) (sorts _) (enters_of Try.func35 (by kernel_rfl) rfl) 36 #[.pointer (some ⟨w.heap.size, 0, none⟩)] trivial (enters_of Try.func36 (by kernel_rfl) rfl) _ _ hmax hbytes _ hseq)).mono ?_
  rintro e w' ⟨v, ss, rfl, hS, hrow, _, hb⟩
  exact ⟨v, ss, rfl, hS, hrow, hb⟩
end
set_option maxRecDepth 100000
set_option maxHeartbeats 2000000
theorem keys_at (w : World) (p m : Nat) (L : List C) (h : StAt w p m L) : Calls Try.prog 17 #[ptr p] w fun e w' => ∃ v, e = .returned v ∧ w'.ownsRow w.heap.size TK 1 v L.length (keyR L) ∧ Below w.heap.size w w' := by
  have c0 : w.cell? ⟨p, 0, none⟩ = some (.map (some m)) := h.blk.cell 0
  have N := Lib.hid (none_at w p m L h)
  have hsd := size_datum L
  have hmany := h.map.many
  have MK := Lib.hid (maps_keys m w)
  have MS := Lib.hid (maps_sorted m L.length (datum L) w h.map.owns (by rw [hsd]; unfold maxLen; omega) (by rw [hsd]; omega))
  have hB : Below w.heap.size w (seqW m w) := (Below.refl _ _).alloc (Nat.le_refl _) _
  have hsz : w.heap.size ≤ (seqW m w).heap.size := hB.size
  have hrise := h.map.rise
  replace hB := Lib.hid hB
  replace hsz := Lib.hid hsz
  clear h hsd
  go_enter Try.func17, Try.ntmps17
  go_wp2_with (first
    | (go_at_call 20; refine N.out.mono ?_; rintro e w2 ⟨rfl, rfl⟩)
    | (go_at_call 30; refine MK.out.mono ?_; rintro e w3 ⟨rfl, rfl⟩)
    | (go_at_call 29; refine MS.out.mono ?_; rintro e w4 ⟨v, ss, rfl, hS, hrow, hb⟩))
  go_ret
  rw [keys_datum] at hS
  have hlen : ss.length = L.length := by simpa using hS.length_eq
  have hsort : (ss.mergeSort (fun x y => decide (x ≤ y))).map encStr = keyR L := by
    rw [show ss.mergeSort (fun x y => decide (x ≤ y)) = (L.map (·.key)).mergeSort leB from mergeSort_of_perm hS, keys_sorted hrise, keyR_eq]
  rw [hsort, hlen] at hrow
  exact ⟨_, rfl, ownsRow_low hrow hsz.out, hB.out.trans (hb.mono hsz.out)⟩
end Go.Proofs.Ytkicbjjmmcjkhaa.Kv
