/-
  Contract of package kv (layer 10): Copy, by the shelf's contract of maps.Clone; what a range over the map keeps. Conditions: those that it names.
-/
import Derived.Test.YtbmepaglhkndpaaShelf
import Derived.Test.YtbmepaglhkndpaaKvE
namespace Go.Proofs.Ytbmepaglhkndpaa.Kv
open Go.RowKit Go.Proofs.Ytbmepaglhkndpaa.Mem Go.Proofs.Ytbmepaglhkndpaa.Ops
open Go.Maps (has size)

theorem ranges_turned {S : List Nat} {w w' : World} {b r n : Nat} {D : DD} {left : Lit → Bool} {cnt : Nat} (h : w.ranges Try.prog TK elemR b r n D left cnt) (t : Turned S w w') (hb : b ∉ S) (hr : r ∉ S) : w'.ranges Try.prog TK elemR b r n D left cnt := by
  have h1 := h.owns.lt
  have h2 := h.lt
  obtain ⟨es, clock, since, seen, c0, hb', F, hs, hD, hr', rest⟩ := h
  exact ⟨es, clock, since, seen, c0, (t.block b h1 hb).trans hb', F, hs, hD, (t.block r h2 hr).trans hr', rest⟩
theorem maps_clone (w : World) (m : Nat) (L : List C) (h : MapAt w m L) : Calls Try.prog 39 #[.map (some m)] w fun e w' => e = .returned (.map (some w.heap.size)) ∧ MapAt w' w.heap.size L ∧ Below w.heap.size w w' :=
  (AnyW.maps_Clone_owns Try.cloneC TK elemR m L.length (datum L) w h.owns).mono fun _ _ ⟨he, ho, _, hb⟩ => ⟨he, ⟨ho, h.rise, h.keys, h.many⟩, hb⟩
set_option maxRecDepth 100000
set_option maxHeartbeats 4000000
theorem copy_at (w : World) (p m : Nat) (L : List C) (h : StAt w p m L) : Calls Try.prog 27 #[ptr p] w fun e w' => ∃ q r, e = .returned (ptr q) ∧ StAt w' q r L ∧ w.heap.size ≤ q ∧ w.heap.size ≤ r ∧ Below w.heap.size w w' := by
  have c0 : w.cell? ⟨p, 0, none⟩ = some (.map (some m)) := h.blk.cell 0
  have N := Lib.hid (none_at w p m L h)
  have MC := Lib.hid (maps_clone w m L h.map)
  clear h
  go_enter Try.func27, Try.ntmps27
  go_wp2_with (first
    | (go_at_call 38; refine N.out.mono ?_; rintro e w2 ⟨rfl, rfl⟩)
    | (go_at_call 39; refine MC.out.mono ?_; rintro e w3 ⟨rfl, hM, hB⟩; replace hM := Lib.hid hM; replace hB := Lib.hid hB))
  go_ret
  have hs := hB.out.size
  have hl := hM.out.lt
  have hb := Blk.new w3 TS [.map (some w2.heap.size)]
  have hm := hM.out.same (w' := w3.alloc (.cells [Value.map (some w2.heap.size)].toArray TS)) (Below.heap_alloc _ _ _ (by omega))
  exact ⟨_, _, rfl, ⟨hb, hm⟩, by omega, by omega, hB.out.alloc (by omega) _⟩
end Go.Proofs.Ytbmepaglhkndpaa.Kv
