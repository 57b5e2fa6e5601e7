/-
  Contracts of package rings (layer 3): New, At, Front, Len, Cap.
-/
import Derived.Test.YtgboealiclcgkaaRingsB
namespace Go.Proofs.Ytgboealiclcgkaa.Rings
open Go.RowKit Go.Proofs.Ytgboealiclcgkaa.Mem
attribute [local go_sem ↓] execLoadF execStoreF
attribute [local go_sem] loadF storeF

def z0 : Value := .int .i64 0
def zs : Value := .string ⟨#[]⟩
/-- The frame that is zero. -/
def zeroFr : Fr := ⟨[z0, z0, z0, z0, z0, z0, z0, z0, zs, zs, z0, z0, zs, z0, z0, z0, z0, z0, z0, z0, zs, zs, z0, z0], [z0, z0, z0, z0], []⟩
def zeroC : List Value := zeroFr.pre ++ .slice none 0 0 :: zeroFr.post
theorem zero_ok : FrOk zeroFr zeroFr.n := ⟨rfl, rfl, rfl, by decide, by simp [zeroFr], by decide⟩
theorem zero_at (w : World) : FrAt w zeroC zeroFr zeroFr.n [] := ⟨.slice none 0 0, rfl, none, 0, rfl, Nat.le_refl _, by simp [maxLen], fun _ => ⟨rfl, rfl, rfl⟩, fun _ h => by cases h⟩

def atS (l : List Fr) (i : Int) : Option Fr := if i < 0 then none else l[i.toNat]?

def AtP (w : World) (l : List Fr) (i : Int) (e : Ending) (w' : World) : Prop :=
  ∃ cs J, e = .returned (.tuple #[.agg cs.toArray, .bool (atS l i).isSome]) ∧ FrAt w' cs ((atS l i).getD zeroFr) ((atS l i).getD zeroFr).n J ∧ (∀ b ∈ J, w.heap.size ≤ b ∧ b < w'.heap.size ∧ ∀ o, w'.frozen? ⟨b, o, none⟩ = false) ∧ Below w.heap.size w w'

set_option maxRecDepth 100000 in
theorem at_in (w : World) (p q n cp first : Nat) (cs : List Value) (l : List Fr) (I : List Nat) (h : RingMem w p q n cp first cs l I) (i : Int) (hi : 0 ≤ i ∧ i < l.length) :
    Calls Try.prog 14 #[.pointer (some ⟨p, 0, none⟩), .int .i64 i] w (AtP w l i) := by
  have c0 : w.cell? ⟨p, 0, none⟩ = some (.slice (some ⟨q, 0, none⟩) n cp) := h.hp.cell 0
  have c1 : w.cell? ⟨p, 1, none⟩ = some (.int .i64 first) := h.hp.cell 1
  have c2 : w.cell? ⟨p, 2, none⟩ = some (.int .i64 l.length) := h.hp.cell 2
  have g1 := h.h1
  have g2 := h.h64
  have g3 := h.hl
  have plt := h.hp.lt
  have pne : p ≠ w.heap.size := by omega
  obtain ⟨d, hd, hdr⟩ := row_frame
  obtain ⟨hi0, hi1⟩ := hi
  obtain ⟨m, rfl⟩ := Int.eq_ofNat_of_zero_le hi0
  have hm : m < l.length := by omega
  have HA := Lib.hid (show atS l (m : Int) = some l[m] by unfold atS; rw [if_neg (by omega), Int.toNat_natCast, List.getElem?_eq_getElem hm])
  obtain ⟨ok, hfr⟩ := h.fr m l[m] (List.getElem?_eq_getElem hm)
  generalize l[m] = x at *
  go_enter Try.func14, Try.ntmps14
  go_wp2_with (go_at_call 24; refine (none_is _ p (some ⟨q, 0, none⟩) n cp (by simp [c0, World.cell?_alloc_lt, plt]) g1).mono ?_; rintro e w2 ⟨rfl, rfl⟩)
  have hbW : Below w.heap.size w (w.alloc (.cells zeroC.toArray 42)) := (Below.refl _ _).alloc (Nat.le_refl _) _
  have hb3 := Blk.new w 42 zeroC
  have hWs : w.heap.size < (w.alloc (.cells zeroC.toArray 42)).heap.size := by simp
  simp only [zeroC, zeroFr, z0, zs, List.cons_append, List.nil_append] at hbW hb3 hWs
  generalize w.alloc (Obj.cells _ _) = W at *
  have HR := h.below hbW
  have hfr' : FrAt W ((cs.drop ((first + m) % n * 29)).take 29) x x.n I := hfr.same ok (fun b hb => hbW.block b (h.lt b hb))
  clear c0 c1 c2 hfr
  have hS : Held [w.heap.size] W W := Held.refl _ _
  have pn : p ∉ [w.heap.size] := by simpa using pne
  have qn : q ∉ [w.heap.size] := by have := h.hq.lt; simp; omega
  have hk : (first + m) % n < n := Nat.mod_lt _ (by omega)
  have hpc : ((cs.drop ((first + m) % n * 29)).take 29).length = 29 := by have := h.hcp; simp [h.len]; omega
  have L0 : ∀ w', Held [w.heap.size] W w' → w'.cell? ⟨p, 0, none⟩ = some (.slice (some ⟨q, 0, none⟩) n cp) := fun w' hw => hw.cell (HR.hp.cell 0) pn
  have L1 : ∀ w', Held [w.heap.size] W w' → w'.cell? ⟨p, 1, none⟩ = some (.int .i64 first) := fun w' hw => hw.cell (HR.hp.cell 1) pn
  have L3 : ∀ w', Held [w.heap.size] W w' → World.hasRow w' q ((first + m) % n * 29) 29 := fun w' hw => hasRow_of_range (hw.range (HR.hq.range _ 29) qn) hpc
  have L4 : ∀ w', Held [w.heap.size] W w' → World.row w' q ((first + m) % n * 29) 29 = (cs.drop ((first + m) % n * 29)).take 29 := fun w' hw => row_of_range (hw.range (HR.hq.range _ 29) qn) hpc
  have L5 : ∀ w', Held [w.heap.size] W w' → w'.there w.heap.size 0 29 := fun w' hw => hw.there (hb3.there 0 29 (by simp))
  have L6 : ∀ w', Held [w.heap.size] W w' → FrAt w' ((cs.drop ((first + m) % n * 29)).take 29) x x.n I := fun w' hw => hfr'.same ok (fun b hb => hw.turned.block b (HR.lt b hb) (by have := h.lt b hb; simp; omega))
  have ix0 : (0 : Int) ≤ (((first + m) % n : Nat) : Int) := by omega
  have ix1 : (((first + m) % n : Nat) : Int) < (n : Int) := by omega
  generalize hixx : (first + m) % n = k at *
  have HIX := Lib.hid hixx
  clear hixx
  generalize (cs.drop (k * 29)).take 29 = fc at *
  go_region_held3 (Held [w.heap.size] W)
    (first
      | assumption
      | (exact Held.drew (by assumption))
      | (exact Held.drewN (by assumption) _)
      | (exact Held.below (by assumption) (by assumption))
      | (exact Held.setCells (by assumption) (by simp) _ _))
    (first
      | (go_at_call 23; refine (place_any _ p q n cp first m (L0 _ (by assumption)) (L1 _ (by assumption)) g1 g2 h.hf (by omega)).mono ?_; rintro e w2 ⟨rfl, k', rfl⟩; rw [HIX.out])
      | (go_at_call 25; refine (own_any _ fc x x.n I (L6 _ (by assumption)) ok).mono ?_; rintro e w2 ⟨fc', I', rfl, hfa, hfr, hbel⟩; have hbel0 : Below W.heap.size W w2 := (below_drewN (Below.refl _ _) _).trans hbel; have hcN := fr_cellsN hfa ok))
  have hl29 := (fr_cells hfa ok).1
  have HQ := (hb3.below hbel0 (by simpa using hWs)).sets fc' 0 (by rw [hl29]; simp)
  rw [show ∀ L : List Value, L.length = 29 → splice L 0 fc' = fc' from fun L hL => by unfold splice; rw [List.drop_of_length_le (by omega)]; simp] at HQ
  · go_wp2
    refine bodyPost_ret (results_cell2 (b := w.heap.size) (o := 0) (cs := fc') Try.results14 rfl HQ.rangeAll hd hdr (by rw [hl29]; exact info_frame)) rfl ⟨fc', I', ?_, ?_, ?_, ?_⟩
    · rw [HA.out]; rfl
    · rw [HA.out]
      exact hfa.same ok (fun b hb => heap_setCells _ b (by have := (hfr b hb).1; simp at this; omega) _ _ _)
    · intro b hb
      rw [size_setCells]
      have := hfr b hb
      simp at this
      exact ⟨by omega, this.2.1, fun o => by rw [World.frozen?_setCells]; exact this.2.2 o⟩
    · exact below_set (hbW.trans (hbel0.mono (by omega))) (Nat.le_refl _) _ _
  · rfl

theorem zero_new (w : World) : ∃ W, W = w.alloc (.cells zeroC.toArray 42) ∧ Below w.heap.size w W ∧ Blk W w.heap.size 42 zeroC ∧ W.there w.heap.size 0 29 ∧ Blk (W.setCells w.heap.size 0 zeroC) w.heap.size 42 zeroC ∧ (∀ b o, b < w.heap.size → W.cell? ⟨b, o, none⟩ = w.cell? ⟨b, o, none⟩) := by
  have hb3 := Blk.new w 42 zeroC
  have HF := hb3.sets zeroC 0 (by decide)
  rw [show splice zeroC 0 zeroC = zeroC from rfl] at HF
  exact ⟨_, rfl, (Below.refl _ _).alloc (Nat.le_refl _) _, hb3, hb3.there 0 29 (by decide), HF, fun b o hb => World.cell?_alloc_lt _ _ _ hb⟩
theorem zero_lit : zeroC.toArray = #[.int .i64 0, .int .i64 0, .int .i64 0, .int .i64 0, .int .i64 0, .int .i64 0, .int .i64 0, .int .i64 0, .string ⟨#[]⟩, .string ⟨#[]⟩, .int .i64 0, .int .i64 0, .string ⟨#[]⟩, .int .i64 0, .int .i64 0, .int .i64 0, .int .i64 0, .int .i64 0, .int .i64 0, .int .i64 0, .string ⟨#[]⟩, .string ⟨#[]⟩, .int .i64 0, .int .i64 0, .slice none 0 0, .int .i64 0, .int .i64 0, .int .i64 0, .int .i64 0] := rfl

set_option maxRecDepth 100000 in
theorem at_out (w : World) (p q n cp first : Nat) (cs : List Value) (l : List Fr) (I : List Nat) (h : RingMem w p q n cp first cs l I) (i : Int) (hi : ¬ (0 ≤ i ∧ i < l.length)) :
    Calls Try.prog 14 #[.pointer (some ⟨p, 0, none⟩), .int .i64 i] w (AtP w l i) := by
  have c0 : w.cell? ⟨p, 0, none⟩ = some (.slice (some ⟨q, 0, none⟩) n cp) := h.hp.cell 0
  have c2 : w.cell? ⟨p, 2, none⟩ = some (.int .i64 l.length) := h.hp.cell 2
  have g1 := h.h1
  have plt := h.hp.lt
  have HA := Lib.hid (show atS l i = none by unfold atS; split; rfl; rw [List.getElem?_eq_none (by omega)])
  obtain ⟨W, hW, hbW, hb3, ht3, HF, hcell⟩ := zero_new w
  rw [← hcell p 0 plt] at c0
  rw [← hcell p 2 plt] at c2
  rw [zero_lit] at hW
  replace ht3 := Lib.hid ht3
  replace HF := Lib.hid HF
  replace hbW := Lib.hid hbW
  clear hcell hb3
  have hout : i < 0 ∨ (0 ≤ i ∧ (l.length : Int) ≤ i) := by omega
  clear h
  rcases hout with hneg | ⟨hpos, hbig⟩
  · have t1 : decide (i < 0) = true := by simpa using hneg
    go_enter Try.func14, Try.ntmps14
    go_wp2_with fail
    rw [← hW]
    clear hW
    refine (none_is _ p (some ⟨q, 0, none⟩) n cp c0 g1).mono ?_
    rintro e w2 ⟨rfl, rfl⟩
    go_wp2_with (refine wpList_store_mid rfl 42 _ _ rfl w.heap.size 0 zeroC.toArray rfl rfl ht3.out info_frame (fr_cellsN (zero_at w) zero_ok).2 ?_)
    obtain ⟨d, hd, hdr⟩ := row_frame
    refine bodyPost_ret (results_cell2 (b := w.heap.size) (o := 0) (cs := zeroC) Try.results14 rfl HF.out.rangeAll hd hdr info_frame) rfl ⟨zeroC, [], ?_, ?_, by simp, ?_⟩
    · rw [HA.out]; rfl
    · rw [HA.out]; exact zero_at _
    · exact below_set hbW.out (Nat.le_refl _) _ _
  · have t1 : decide (i < 0) = false := by simpa using hpos
    have t2 : decide ((l.length : Int) ≤ i) = true := by simpa using hbig
    go_enter Try.func14, Try.ntmps14
    go_wp2_with fail
    rw [← hW]
    clear hW
    refine (none_is _ p (some ⟨q, 0, none⟩) n cp c0 g1).mono ?_
    rintro e w2 ⟨rfl, rfl⟩
    go_wp2_with (refine wpList_store_mid rfl 42 _ _ rfl w.heap.size 0 zeroC.toArray rfl rfl ht3.out info_frame (fr_cellsN (zero_at w) zero_ok).2 ?_)
    obtain ⟨d, hd, hdr⟩ := row_frame
    refine bodyPost_ret (results_cell2 (b := w.heap.size) (o := 0) (cs := zeroC) Try.results14 rfl HF.out.rangeAll hd hdr info_frame) rfl ⟨zeroC, [], ?_, ?_, by simp, ?_⟩
    · rw [HA.out]; rfl
    · rw [HA.out]; exact zero_at _
    · exact below_set hbW.out (Nat.le_refl _) _ _

theorem at_any (w : World) (p q n cp first : Nat) (cs : List Value) (l : List Fr) (I : List Nat) (h : RingMem w p q n cp first cs l I) (i : Int) :
    Calls Try.prog 14 #[.pointer (some ⟨p, 0, none⟩), .int .i64 i] w (AtP w l i) := by
  by_cases hi : 0 ≤ i ∧ i < l.length
  · exact at_in w p q n cp first cs l I h i hi
  · exact at_out w p q n cp first cs l I h i hi

end Go.Proofs.Ytgboealiclcgkaa.Rings
