/-
  Contracts of package rings (layer 3): New, Front, Len, Cap, Pop.
-/
import Derived.Test.YtgboealiclcgkaaRingsC
namespace Go.Proofs.Ytgboealiclcgkaa.Rings
open Go.RowKit Go.Proofs.Ytgboealiclcgkaa.Mem

theorem info_frameZ : (Try.prog.info? 42).map (fun i => (i.zero, i.size, i.bytes)) = some (some (.agg zeroC.toArray), 29, 288) := by kernel_rfl
theorem zero_one : ∀ u ∈ zeroC, u.oneCell' = true := (fr_cells (zero_at default) zero_ok).2

theorem new_bad (n : Int) (w : World) (h : n < 1 ∨ 64 < n) : Calls Try.prog 8 #[.int .i64 n] w fun e w' => e = .returned (.tuple #[.pointer none, .int .i64 2]) ∧ w' = w := by
  go_enter Try.func8, Try.ntmps8
  go_wp2
  all_goals first | (go_ret2; exact ⟨rfl, rfl⟩) | (exfalso; omega)

def NewP (w : World) (n : Nat) (e : Ending) (w' : World) : Prop := ∃ p q, e = .returned (.tuple #[.pointer (some ⟨p, 0, none⟩), .int .i64 0]) ∧ RingAt w' p q n [] [] ∧ w.heap.size ≤ p ∧ w.heap.size ≤ q ∧ Below w.heap.size w w'

theorem new_good (n : Nat) (w : World) (h1 : 1 ≤ n) (h2 : n ≤ 64) : Calls Try.prog 8 #[.int .i64 (n : Int)] w (NewP w n) := by
  obtain ⟨i0, hi, hz0, hz1, hz2⟩ := info_parts info_frameZ
  have hmk := fun W => run_make_rowN (P := Try.prog) 48 42 i0 _ Try.underlying48 hi hz0 .i64 .i64 n n (Nat.le_refl _) (by rw [hz2]; omega) (by omega) W
  rw [hz1] at hmk
  have hcl : (madeCells zeroC.toArray (n * 29)).toList.length = n * 29 := by rw [Array.length_toList, size_madeCells]
  have hone := made_one (z := zeroC.toArray) (by simpa using zero_one) (by decide) (n * 29)
  simp only [Value.cells] at hmk
  have hq : Blk (w.alloc (.cells (madeCells zeroC.toArray (n * 29)) 42)) w.heap.size 42 (madeCells zeroC.toArray (n * 29)).toList := by
    have := Blk.new w 42 (madeCells zeroC.toArray (n * 29)).toList
    simpa using this
  have hB : Below w.heap.size w (w.alloc (.cells (madeCells zeroC.toArray (n * 29)) 42)) := (Below.refl _ _).alloc (Nat.le_refl _) _
  have hsz : (w.alloc (.cells (madeCells zeroC.toArray (n * 29)) 42)).heap.size = w.heap.size + 1 := by simp
  generalize madeCells zeroC.toArray (n * 29) = C at *
  clear hi hz0 hz1 hz2
  replace hsz := Lib.hid hsz
  go_enter Try.func8, Try.ntmps8
  go_wp2
  go_ret2
  refine ⟨w.heap.size + 1, w.heap.size, rfl, ⟨n, 0, C.toList, ?_, hq.alloc _, hcl, Nat.le_refl _, by unfold maxLen; omega, fun j u _ hu => hone u (List.mem_of_getElem? hu), h1, h1, h2, by simp, by omega, fun j x hx => by simp at hx, by simp, by simp, by simp⟩, by omega, Nat.le_refl _, hB.alloc (by rw [hsz.out]; omega) _⟩
  have := Blk.new (w.alloc (Obj.cells C 42)) 60 [.slice (some ⟨w.heap.size, 0, none⟩) n n, .int .i64 0, .int .i64 0]
  rw [hsz.out] at this
  exact this

section
variable (w : World) (p q n cp first : Nat) (cs : List Value) (l : List Fr) (I : List Nat) (h : RingMem w p q n cp first cs l I)
include h
theorem len_any : Calls Try.prog 21 #[.pointer (some ⟨p, 0, none⟩)] w fun e w' => e = .returned (.int .i64 l.length) ∧ w' = w := by
  have c0 : w.cell? ⟨p, 0, none⟩ = some (.slice (some ⟨q, 0, none⟩) n cp) := h.hp.cell 0
  have c2 : w.cell? ⟨p, 2, none⟩ = some (.int .i64 l.length) := h.hp.cell 2
  have g1 := h.h1
  go_enter Try.func21, Try.ntmps21
  go_wp2_with (go_at_call 24; refine (none_is _ p (some ⟨q, 0, none⟩) n cp c0 g1).mono ?_; rintro e w2 ⟨rfl, rfl⟩)
  go_ret
  exact ⟨rfl, rfl⟩
theorem cap_any : Calls Try.prog 22 #[.pointer (some ⟨p, 0, none⟩)] w fun e w' => e = .returned (.int .i64 n) ∧ w' = w := by
  have c0 : w.cell? ⟨p, 0, none⟩ = some (.slice (some ⟨q, 0, none⟩) n cp) := h.hp.cell 0
  have g1 := h.h1
  go_enter Try.func22, Try.ntmps22
  go_wp2_with (go_at_call 24; refine (none_is _ p (some ⟨q, 0, none⟩) n cp c0 g1).mono ?_; rintro e w2 ⟨rfl, rfl⟩)
  go_ret
  exact ⟨rfl, rfl⟩

set_option maxRecDepth 100000 in
theorem front_any : Calls Try.prog 12 #[.pointer (some ⟨p, 0, none⟩)] w (AtP w l 0) := by
  obtain ⟨W, hW, hbW, hb3, ht3, -, hcell⟩ := zero_new w
  rw [zero_lit] at hW
  replace ht3 := Lib.hid ht3
  replace hb3 := Lib.hid hb3
  have HR := h.below hbW
  have hws : w.heap.size < W.heap.size := hb3.out.lt
  replace hbW := Lib.hid hbW
  clear hcell h
  go_enter Try.func12, Try.ntmps12
  go_wp2_with fail
  rw [← hW]
  clear hW
  refine (at_any W p q n cp first cs l I HR 0).mono ?_
  rintro e w2 ⟨fc, J, rfl, hfa, hJ, hbel⟩
  have ok : FrOk ((atS l 0).getD zeroFr) ((atS l 0).getD zeroFr).n := by
    cases ha : atS l 0 with
    | none => exact zero_ok
    | some x => exact (HR.fr 0 x (by simpa [atS] using ha)).1
  generalize hBe : (atS l 0).isSome = B at *
  generalize hxe : (atS l 0).getD zeroFr = x at *
  replace hBe := Lib.hid hBe
  replace hxe := Lib.hid hxe
  have hl29 := (fr_cells hfa ok).1
  have hl29' : fc.toArray.size = 29 := by simpa using hl29
  have hcN := fr_cellsN hfa ok
  have hb4 := hb3.out.below hbel hws
  have HF := Lib.hid (hb4.sets fc 0 (by rw [hl29]; decide))
  replace hfa := Lib.hid hfa
  have ht4 := Lib.hid (hb4.there 0 29 (by decide))
  clear HR
  go_wp2_with (refine wpList_store_mid rfl 42 _ _ rfl w.heap.size 0 fc.toArray rfl rfl (by rw [hl29']; exact ht4.out) (by rw [hl29']; exact info_frame) hcN.2 ?_)
  obtain ⟨d, hd, hdr⟩ := row_frame
  have HQ := HF.out
  rw [show splice zeroC 0 fc = fc by unfold splice; rw [List.drop_of_length_le (by rw [hl29]; decide)]; simp] at HQ
  refine bodyPost_ret (results_cell2 (b := w.heap.size) (o := 0) (cs := fc) Try.results12 rfl HQ.rangeAll hd hdr (by rw [hl29]; exact info_frame)) rfl ⟨fc, J, ?_, ?_, ?_, ?_⟩
  · rw [hBe.out]; rfl
  · rw [hxe.out]; exact hfa.out.same ok (fun b hb => heap_setCells _ b (by have := (hJ b hb).1; omega) _ _ _)
  · intro b hb
    rw [size_setCells]
    have := hJ b hb
    exact ⟨by omega, this.2.1, fun o => by rw [World.frozen?_setCells]; exact this.2.2 o⟩
  · exact below_set (hbW.out.trans (hbel.mono (by omega))) (Nat.le_refl _) _ _
end

theorem ring_pop {w w' : World} {p q n cp first : Nat} {cs zc : List Value} {x : Fr} {l : List Fr} {I : List Nat} (h : RingMem w p q n cp first cs (x :: l) I)
    (hT : Turned [p, q] w w') (hz : zc.length = 29) (hz1 : ∀ u ∈ zc, u.oneCell' = true) (hp : Blk w' p 60 [.slice (some ⟨q, 0, none⟩) n cp, .int .i64 ((first + 1) % n : Nat), .int .i64 l.length]) (hq : Blk w' q 42 (splice cs (first * 29) zc)) :
    RingMem w' p q n cp ((first + 1) % n) (splice cs (first * 29) zc) l I := by
  have hf := h.hf
  have hl := h.hl
  simp at hl
  refine ⟨hp, hq, by rw [length_splice _ _ _ (by rw [h.len, hz]; have := h.hcp; omega), h.len], h.hcp, h.hcm, splice_one h.one hz1 (by rw [h.len, hz]; have := h.hcp; omega), Nat.mod_lt _ (by omega), h.h1, h.h64, by omega, h.ne, fun j y hy => ?_, h.pI, h.qI, fun b hb => Nat.lt_of_lt_of_le (h.lt b hb) hT.size⟩
  have hj : j < l.length := (List.getElem?_eq_some_iff.1 hy).1
  obtain ⟨hy1, hy2⟩ := h.fr (j + 1) y (by simpa using hy)
  refine ⟨hy1, ?_⟩
  have e : ((first + 1) % n + j) % n = (first + (j + 1)) % n := by rw [Nat.mod_add_mod]; congr 1; omega
  have e0 : (first + 0) % n = first := Nat.mod_eq_of_lt (by omega)
  have hne := mod_ne first (j + 1) 0 n (by omega) (by omega) (by omega)
  rw [e0] at hne
  rw [e, piece_other cs zc first _ cp h.len hz (Nat.lt_of_lt_of_le hf h.hcp) hne]
  exact hy2.same hy1 (fun b hb => hT.block b (h.lt b hb) (by have := h.pI; have := h.qI; simp; exact ⟨fun e => by subst e; contradiction, fun e => by subst e; contradiction⟩))

/-- What Pop answers. -/
def PopP (w : World) (p q n : Nat) (l : List Fr) (I : List Nat) (e : Ending) (w' : World) : Prop :=
  ∃ cs J, e = .returned (.tuple #[.agg cs.toArray, .bool (atS l 0).isSome]) ∧ FrAt w' cs ((atS l 0).getD zeroFr) ((atS l 0).getD zeroFr).n J ∧ (∀ b ∈ J, w.heap.size ≤ b ∧ b < w'.heap.size) ∧ RingAt w' p q n l.tail I ∧ Turned [p, q] w w'

set_option maxRecDepth 100000 in
set_option maxHeartbeats 400000 in
theorem pop_any (w : World) (p q n cp first : Nat) (cs : List Value) (l : List Fr) (I : List Nat) (h : RingMem w p q n cp first cs l I) : Calls Try.prog 10 #[.pointer (some ⟨p, 0, none⟩)] w (PopP w p q n l I) := by
  obtain ⟨W, hW, hbW, hb3, ht3, -, hcell⟩ := zero_new w
  rw [zero_lit] at hW
  have HR := h.below hbW
  have HR0 := h
  have hws : w.heap.size < W.heap.size := hb3.lt
  replace hb3 := Lib.hid hb3
  replace hbW := Lib.hid hbW
  clear hcell ht3 h
  cases l with
  | nil =>
    go_enter Try.func10, Try.ntmps10
    go_wp2_with fail
    rw [← hW]
    clear hW
    refine (front_any W p q n cp first cs [] I HR).mono ?_
    rintro e w2 ⟨fc, J, rfl, hfa, hJ, hbel⟩
    simp only [show atS [] 0 = none from rfl, Option.isSome_none, Option.getD_none] at hfa ⊢
    have ok := zero_ok
    have hl29 := (fr_cells hfa ok).1
    have hl29' : fc.toArray.size = 29 := by simpa using hl29
    have hcN := fr_cellsN hfa ok
    have hb4 := hb3.out.below hbel hws
    have HQ := hb4.sets fc 0 (by rw [hl29]; decide)
    have ht4 := Lib.hid (hb4.there 0 29 (by decide))
    rw [show splice zeroC 0 fc = fc by unfold splice; rw [List.drop_of_length_le (by rw [hl29]; decide)]; simp] at HQ
    have HQ2 := HQ.sets fc 0 (by omega)
    rw [show splice fc 0 fc = fc by unfold splice; rw [List.drop_of_length_le (by omega)]; simp] at HQ2
    have hB2 := below_set (hbW.out.trans (hbel.mono (by omega))) (Nat.le_refl _) 0 fc
    have hB3 := below_set hB2 (Nat.le_refl _) 0 fc
    replace hfa := Lib.hid hfa
    replace HQ := Lib.hid HQ
    replace HQ2 := Lib.hid HQ2
    replace hB3 := Lib.hid hB3
    obtain ⟨d, hd, hdr⟩ := row_frame
    replace hd := Lib.hid hd
    clear HR hB2 hb4 hbel
    replace HR0 := Lib.hid HR0
    go_wp2_with (first
      | (refine wpList_store_mid rfl 42 _ _ rfl w.heap.size 0 fc.toArray rfl rfl (by rw [hl29']; exact ht4.out) (by rw [hl29']; exact info_frame) hcN.2 ?_)
      | (refine wpList_load_mid rfl 42 _ rfl w.heap.size 0 rfl fc d HQ.out.rangeAll hd.out hdr (by rw [hl29]; exact info_frame) ?_)
      | (refine wpList_store_mid rfl 42 _ _ rfl w.heap.size 0 fc.toArray rfl rfl (by rw [hl29']; exact HQ.out.there 0 29 (by omega)) (by rw [hl29']; exact info_frame) hcN.2 ?_))
    refine bodyPost_ret (results_cell2 (b := w.heap.size) (o := 0) (cs := fc) Try.results10 rfl HQ2.out.rangeAll hd.out hdr (by rw [hl29]; exact info_frame)) rfl ⟨fc, J, rfl, ?_, fun b hb => ?_, ?_, ?_⟩
    · exact hfa.out.same ok (fun b hb => by have := hJ b hb; rw [heap_setCells _ b (by omega), heap_setCells _ b (by omega)])
    · rw [size_setCells, size_setCells]
      have := hJ b hb
      exact ⟨by omega, by omega⟩
    · exact ⟨cp, first, cs, HR0.out.below hB3.out⟩
    · exact (Turned.of_below hB3.out).mono (by simp)
  | cons x l =>
    go_enter Try.func10, Try.ntmps10
    go_wp2_with fail
    rw [← hW]
    clear hW
    refine (front_any W p q n cp first cs (x :: l) I HR).mono ?_
    rintro e w2 ⟨fc, J, rfl, hfa, hJ, hbel⟩
    have ok : FrOk x x.n := (HR.fr 0 x rfl).1
    have HR2 := HR.below hbel
    simp only [show atS (x :: l) 0 = some x from rfl, Option.isSome_some, Option.getD_some] at hfa ⊢
    have hl29 := (fr_cells hfa ok).1
    have hl29' : fc.toArray.size = 29 := by simpa using hl29
    have hcN := fr_cellsN hfa ok
    have hb4 := hb3.out.below hbel hws
    have HF := Lib.hid (hb4.sets fc 0 (by rw [hl29]; decide))
    replace hfa := Lib.hid hfa
    have ht4 := Lib.hid (hb4.there 0 29 (by decide))
    go_wp2_with (refine wpList_store_mid rfl 42 _ _ rfl w.heap.size 0 fc.toArray rfl rfl (by rw [hl29']; exact ht4.out) (by rw [hl29']; exact info_frame) hcN.2 ?_)
    have HQ := HF.out
    rw [show splice zeroC 0 fc = fc by unfold splice; rw [List.drop_of_length_le (by rw [hl29]; decide)]; simp] at HQ
    have hb2 : Below w.heap.size w (w2.setCells w.heap.size 0 fc) := below_set (hbW.out.trans (hbel.mono (by omega))) (Nat.le_refl _) _ _
    have HR3 : RingMem (w2.setCells w.heap.size 0 fc) p q n cp first cs (x :: l) I := HR0.below hb2
    have HFA : FrAt (w2.setCells w.heap.size 0 fc) fc x x.n J := hfa.out.same ok (fun b hb => heap_setCells _ b (by have := (hJ b hb).1; omega) _ _ _)
    have HJ : ∀ b ∈ J, w.heap.size < b ∧ b < (w2.setCells w.heap.size 0 fc).heap.size := fun b hb => by rw [size_setCells]; have := hJ b hb; omega
    clear HR HR2 hb3 hb4 HF hfa ht4 hbel hcN
    generalize w2.setCells w.heap.size 0 fc = W2 at *
    have hH : Held [q] W2 W2 := Held.refl _ _
    have pq : p ∉ [q] := by simpa using HR3.ne
    have g1 := HR3.h1
    have g2 := HR3.h64
    have hf := HR3.hf
    have L0 : ∀ w', Held [q] W2 w' → w'.cell? ⟨p, 0, none⟩ = some (.slice (some ⟨q, 0, none⟩) n cp) := fun w' hw => hw.cell (HR3.hp.cell 0) pq
    have L1 : ∀ w', Held [q] W2 w' → w'.cell? ⟨p, 1, none⟩ = some (.int .i64 first) := fun w' hw => hw.cell (HR3.hp.cell 1) pq
    have hzv : ∀ w, (zeroValue 42).run Try.prog w = .ok (.agg zeroC.toArray) w := fun w => by kernel_rfl
    have hcl : ∀ w' c, Held [q] W2 w' → (Builtin.clear_ #[48] 0 #[.slice (some ⟨q, first * 29, none⟩) 1 c]).run Try.prog w' = .ok (.tuple #[]) (w'.setCells q (first * 29) (Builtin.zeroCells zeroC.toArray 1).toList) := fun w' c hw =>
      run_clear_rows w' _ _ _ _ Try.underlying48 hzv (by simpa [Value.cells] using zero_one) (by decide) q (first * 29) 1 c (by omega) (hw.there (HR3.hq.there _ _ (by rw [HR3.len]; have := HR3.hcp; simp [Value.cells, zeroC, zeroFr]; omega)))
    have ix0 : (0 : Int) ≤ (first : Int) := by omega
    have hcp := HR3.hcp
    have hcm := HR3.hcm
    unfold maxLen at hcm
    have ix1 : (first : Int) + 1 ≤ (cp : Int) := by omega
    have ix2 : (0 : Int) ≤ (first : Int) + 1 := by omega
    have ix3 : (first : Int) ≤ (cp : Int) := by omega
    have ix4 : first < cp := by omega
    have ix5 : IntKind.i64.wrap ((first : Int) + 1) = (first : Int) + 1 := IntWalk.i64_in _ (by omega)
    have ix6 : ((first : Int) + 1).toNat = first + 1 := by omega
    have ix7 : first + 1 ≤ cp := by omega
    have ix8 : first ≠ cp := by omega
    go_region_held3 (Held [q] W2)
      (first
        | assumption
        | (exact Held.drew (by assumption))
        | (exact Held.drewN (by assumption) _)
        | (exact Held.below (by assumption) (by assumption))
        | (exact Held.setCells (by assumption) (by simp) _ _))
      (fail)
    have hll := HR3.hl
    simp at hll
    have pS : p ≠ w.heap.size := by have := HR0.hp.lt; omega
    have qS : q ≠ w.heap.size := by have := HR0.hq.lt; omega
    have hzl : (Builtin.zeroCells zeroC.toArray 1).toList.length = 29 := by rw [Array.length_toList, size_zeroCells]; rfl
    have hz1 := zeroCells_one (z := zeroC.toArray) (by simpa using zero_one) (by decide) 1
    have HW := ‹Held [q] W2 (W2.drew.setCells q (first * 29) (Builtin.zeroCells zeroC.toArray 1).toList)›
    have HB := Blk.sets (w := W2.drew) (Builtin.zeroCells zeroC.toArray 1).toList (first * 29) HR3.hq (by rw [hzl, HR3.len]; have := HR3.hcp; omega)
    generalize (Builtin.zeroCells zeroC.toArray 1).toList = zc at *
    generalize W2.drew.setCells q (first * 29) zc = W3 at *
    have hp3 := HW.blk HR3.hp pq
    have hw3 := HW.blk HQ (b := w.heap.size) (by simp; omega)
    clear L0 L1 hcl
    have d0 := hp3.cell 0
    have d1 := hp3.cell 1
    have d2 : W3.cell? ⟨p, 2, none⟩ = some (.int .i64 ((l.length : Int) + 1)) := by rw [hp3.cell]; simp
    have f1 := hp3.free 1
    have f2 := hp3.free 2
    simp at d0 d1
    clear ix5 ix6 ix8
    go_wp2_with fail
    refine (place_any W3 p q n cp first 1 d0 d1 g1 g2 hf g1).mono ?_
    rintro e w4 ⟨rfl, k, rfl⟩
    have hp4 := ((hp3.drewN k).set 1 (.int .i64 ((first + 1) % n : Nat))).set 2 (.int .i64 l.length)
    have hw4 := ((hw3.drewN k).setOther (a := ⟨p, 1, none⟩) pS.symm (.int .i64 ((first + 1) % n : Nat))).setOther (a := ⟨p, 2, none⟩) pS.symm (.int .i64 l.length)
    have hq4 := ((HB.drewN k).setOther (a := ⟨p, 1, none⟩) HR3.ne.symm (.int .i64 ((first + 1) % n : Nat))).setOther (a := ⟨p, 2, none⟩) HR3.ne.symm (.int .i64 l.length)
    have hT4 : Turned [p, q] W2 (((W3.drewN k).setCell ⟨p, 1, none⟩ (.int .i64 ((first + 1) % n : Nat))).setCell ⟨p, 2, none⟩ (.int .i64 l.length)) := (((HW.turned.mono (fun _ _ h => List.mem_cons_of_mem _ h)).drewN k).setCell (.inl (by simp)) _).setCell (.inl (by simp)) _
    have hcN := fr_cellsN HFA ok
    have hq5 := hq4.setsOther (k := w.heap.size) qS 0 fc
    have hp5 := hp4.setsOther (k := w.heap.size) pS 0 fc
    have hw5 := hw4.sets fc 0 (by omega)
    rw [show splice fc 0 fc = fc by unfold splice; rw [List.drop_of_length_le (by omega)]; simp] at hw5
    have hT5 : Turned [p, q] w ((((W3.drewN k).setCell ⟨p, 1, none⟩ (.int .i64 ((first + 1) % n : Nat))).setCell ⟨p, 2, none⟩ (.int .i64 l.length)).setCells w.heap.size 0 fc) :=
      (((Turned.of_below hb2).mono (S' := [p, q]) (by simp)).trans hT4 (fun _ _ h => h)).setCells (.inr (Nat.le_refl _)) 0 fc
    have hF5 : FrAt ((((W3.drewN k).setCell ⟨p, 1, none⟩ (.int .i64 ((first + 1) % n : Nat))).setCell ⟨p, 2, none⟩ (.int .i64 l.length)).setCells w.heap.size 0 fc) fc x x.n J := HFA.same ok (fun b hb => by
      have := HJ b hb
      have := HR0.hp.lt
      have := HR0.hq.lt
      rw [heap_setCells _ b (by omega)]
      exact hT4.block b (by omega) (by simp; omega))
    have hS5 := hT4.size
    replace hq5 := Lib.hid hq5
    replace hp5 := Lib.hid hp5
    replace hw5 := Lib.hid hw5
    replace hT5 := Lib.hid hT5
    replace hF5 := Lib.hid hF5
    replace hq4 := Lib.hid hq4
    replace hp4 := Lib.hid hp4
    replace hT4 := Lib.hid hT4
    replace hw4 := Lib.hid hw4
    obtain ⟨d, hd, hdr⟩ := row_frame
    replace hd := Lib.hid hd
    generalize hFe : (first + 1) % n = F at *
    replace hFe := Lib.hid hFe
    go_wp2_with (first
      | (refine wpList_load_mid rfl 42 _ rfl w.heap.size 0 rfl fc d hw4.out.rangeAll hd.out hdr (by rw [hl29]; exact info_frame) ?_)
      | (refine wpList_store_mid rfl 42 _ _ rfl w.heap.size 0 fc.toArray rfl rfl (by rw [hl29']; exact hw4.out.there 0 29 (by omega)) (by rw [hl29']; exact info_frame) hcN.2 ?_))
    have HP := ring_pop HR0 hT5.out hzl hz1 (by rw [hFe.out]; exact hp5.out) hq5.out
    rw [hFe.out] at HP
    refine bodyPost_ret (results_cell2 (b := w.heap.size) (o := 0) (cs := fc) Try.results10 rfl hw5.out.rangeAll hd.out hdr (by rw [hl29]; exact info_frame)) rfl ⟨fc, J, rfl, hF5.out, fun b hb => ?_, ⟨cp, F, _, HP⟩, hT5.out⟩
    rw [size_setCells]
    have := HJ b hb
    exact ⟨by omega, by omega⟩
end Go.Proofs.Ytgboealiclcgkaa.Rings
