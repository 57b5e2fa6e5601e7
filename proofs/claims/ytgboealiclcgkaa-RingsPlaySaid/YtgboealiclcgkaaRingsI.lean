/-
  Contracts of package rings (layer 3): Clear, Copy.
-/
import Derived.Test.YtgboealiclcgkaaRingsE
namespace Go.Proofs.Ytgboealiclcgkaa.Rings
open Go.RowKit Go.Proofs.Ytgboealiclcgkaa.Mem
attribute [local go_sem ↓] execLoadF
attribute [local go_sem] loadF

def ClearP (w : World) (p q n : Nat) (e : Ending) (w' : World) : Prop := e = .returned (.tuple #[]) ∧ RingAt w' p q n [] [] ∧ Turned [p, q] w w'

set_option maxRecDepth 100000 in
theorem clear_any (w : World) (p q n cp first : Nat) (cs : List Value) (l : List Fr) (I : List Nat) (h : RingMem w p q n cp first cs l I) : Calls Try.prog 15 #[.pointer (some ⟨p, 0, none⟩)] w (ClearP w p q n) := by
  have c0 : w.cell? ⟨p, 0, none⟩ = some (.slice (some ⟨q, 0, none⟩) n cp) := h.hp.cell 0
  have c2 : w.cell? ⟨p, 2, none⟩ = some (.int .i64 l.length) := h.hp.cell 2
  have g1 := h.h1
  have hcl := run_clear_rows w _ _ 0 _ Try.underlying48 zero_val (by simpa [Value.cells] using zero_one) (by decide) q 0 n cp (by omega) (h.hq.there _ _ (by rw [h.len]; have := h.hcp; simp [Value.cells, zeroC, zeroFr]; omega))
  simp only [Value.cells] at hcl
  have hzl : (Builtin.zeroCells zeroC.toArray n).toList.length = n * 29 := by rw [Array.length_toList, size_zeroCells]; rfl
  have hz1 := zeroCells_one (z := zeroC.toArray) (by simpa using zero_one) (by decide) n
  generalize (Builtin.zeroCells zeroC.toArray n).toList = zc at *
  have hq1 := h.hq.sets zc 0 (by rw [hzl, h.len]; have := h.hcp; omega)
  have hp1 := h.hp.setsOther h.ne 0 zc
  have hT := (Turned.of_below (Below.refl w.heap.size w)).mono (S' := [p, q]) (by simp)
  have hT1 := (hT.setCells (b := q) (.inl (by simp)) 0 zc).setCell (p := ⟨p, 2, none⟩) (.inl (by simp)) (.int .i64 0)
  have d2 := hp1.cell 2
  have f2 := hp1.free 2
  simp at d2
  have hp2 := hp1.set 2 (.int .i64 0)
  have hq2 := hq1.setOther (a := ⟨p, 2, none⟩) h.ne.symm (.int .i64 0)
  generalize w.setCells q 0 zc = W at *
  replace hp1 := Lib.hid hp1
  replace hp2 := Lib.hid hp2
  replace hq1 := Lib.hid hq1
  replace hq2 := Lib.hid hq2
  go_enter Try.func15, Try.ntmps15
  go_wp2_with (go_at_call 24; refine (none_is _ p (some ⟨q, 0, none⟩) n cp c0 g1).mono ?_; rintro e w2 ⟨rfl, rfl⟩)
  go_end0
  refine ⟨rfl, ⟨cp, first, _, hp2.out, hq2.out, by rw [length_splice _ _ _ (by rw [hzl, h.len]; have := h.hcp; omega), h.len], h.hcp, h.hcm, splice_one h.one hz1 (by rw [hzl, h.len]; have := h.hcp; omega), h.hf, h.h1, h.h64, by simp, h.ne, fun j x hx => by simp at hx, by simp, by simp, by simp⟩, hT1⟩

set_option maxRecDepth 100000 in
theorem clone_frame (w : World) (v : Value) (n : Nat) (cs : List Value) (I : List Nat) (h : SlAt w v n cs I) (hl : cs.length = n * 29) (h1 : ∀ u ∈ cs, u.oneCell' = true) (hn : n * 288 ≤ 140737488355328) :
    Calls Try.prog 26 #[v] w (Own w 42 29 n cs) := by
  obtain ⟨ao, cap, rfl, hc, hm, hnil, hat⟩ := h
  have qn : ∀ (w : World) (a : Option Addr) (n c n' c' : Nat), (binOp .eql 48 (.slice a n c) (.slice none n' c')).run Try.prog w = .ok (.bool a.isNone) w := fun w a n c n' c' => Lib.run_eql_slice_nil w _ _ a n c n' c' Try.underlying48
  cases ao with
  | none =>
    obtain ⟨rfl, rfl, rfl⟩ := hnil rfl
    clear hnil hat
    go_enter Try.func26, Try.ntmps26
    go_wp2
    go_ret
    exact ⟨_, rfl, World.ownsRow_nil _ _ _ _, Below.refl _ _⟩
  | some a =>
    obtain ⟨hsp, hr⟩ := hat _ rfl
    have hcell : ∀ (x : Obj) j u, cs[j]? = some u → (w.alloc x).cell? (a.add j) = some u := fun x j u hu => by
      have hn0 : 0 < n := by
        rcases Nat.eq_zero_or_pos n with rfl | h0
        · have e0 : cs = [] := List.length_eq_zero_iff.1 (by simpa using hl)
          rw [e0] at hu; cases hu
        · exact h0
      obtain ⟨b, o, sp⟩ := a
      obtain rfl : sp = none := (hsp hn0).1
      exact cellsAt_of_range (rangeAt_alloc hr x) j u hu
    obtain ⟨i0, hi, hz0, hz1, hz2⟩ := info_parts info_frameZ
    clear hnil hat
    unfold maxLen at hm
    have hown := owns_newN w 42 [] 29 0 rfl (by simp [maxLen])
    go_enter Try.func26, Try.ntmps26
    go_wp2_with (at_builtin; refine wpList_append_own _ rfl _ _ 48 rfl w.heap.size 42 i0 _ 29 288 Try.underlying48 hi hz0 hz1 hz2 rfl (by decide) _ 0 [] rfl hown a n cap cs rfl hl (hcell _) h1 (by unfold maxLen; omega) (by omega) (by simp) ?_; intro v' w1 hown1 hgrow1 _)
    go_ret
    simp only [Nat.zero_add, List.nil_append] at hown1
    exact ⟨_, rfl, hown1, ((Below.refl _ _).alloc (Nat.le_refl _) _).grown hgrow1 (by simp) (fun k hk => by cases hk; exact Nat.le_refl _)⟩

def CopyP (w : World) (n : Nat) (l : List Fr) (I : List Nat) (e : Ending) (w' : World) : Prop :=
  ∃ p' q', e = .returned (.pointer (some ⟨p', 0, none⟩)) ∧ RingAt w' p' q' n l I ∧ w.heap.size ≤ p' ∧ w.heap.size ≤ q' ∧ Below w.heap.size w w'

set_option maxRecDepth 100000 in
theorem copy_any (w : World) (p q n cp first : Nat) (cs : List Value) (l : List Fr) (I : List Nat) (h : RingMem w p q n cp first cs l I) : Calls Try.prog 16 #[.pointer (some ⟨p, 0, none⟩)] w (CopyP w n l I) := by
  have c0 : w.cell? ⟨p, 0, none⟩ = some (.slice (some ⟨q, 0, none⟩) n cp) := h.hp.cell 0
  have c1 : w.cell? ⟨p, 1, none⟩ = some (.int .i64 first) := h.hp.cell 1
  have c2 : w.cell? ⟨p, 2, none⟩ = some (.int .i64 l.length) := h.hp.cell 2
  have g1 := h.h1
  have hlt := h.hp.lt
  go_enter Try.func16, Try.ntmps16
  go_wp2_with (go_at_call 24; refine (none_is _ p (some ⟨q, 0, none⟩) n cp c0 g1).mono ?_; rintro e w2 ⟨rfl, rfl⟩)
  have hB1 : Below w2.heap.size w2 (w2.alloc (Obj.cells #[.slice (some ⟨q, 0, none⟩) n cp, .int .i64 first, .int .i64 l.length] 60)) := (Below.refl _ _).alloc (Nat.le_refl _) _
  have hK1 := Blk.new w2 60 [.slice (some ⟨q, 0, none⟩) n cp, .int .i64 first, .int .i64 l.length]
  have h1 := h.below hB1
  have hW : ∃ W, W = w2.alloc (Obj.cells #[.slice (some ⟨q, 0, none⟩) n cp, .int .i64 first, .int .i64 l.length] 60) := ⟨_, rfl⟩
  obtain ⟨W, hW⟩ := hW
  rw [← hW] at hB1 h1 ⊢
  have hK1' : Blk W w2.heap.size 60 [.slice (some ⟨q, 0, none⟩) n cp, .int .i64 first, .int .i64 l.length] := by rw [hW]; exact hK1
  clear hW hK1
  have hnc := h.hcp
  have hlen := h.len
  have h64 := h.h64
  refine (clone_frame W _ n (cs.take (n * 29)) [q] ⟨some ⟨q, 0, none⟩, cp, rfl, hnc, h.hcm, (fun e => by cases e), fun a ha => by
    cases ha
    exact ⟨fun _ => ⟨rfl, by simp⟩, h1.hq.range 0 (n * 29)⟩⟩ (by simp; omega) (fun u hu => by
    obtain ⟨j, hj, rfl⟩ := List.getElem_of_mem hu
    rw [List.length_take] at hj
    exact h.one j _ (by omega) (by rw [List.getElem_take]; exact List.getElem?_eq_getElem (by omega))) (by omega)).mono ?_
  rintro e w3 ⟨v, rfl, hown, hB2⟩
  have hK3 := hK1'.below hB2 hK1'.lt
  have f0 := hK3.free 0
  have d0 := hK3.cell 0
  simp at d0
  rcases hown with ⟨hol, ⟨-, h0⟩ | ⟨g, cap, cur, rfl, hg, hgh, hgn, hgm, hgs, hgt⟩⟩
  · omega
  have hKf := hK3.set 0 (.slice (some ⟨g, 0, none⟩) n cap)
  have hKq : Blk w3 g 42 cur.toList := by unfold Blk; simpa using hgh
  have hgW : w2.heap.size < g := Nat.lt_of_lt_of_le hK1'.lt hg
  have hKq' := hKq.setOther (a := ⟨w2.heap.size, 0, none⟩) (by show g ≠ w2.heap.size; omega) (.slice (some ⟨g, 0, none⟩) n cap)
  have hBf : Below w2.heap.size w2 (w3.setCell ⟨w2.heap.size, 0, none⟩ (.slice (some ⟨g, 0, none⟩) n cap)) := (hB1.trans (hB2.mono hB1.size)).setCell (Nat.le_refl _) _
  replace hKf := Lib.hid hKf
  replace hKq' := Lib.hid hKq'
  replace hBf := Lib.hid hBf
  clear hKq hK3 hgh
  go_wp2
  go_ret
  have hpc : ∀ m, m < n → (cur.toList.drop (m * 29)).take 29 = (cs.drop (m * 29)).take 29 := fun m hm => by
    have e : ((cur.toList.take (n * 29)).drop (m * 29)).take 29 = ((cs.take (n * 29)).drop (m * 29)).take 29 := by rw [hgt]
    rw [List.drop_take, List.drop_take, List.take_take, List.take_take, Nat.min_eq_left (by omega)] at e
    exact e
  refine ⟨w2.heap.size, g, rfl, ⟨cap, first, cur.toList, hKf.out, hKq'.out, by simpa using hgs, hgn, hgm, fun j u hj hu => ?_, h.hf, h.h1, h.h64, h.hl, by omega, fun j x hx => ?_, ?_, ?_, ?_⟩, Nat.le_refl _, by omega, hBf.out⟩
  · have e : (cur.toList.take (n * 29))[j]? = (cs.take (n * 29))[j]? := by rw [hgt]
    simp only [List.getElem?_take] at e
    rw [if_pos hj, if_pos hj] at e
    exact h.one j u hj (e ▸ hu)
  · obtain ⟨hx1, hx2⟩ := h.fr j x hx
    refine ⟨hx1, ?_⟩
    rw [hpc _ (Nat.mod_lt _ (by omega))]
    exact hx2.same hx1 (fun b hb => hBf.out.block b (h.lt b hb))
  · intro hm; have := h.lt _ hm; omega
  · intro hm; have := h.lt _ hm; omega
  · intro b hb; have := h.lt b hb; have := hBf.out.size; omega

section
variable (w : World) (p q n : Nat) (l : List Fr) (I : List Nat) (h : RingAt w p q n l I)
include h
theorem clear_at : Calls Try.prog 15 #[.pointer (some ⟨p, 0, none⟩)] w (ClearP w p q n) := by
  obtain ⟨cp, first, cs, h⟩ := h
  exact clear_any w p q n cp first cs l I h
theorem copy_at : Calls Try.prog 16 #[.pointer (some ⟨p, 0, none⟩)] w (CopyP w n l I) := by
  obtain ⟨cp, first, cs, h⟩ := h
  exact copy_any w p q n cp first cs l I h
end
end Go.Proofs.Ytgboealiclcgkaa.Rings
