/-
  Contracts of the document's answer for layer 3 (fairwayref03): New, Push, At, Pop.
-/
import Derived.Test.YtgboealiclcgkaaRingsE
import Derived.Test.YtgboealiclcgkaaBuild
import Derived.Deep.RegionLaw
namespace Go.Proofs.Ytgboealiclcgkaa.Rings
open Go.RowKit Go.Proofs.Ytgboealiclcgkaa.Mem
section
variable (ρ : Operand → Value) (dst : Option Tmp) (x y : Operand) (tt : TypeId) (pos : String) (af : Array Edge) (g : Option (Nat × Bool)) (w : World)
theorem execSliceF : (execOp ρ ⟨dst, .buildSlice 48 1 #[(0, x)], tt, pos, af, g⟩).run Try.prog w = s1Run Try.prog 48 w (ρ x) := exec_slice1 _ _ _ _ _ _ _ _ _
end
theorem sliceF (w : World) (cells : Array Value) (hc : CellsN 29 cells) : s1Run Try.prog 48 w (.agg cells) = .ok (.value (.slice (some ⟨w.heap.size, 0, none⟩) 1 1)) (w.alloc (.cells cells 42)) := by
  obtain ⟨i0, hi, hz0, hz1, hz2⟩ := info_parts info_frameZ
  exact s1Run_row w _ _ 29 cells i0 _ Try.underlying48 hi hz0 hz1 (by decide) (by decide) hc
attribute [local go_sem ↓] execLoadF execSliceF
attribute [local go_sem] loadF sliceF Held.alloc Held.drew

/-- The document's ring, as it lies in memory: p: its block; I: the blocks of its list and of the members. -/
structure RefAt (w : World) (p n : Nat) (l : List Fr) (I : List Nat) : Prop where
  ex : ∃ L cs, Blk w p 50 [.int .i64 n, L] ∧ SlAt w L l.length cs I ∧ cs.length = l.length * 29 ∧ (∀ u ∈ cs, u.oneCell' = true) ∧ ∀ j x, l[j]? = some x → FrOk x x.n ∧ FrAt w ((cs.drop (j * 29)).take 29) x x.n I
  pI : p ∉ I
  lt : ∀ b ∈ I, b < w.heap.size

theorem rnew_bad (n : Int) (w : World) (h : n < 1 ∨ 64 < n) : Calls Try.prog 9 #[.int .i64 n] w fun e w' => e = .returned (.tuple #[.pointer none, .int .i64 2]) ∧ w' = w := by
  go_enter Try.func9, Try.ntmps9
  go_wp2
  all_goals (go_ret2; exact ⟨rfl, rfl⟩)

def RNewP (w : World) (n : Nat) (e : Ending) (w' : World) : Prop := ∃ p, e = .returned (.tuple #[.pointer (some ⟨p, 0, none⟩), .int .i64 0]) ∧ RefAt w' p n [] [] ∧ w.heap.size ≤ p ∧ Below w.heap.size w w'
theorem rnew_good (n : Nat) (w : World) (h1 : 1 ≤ n) (h2 : n ≤ 64) : Calls Try.prog 9 #[.int .i64 (n : Int)] w (RNewP w n) := by
  go_enter Try.func9, Try.ntmps9
  go_wp2
  go_ret2
  exact ⟨w.heap.size, rfl, ⟨⟨.slice none 0 0, [], Blk.new w _ [.int .i64 n, .slice none 0 0], ⟨none, 0, rfl, Nat.le_refl _, by simp [maxLen], fun _ => ⟨rfl, rfl, rfl⟩, fun _ h => by cases h⟩, rfl, by simp, fun j x hx => by simp at hx⟩, by simp, by simp⟩, Nat.le_refl _, (Below.refl _ _).alloc (Nat.le_refl _) _⟩

theorem RefAt.same {w w' : World} {p n : Nat} {l : List Fr} {I : List Nat} (h : RefAt w p n l I) (hs : ∀ b, b = p ∨ b ∈ I → w'.heap[b]? = w.heap[b]?) (hz : w.heap.size ≤ w'.heap.size) : RefAt w' p n l I := by
  obtain ⟨⟨L, cs, h1, h2, h3, h4, h5⟩, h6, h7⟩ := h
  exact ⟨⟨L, cs, h1.of_same (hs p (.inl rfl)), h2.same (fun e => List.length_eq_zero_iff.1 (by rw [h3, e])) (fun b hb => hs b (.inr hb)), h3, h4, fun j x hx => ⟨(h5 j x hx).1, (h5 j x hx).2.same (h5 j x hx).1 (fun b hb => hs b (.inr hb))⟩⟩, h6, fun b hb => Nat.lt_of_lt_of_le (h7 b hb) hz⟩
theorem RefAt.plt {w : World} {p n : Nat} {l : List Fr} {I : List Nat} (h : RefAt w p n l I) : p < w.heap.size := by
  obtain ⟨⟨L, cs, h1, _⟩, _⟩ := h
  exact h1.lt
theorem RefAt.below {w w' : World} {p n : Nat} {l : List Fr} {I : List Nat} (h : RefAt w p n l I) (hb : Below w.heap.size w w') : RefAt w' p n l I :=
  h.same (fun b hb' => hb.block b (hb'.elim (fun e => e ▸ h.plt) (h.lt b))) hb.size

/-- What Push answers. -/
def RPushP (w : World) (p n : Nat) (l : List Fr) (I : List Nat) (x : Fr) (e : Ending) (w' : World) : Prop :=
  e = .returned (.bool (decide (l.length ≠ n))) ∧ ∃ I', RefAt w' p n (if l.length = n then l else l ++ [x]) I' ∧ (∀ b ∈ I', b ∈ I ∨ w.heap.size ≤ b) ∧ Turned [p] w w'

theorem rpush_full (w : World) (p n : Nat) (l : List Fr) (I : List Nat) (h : RefAt w p n l I) (hl : l.length = n) (fc : List Value) (x : Fr) : Calls Try.prog 18 #[.pointer (some ⟨p, 0, none⟩), .agg fc.toArray] w (RPushP w p n l I x) := by
  have h0 := h
  obtain ⟨⟨L, cs, h1, ⟨ao, cap, rfl, hc, hm, -, -⟩, -⟩, -, -⟩ := h
  have hB : Below w.heap.size w (w.alloc (.cells fc.toArray 42)) := (Below.refl _ _).alloc (Nat.le_refl _) _
  have c0 : w.cell? ⟨p, 0, none⟩ = some (.int .i64 n) := h1.cell 0
  have c1 : w.cell? ⟨p, 1, none⟩ = some (.slice ao l.length cap) := h1.cell 1
  have hp := h1.lt
  have hz : ((l.length : Int) == (n : Int)) = true := beq_iff_eq.2 (by omega)
  have HL := Lib.hid hl
  clear hl h1
  unfold maxLen at hm
  go_enter Try.func18, Try.ntmps18
  go_wp2_with fail
  go_quiet (fail)
  go_wp2
  go_ret
  refine ⟨ret_bool (by simp [HL.out]), I, ?_, fun b hb => .inl hb, (Turned.of_below (below_drewN hB _)).mono (by simp)⟩
  rw [if_pos HL.out]
  exact h0.below (below_drewN hB _)

theorem slat_mono {w : World} {v : Value} {n : Nat} {cs : List Value} {I I' : List Nat} (h : SlAt w v n cs I) (hs : ∀ b ∈ I, b ∈ I') : SlAt w v n cs I' := by
  obtain ⟨ao, cap, h1, h2, h3, h4, h5⟩ := h
  exact ⟨ao, cap, h1, h2, h3, h4, fun a ha => ⟨fun hn => ⟨((h5 a ha).1 hn).1, hs _ ((h5 a ha).1 hn).2⟩, (h5 a ha).2⟩⟩

/-- The list with a frame more. -/
theorem ref_push {w W5 : World} {p n base : Nat} {l : List Fr} {I K : List Nat} {L0 Lv : Value} {cs gc : List Value} {x : Fr} (hp : Blk w p 50 [.int .i64 n, L0]) (h3 : cs.length = l.length * 29) (h4 : ∀ u ∈ cs, u.oneCell' = true)
    (h5 : ∀ j y, l[j]? = some y → FrOk y y.n ∧ FrAt w ((cs.drop (j * 29)).take 29) y y.n I) (h6 : p ∉ I) (h7 : ∀ b ∈ I, b < w.heap.size) (hx : FrAt w gc x x.n K) (ok : FrOk x x.n) (hK : ∀ b ∈ K, base ≤ b ∧ b < w.heap.size) (hpb : p < base) (hbw : base ≤ w.heap.size)
    (hH : Held [] w W5) (hown : W5.ownsRow w.heap.size 42 29 Lv (l.length + 1) (cs ++ gc)) :
    ∃ I', RefAt (W5.setCell ⟨p, 1, none⟩ Lv) p n (l ++ [x]) I' ∧ (∀ b ∈ I', b ∈ I ∨ base ≤ b) := by
  obtain ⟨K5, hs, hk5⟩ := SlAt.of_own hown
  obtain ⟨hgl, hg1⟩ := fr_cells hx ok
  have hsame : ∀ b, b < w.heap.size → b ≠ p → (W5.setCell ⟨p, 1, none⟩ Lv).heap[b]? = w.heap[b]? := fun b hb hne => (Below.heap_setCell W5 ⟨p, 1, none⟩ Lv b hne).trans (hH.turned.block b hb (by simp))
  have hz : (W5.setCell ⟨p, 1, none⟩ Lv).heap.size = W5.heap.size := by simp [World.setCell]
  refine ⟨I ++ (K ++ K5), ⟨⟨Lv, cs ++ gc, ?_, ?_, by simp [h3, hgl]; omega, fun u hu => (List.mem_append.1 hu).elim (h4 u) (hg1 u), fun j y hy => ?_⟩, ?_, ?_⟩, ?_⟩
  · exact (hH.blk hp (by simp)).set 1 Lv
  · have e : (l ++ [x]).length = l.length + 1 := by simp
    rw [e]
    exact slat_mono (hs.same (fun h => by omega) (fun b hb => Below.heap_setCell W5 _ _ b (by have := (hk5 b hb).1; show b ≠ p; omega))) (fun b hb => List.mem_append_right _ (List.mem_append_right _ hb))
  · rcases Nat.lt_trichotomy j l.length with hj | hj | hj
    · rw [List.getElem?_append_left hj] at hy
      obtain ⟨hy1, hy2⟩ := h5 j y hy
      refine ⟨hy1, ?_⟩
      rw [List.drop_append_of_le_length (by omega), List.take_append_of_le_length (by simp; omega)]
      exact (hy2.same hy1 (fun b hb => hsame b (h7 b hb) (fun e => h6 (e ▸ hb)))).mono (fun b hb => List.mem_append_left _ hb)
    · subst hj
      rw [List.getElem?_append_right (Nat.le_refl _)] at hy
      simp at hy
      subst hy
      refine ⟨ok, ?_⟩
      rw [← h3, List.drop_left, List.take_of_length_le (by omega)]
      exact (hx.same ok (fun b hb => hsame b (hK b hb).2 (by have := (hK b hb).1; omega))).mono (fun b hb => List.mem_append_right _ (List.mem_append_left _ hb))
    · rw [List.getElem?_eq_none (by simp; omega)] at hy
      cases hy
  · intro hm
    rcases List.mem_append.1 hm with hm | hm
    · exact h6 hm
    · rcases List.mem_append.1 hm with hm | hm
      · have := (hK _ hm).1; omega
      · have := (hk5 _ hm).1; omega
  · intro b hm
    rw [hz]
    have := hH.turned.size
    rcases List.mem_append.1 hm with hm | hm
    · have := h7 b hm; omega
    · rcases List.mem_append.1 hm with hm | hm
      · have := (hK _ hm).2; omega
      · exact (hk5 _ hm).2.1
  · intro b hm
    rcases List.mem_append.1 hm with hm | hm
    · exact .inl hm
    · rcases List.mem_append.1 hm with hm | hm
      · exact .inr (hK _ hm).1
      · have := (hk5 _ hm).1; exact .inr (by omega)

set_option maxRecDepth 100000 in
set_option maxHeartbeats 1000000 in
theorem rpush_room (w : World) (p n : Nat) (l : List Fr) (I : List Nat) (h : RefAt w p n l I) (hl : l.length < n) (hn : n ≤ 64) (fc : List Value) (x : Fr) (J : List Nat) (hx : FrAt w fc x x.n J) (ok : FrOk x x.n) (hJ : ∀ b ∈ J, b < w.heap.size) :
    Calls Try.prog 18 #[.pointer (some ⟨p, 0, none⟩), .agg fc.toArray] w (RPushP w p n l I x) := by
  have h0 := h
  obtain ⟨hfl, hf1⟩ := fr_cells hx ok
  obtain ⟨v, ef, hsl⟩ := hx
  have hm24 : fc[24]? = some v := by rw [ef, List.getElem?_append_right (by rw [ok.pre]; exact Nat.le_refl _), ok.pre]; rfl
  obtain ⟨⟨L, cs, h1, hL, h3, h4, h5⟩, h6, h7⟩ := h
  obtain ⟨ao, cap, rfl, hc, hm, -⟩ := id hL
  obtain ⟨ao', cap', rfl, -⟩ := id hsl
  have hB : Below w.heap.size w (w.alloc (.cells fc.toArray 42)) := (Below.refl _ _).alloc (Nat.le_refl _) _
  have hK := Blk.new w 42 fc
  have c0 : w.cell? ⟨p, 0, none⟩ = some (.int .i64 n) := h1.cell 0
  have c1 : w.cell? ⟨p, 1, none⟩ = some (.slice ao l.length cap) := h1.cell 1
  have hp := h1.lt
  have hz : ((l.length : Int) == (n : Int)) = false := beq_eq_false_iff_ne.2 (by omega)
  have hm' := hm
  unfold maxLen at hm'
  replace ef := Lib.hid ef
  replace h1 := Lib.hid h1
  replace h3 := Lib.hid h3
  replace hm24 := Lib.hid hm24
  go_enter Try.func18, Try.ntmps18
  go_wp2_with fail
  go_quiet (fail)
  replace hB := below_drewN hB nq
  replace hK := hK.drewN nq
  generalize (w.alloc (.cells fc.toArray 42)).drewN nq = W at *
  have e24 := (hK.cell 24).trans hm24.out
  have f24 := hK.free 24
  obtain ⟨i0, hi, hz0, hz1, hz2⟩ := info_parts info_mem
  replace hi := Lib.hid hi
  have hslW : SlAt W (.slice ao' x.n cap') x.n x.mem J := hsl.same (fun e => List.length_eq_zero_iff.1 (by rw [ok.mem, e])) (fun b hb => hB.block b (hJ b hb))
  have hfew := ok.few
  go_wp2_with ((with_reducible show wpList _ _ _ (⟨_, .call _, _, _, _, _⟩ :: _) _ _); refine wpList_append_sl rfl _ _ 38 rfl W.heap.size 54 i0 _ 2 16 Try.underlying38 hi.out hz0 hz1 hz2 rfl (by decide) _ 0 [] rfl (World.ownsRow_nil _ _ _ _) _ x.n x.mem J rfl hslW ok.mem ok.oneM (by unfold maxLen; omega) (by omega) (Nat.le_refl _) ?_; intro v' W2 hown2 hgrow2; simp only [Nat.zero_add, List.nil_append] at hown2; have hB2 : Below W.heap.size W W2 := (Below.refl _ _).grown hgrow2 (Nat.le_refl _) (fun k hk => by cases hk); have hK2 := hK.below hB2 hK.lt; have e24 := (hK2.cell 24).trans hm24.out; have f24 := hK2.free 24; obtain ⟨ao2, k2, cap2, rfl⟩ := owns_slice hown2)
  obtain ⟨K, hKs, hKI⟩ := SlAt.of_own hown2
  have hne24 : ∀ b, b < w.heap.size → b ≠ w.heap.size := fun b hb => by omega
  have hBW : Below w.heap.size w W2 := hB.trans (hB2.mono hB.size)
  have hB3 : Below w.heap.size w (W2.setCell ⟨w.heap.size, 24, none⟩ (.slice ao2 k2 cap2)) := hBW.setCell (Nat.le_refl _) _
  have hK3 := hK2.set 24 (.slice ao2 k2 cap2)
  have hf2 : fc.set 24 (.slice ao2 k2 cap2) = x.pre ++ .slice ao2 k2 cap2 :: x.post := by
    rw [ef.out, List.set_append_right _ _ (by rw [ok.pre]; exact Nat.le_refl _), ok.pre]; rfl
  have hlt2 := hK2.lt
  have hX3 : FrAt (W2.setCell ⟨w.heap.size, 24, none⟩ (.slice ao2 k2 cap2)) (fc.set 24 (.slice ao2 k2 cap2)) x x.n K := ⟨_, hf2, hKs.same (fun e => List.length_eq_zero_iff.1 (by rw [ok.mem, e])) (fun b hb => Below.heap_setCell _ _ _ b (by have := (hKI b hb).1; have := hK.lt; show b ≠ w.heap.size; omega))⟩
  have hKI3 : ∀ b ∈ K, W.heap.size ≤ b ∧ b < (W2.setCell ⟨w.heap.size, 24, none⟩ (.slice ao2 k2 cap2)).heap.size := fun b hb => ⟨(hKI b hb).1, by simpa [World.setCell] using (hKI b hb).2.1⟩
  have hWw := hK.lt
  have hWW3 : W.heap.size ≤ (W2.setCell ⟨w.heap.size, 24, none⟩ (.slice ao2 k2 cap2)).heap.size := by simpa [World.setCell] using hB2.size
  clear hown2 hgrow2 hKs hKI e24 f24 hK2 hB2 hBW hslW hK hB c0 c1 hf2
  generalize W2.setCell ⟨w.heap.size, 24, none⟩ (.slice ao2 k2 cap2) = W3 at *
  have R3 := h0.below hB3
  have hcN := fr_cellsN hX3 ok
  obtain ⟨hgl, hg1⟩ := fr_cells hX3 ok
  generalize fc.set 24 (.slice ao2 k2 cap2) = gc at *
  have hp3 := h1.out.below hB3 hp
  have hL3 : SlAt W3 (.slice ao l.length cap) l.length cs I := hL.same (fun e => List.length_eq_zero_iff.1 (by rw [h3.out, e])) (fun b hb => hB3.block b (h7 b hb))
  have H0 : Held [] W3 W3 := Held.refl _ _
  have H0d : Held [] W3 W3.drew := H0.drew
  have L1 : ∀ w', Held [] W3 w' → w'.cell? ⟨p, 1, none⟩ = some (.slice ao l.length cap) := fun w' hw => hw.cell (hp3.cell 1) (by simp)
  have L2 : ∀ w', Held [] W3 w' → w'.frozen? ⟨p, 1, none⟩ = false := fun w' hw => (hw.blk hp3 (by simp)).free 1
  have L3 : ∀ w', Held [] W3 w' → World.hasRow w' w.heap.size 0 29 := fun w' hw => ((hw.blk hK3 (by simp)).rows hgl).1
  have L4 : ∀ w', Held [] W3 w' → World.row w' w.heap.size 0 29 = gc := fun w' hw => ((hw.blk hK3 (by simp)).rows hgl).2
  have L7 : ∀ w', Held [] W3 w' → SlAt w' (.slice ao l.length cap) l.length cs I := fun w' hw => hL3.same (fun e => List.length_eq_zero_iff.1 (by rw [h3.out, e])) (fun b hb => hw.turned.block b (Nat.lt_of_lt_of_le (h7 b hb) (hB3.size)) (by simp))
  obtain ⟨j0, hj, hjz0, hjz1, hjz2⟩ := info_parts info_frameZ
  replace hj := Lib.hid hj
  replace L7 := Lib.hid L7
  clear hi hz0 hz1 hz2 hL3
  go_region_law (first
    | (refine step_append_sl rfl (.const (.slice none 0 0)) (.tmp 25) 48 rfl W3.heap.size 42 j0 _ 29 288 Try.underlying48 hj.out hjz0 hjz1 hjz2 rfl (by decide) _ 0 [] rfl (World.ownsRow_nil _ _ _ _) _ l.length cs I rfl (L7.out _ (by repeat (first | assumption | exact Held.refl _ _ | apply Held.drew | apply Held.drewN | apply Held.alloc))) h3.out h4 (by unfold maxLen; omega) (by omega) (by simp) ?_; intro v3 W4 hown4 hgrow4; simp only [Nat.zero_add, List.nil_append] at hown4; have hb4 := (Below.refl _ _).grown hgrow4 (Nat.le_refl _) (fun k hk => by cases hk); have hH4 : Held [] W3 W4 := Held.below (by repeat (first | assumption | exact Held.refl _ _ | apply Held.drew | apply Held.drewN | apply Held.alloc)) hb4)
    | (refine step_append_sl rfl (.tmp 26) (.tmp 28) 48 rfl W3.heap.size 42 j0 _ 29 288 Try.underlying48 hj.out hjz0 hjz1 hjz2 rfl (by decide) _ l.length cs rfl (hown4.alloc _) _ 1 gc [W4.heap.size] rfl ⟨_, 1, rfl, Nat.le_refl _, by simp [maxLen], (fun e => by cases e), fun a ha => by cases ha; exact ⟨fun _ => ⟨rfl, by simp⟩, (Blk.new W4 42 gc).rangeAll⟩⟩ (by rw [hgl]) hg1 (by unfold maxLen; omega) (by omega) (by have := hH4.turned.size; simp; omega) ?_; intro v5 W5 hown5 hgrow5; have hb5 := ((hH4.turned.below (Nat.le_refl _) (by simp)).alloc hH4.turned.size _).grown hgrow5 (by have := hH4.turned.size; simp; omega) (fun k hk => (hown4.lt k hk).1); have hH5 : Held [] W3 W5 := H0.below hb5; obtain ⟨ao5, k5, cap5, rfl⟩ := owns_slice hown5)
    | (refine step_append_sl rfl (.tmp 26) (.tmp 28) 48 rfl W3.heap.size 42 j0 _ 29 288 Try.underlying48 hj.out hjz0 hjz1 hjz2 rfl (by decide) _ l.length cs rfl hown4 _ 1 gc [W3.heap.size] rfl ⟨_, 1, rfl, Nat.le_refl _, by simp [maxLen], (fun e => by cases e), fun a ha => by cases ha; exact ⟨fun _ => ⟨rfl, by simp⟩, ((Blk.new W3.drew 42 gc).below hb4 (by simp)).rangeAll⟩⟩ (by rw [hgl]) hg1 (by unfold maxLen; omega) (by omega) (by have := hH4.turned.size; omega) ?_; intro v5 W5 hown5 hgrow5; have hb5 := (hH4.turned.below (Nat.le_refl _) (by simp)).grown hgrow5 (by have := hH4.turned.size; omega) (fun k hk => (hown4.lt k hk).1); have hH5 : Held [] W3 W5 := H0.below hb5; obtain ⟨ao5, k5, cap5, rfl⟩ := owns_slice hown5))
  all_goals
    go_wp2
    go_ret
    refine ⟨ret_bool (by simp; omega), ?_⟩
    obtain ⟨I', hR, hI'⟩ := ref_push hp3 h3.out h4 (fun j y hy => ⟨(h5 j y hy).1, (h5 j y hy).2.same (h5 j y hy).1 (fun b hb => hB3.block b (h7 b hb))⟩) h6 (fun b hb => Nat.lt_of_lt_of_le (h7 b hb) hB3.size) hX3 ok hKI3 (Nat.lt_trans hp hWw) hWW3 hH5 hown5
    refine ⟨I', ?_, fun b hb => (hI' b hb).imp id (fun h => by omega), ?_⟩
    · rw [if_neg (by omega)]; exact hR
    · exact (((Turned.of_below hB3).mono (S' := [p]) (by simp)).trans hH5.turned (by simp)).setCell (.inl (by simp)) _
end Go.Proofs.Ytgboealiclcgkaa.Rings
