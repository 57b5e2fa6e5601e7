/-
  Contracts of package rings (layer 3): Push.
-/
import Derived.Test.YtgboealiclcgkaaRingsA
namespace Go.Proofs.Ytgboealiclcgkaa.Rings
open Go.RowKit Go.Proofs.Ytgboealiclcgkaa.Mem

def Fr.n (x : Fr) : Nat := x.mem.length / 2

/-- A ring of n places, as it lies in memory: the frames l, the first one at the place 'first'; p: the ring's block; q: the places'; I: the members'. -/
structure RingMem (w : World) (p q n cp first : Nat) (cs : List Value) (l : List Fr) (I : List Nat) : Prop where
  hp : Blk w p 60 [.slice (some ⟨q, 0, none⟩) n cp, .int .i64 first, .int .i64 l.length]
  hq : Blk w q 42 cs
  len : cs.length = cp * 29
  hcp : n ≤ cp
  hcm : cp ≤ maxLen
  one : ∀ j u, j < n * 29 → cs[j]? = some u → u.oneCell' = true
  hf : first < n
  h1 : 1 ≤ n
  h64 : n ≤ 64
  hl : l.length ≤ n
  ne : p ≠ q
  fr : ∀ j x, l[j]? = some x → FrOk x x.n ∧ FrAt w ((cs.drop ((first + j) % n * 29)).take 29) x x.n I
  pI : p ∉ I
  qI : q ∉ I
  lt : ∀ b ∈ I, b < w.heap.size

def RingAt (w : World) (p q n : Nat) (l : List Fr) (I : List Nat) : Prop := ∃ cp first cs, RingMem w p q n cp first cs l I

theorem FrAt.same {w w' : World} {cs : List Value} {x : Fr} {n : Nat} {I : List Nat} (h : FrAt w cs x n I) (ok : FrOk x n) (hs : ∀ b ∈ I, w'.heap[b]? = w.heap[b]?) : FrAt w' cs x n I := by
  obtain ⟨v, e, h⟩ := h
  exact ⟨v, e, h.same (fun e => List.length_eq_zero_iff.1 (by rw [ok.mem, e])) hs⟩

theorem RingMem.same {w w' : World} {p q n cp first : Nat} {cs : List Value} {l : List Fr} {I : List Nat} (h : RingMem w p q n cp first cs l I) (hs : ∀ b, b = p ∨ b = q ∨ b ∈ I → w'.heap[b]? = w.heap[b]?) (hz : w.heap.size ≤ w'.heap.size) :
    RingMem w' p q n cp first cs l I :=
  ⟨h.hp.of_same (hs p (.inl rfl)), h.hq.of_same (hs q (.inr (.inl rfl))), h.len, h.hcp, h.hcm, h.one, h.hf, h.h1, h.h64, h.hl, h.ne,
    fun j x hx => ⟨(h.fr j x hx).1, (h.fr j x hx).2.same (h.fr j x hx).1 (fun b hb => hs b (.inr (.inr hb)))⟩, h.pI, h.qI, fun b hb => Nat.lt_of_lt_of_le (h.lt b hb) hz⟩

theorem RingMem.below {w w' : World} {p q n cp first : Nat} {cs : List Value} {l : List Fr} {I : List Nat} (h : RingMem w p q n cp first cs l I) (hb : Below w.heap.size w w') : RingMem w' p q n cp first cs l I :=
  h.same (fun b hb' => hb.block b (hb'.elim (fun e => e ▸ h.hp.lt) fun hb' => hb'.elim (fun e => e ▸ h.hq.lt) (h.lt b))) hb.size

attribute [local go_sem ↓] execLoadF execStoreF
attribute [local go_sem] loadF storeF

theorem fr_cellsN {w : World} {cs : List Value} {x : Fr} {n : Nat} {I : List Nat} (h : FrAt w cs x n I) (ok : FrOk x n) : CellsN 29 cs.toArray := by
  obtain ⟨h1, h2⟩ := fr_cells h ok
  exact ⟨by simpa using h1, all_oneCell_toArray h2⟩

theorem piece_same (cs fc : List Value) (k n : Nat) (hc : cs.length = n * 29) (hf : fc.length = 29) (hk : k < n) : ((splice cs (k * 29) fc).drop (k * 29)).take 29 = fc := by
  unfold splice
  rw [List.drop_append_of_le_length (by simp; omega), List.drop_of_length_le (by simp; omega), List.nil_append, List.take_append_of_le_length (by omega), List.take_of_length_le (by omega)]

theorem piece_other (cs fc : List Value) (k m n : Nat) (hc : cs.length = n * 29) (hf : fc.length = 29) (hk : k < n) (hne : m ≠ k) : ((splice cs (k * 29) fc).drop (m * 29)).take 29 = (cs.drop (m * 29)).take 29 := by
  have hl : (splice cs (k * 29) fc).length = n * 29 := by rw [length_splice _ _ _ (by omega), hc]
  apply List.ext_getElem
  · simp [hl, hc]
  · intro i h1 h2
    simp at h1 h2
    simp only [List.getElem_take, List.getElem_drop, splice]
    rcases Nat.lt_or_gt_of_ne hne with h | h
    · rw [List.getElem_append_left (by simp; omega), List.getElem_take]
    · rw [List.getElem_append_right (by simp; omega), List.getElem_append_right (by simp; omega), List.getElem_drop]
      congr 1
      simp; omega

theorem mod_ne (first i j n : Nat) (hi : i < n) (hj : j < n) (hne : i ≠ j) : (first + i) % n ≠ (first + j) % n := by
  intro e
  have h1 := Nat.div_add_mod (first + i) n
  have h2 := Nat.div_add_mod (first + j) n
  rw [e] at h1
  have hd : (first + i) / n = (first + j) / n := by
    rcases Nat.lt_trichotomy ((first + i) / n) ((first + j) / n) with h | h | h
    · have := Nat.mul_le_mul_left n h; rw [Nat.mul_succ] at this; omega
    · exact h
    · have := Nat.mul_le_mul_left n h; rw [Nat.mul_succ] at this; omega
  rw [hd] at h1
  omega

theorem FrAt.mono {w : World} {cs : List Value} {x : Fr} {n : Nat} {I I' : List Nat} (h : FrAt w cs x n I) (hs : ∀ b ∈ I, b ∈ I') : FrAt w cs x n I' := by
  obtain ⟨v, e, ao, cap, h1, h2, h3, h4, h5⟩ := h
  exact ⟨v, e, ao, cap, h1, h2, h3, h4, fun a ha => ⟨fun hn => ⟨((h5 a ha).1 hn).1, hs _ ((h5 a ha).1 hn).2⟩, (h5 a ha).2⟩⟩

theorem splice_one {cs fc : List Value} {o N : Nat} (h : ∀ j u, j < N → cs[j]? = some u → u.oneCell' = true) (hf : ∀ u ∈ fc, u.oneCell' = true) (hl : o + fc.length ≤ cs.length) :
    ∀ j u, j < N → (splice cs o fc)[j]? = some u → u.oneCell' = true := by
  intro j u hj hu
  unfold splice at hu
  by_cases h1 : j < o
  · rw [List.getElem?_append_left (by simp; omega), List.getElem?_take] at hu
    rw [if_pos h1] at hu
    exact h j u hj hu
  · rw [List.getElem?_append_right (by simp; omega), List.length_take, Nat.min_eq_left (by omega)] at hu
    by_cases h2 : j - o < fc.length
    · rw [List.getElem?_append_left h2] at hu
      exact hf u (List.mem_of_getElem? hu)
    · rw [List.getElem?_append_right (by omega), List.getElem?_drop, show o + fc.length + (j - o - fc.length) = j by omega] at hu
      exact h j u hj hu
theorem mem_splice {cs fc : List Value} {o : Nat} {u : Value} (h : u ∈ splice cs o fc) : u ∈ cs ∨ u ∈ fc := by
  unfold splice at h
  rw [List.mem_append, List.mem_append] at h
  rcases h with h | h | h
  · exact .inl (List.mem_of_mem_take h)
  · exact .inr h
  · exact .inl (List.mem_of_mem_drop h)

/-- A frame more in a ring's memory: at the place k behind the others, the count not yet raised; w': only the places' block has turned, and what is new. -/
theorem ring_push {w w' : World} {p q n cp first k : Nat} {cs fc : List Value} {l : List Fr} {I I' : List Nat} {x : Fr} (h : RingMem w p q n cp first cs l I) (hl : l.length < n) (hk : (first + l.length) % n = k) (ok : FrOk x x.n)
    (hT : Turned [p, q] w w') (hp : Blk w' p 60 [.slice (some ⟨q, 0, none⟩) n cp, .int .i64 first, .int .i64 (l.length + 1 : Nat)]) (hq : Blk w' q 42 (splice cs (k * 29) fc))
    (hx : FrAt w' fc x x.n I') (hI : ∀ b ∈ I', w.heap.size ≤ b ∧ b < w'.heap.size) : RingMem w' p q n cp first (splice cs (k * 29) fc) (l ++ [x]) (I ++ I') := by
  obtain ⟨hfl, hf1⟩ := fr_cells hx ok
  have hkn : k < n := by rw [← hk]; exact Nat.mod_lt _ (by have := h.h1; omega)
  have hkc : k < cp := Nat.lt_of_lt_of_le hkn h.hcp
  refine ⟨by simpa using hp, hq, by rw [length_splice _ _ _ (by rw [h.len, hfl]; omega), h.len], h.hcp, h.hcm, splice_one h.one hf1 (by rw [h.len, hfl]; omega), h.hf, h.h1, h.h64, by simp; omega, h.ne, fun j y hy => ?_, ?_, ?_, ?_⟩
  · rcases Nat.lt_trichotomy j l.length with hj | hj | hj
    · rw [List.getElem?_append_left hj] at hy
      obtain ⟨hy1, hy2⟩ := h.fr j y hy
      refine ⟨hy1, ?_⟩
      rw [piece_other cs fc k _ cp h.len hfl hkc (by rw [← hk]; exact mod_ne _ _ _ _ (by omega) hl (by omega))]
      exact (hy2.same hy1 (fun b hb => hT.block b (h.lt b hb) (by have := h.pI; have := h.qI; simp; exact ⟨fun e => by subst e; contradiction, fun e => by subst e; contradiction⟩))).mono (fun b hb => List.mem_append_left _ hb)
    · subst hj
      rw [List.getElem?_append_right (Nat.le_refl _)] at hy
      simp at hy
      subst hy
      refine ⟨ok, ?_⟩
      rw [hk, piece_same cs fc k cp h.len hfl hkc]
      exact hx.mono (fun b hb => List.mem_append_right _ hb)
    · rw [List.getElem?_eq_none (by simp; omega)] at hy
      cases hy
  · intro hm
    rcases List.mem_append.1 hm with hm | hm
    · exact h.pI hm
    · have := (hI _ hm).1; have := h.hp.lt; omega
  · intro hm
    rcases List.mem_append.1 hm with hm | hm
    · exact h.qI hm
    · have := (hI _ hm).1; have := h.hq.lt; omega
  · intro b hm
    rcases List.mem_append.1 hm with hm | hm
    · exact Nat.lt_of_lt_of_le (h.lt b hm) hT.size
    · exact (hI _ hm).2

/-- What Push answers. -/
def PushP (w : World) (p q n : Nat) (l : List Fr) (I : List Nat) (x : Fr) (e : Ending) (w' : World) : Prop :=
  e = .returned (.bool (decide (l.length < n))) ∧ ∃ I', RingAt w' p q n (if l.length < n then l ++ [x] else l) I' ∧ (∀ b ∈ I', b ∈ I ∨ w.heap.size ≤ b) ∧ Turned [p, q] w w'

set_option maxRecDepth 100000 in
theorem push_any (w : World) (p q n cp first : Nat) (cs : List Value) (l : List Fr) (I : List Nat) (h : RingMem w p q n cp first cs l I) (fc : List Value) (x : Fr) (J : List Nat) (hx : FrAt w fc x x.n J) (ok : FrOk x x.n) (hJ : ∀ b ∈ J, b < w.heap.size) (hJq : ∀ b ∈ J, b ≠ q) :
    Calls Try.prog 17 #[.pointer (some ⟨p, 0, none⟩), .agg fc.toArray] w (PushP w p q n l I x) := by
  obtain ⟨hc, hc1⟩ := fr_cells hx ok
  have c0 : w.cell? ⟨p, 0, none⟩ = some (.slice (some ⟨q, 0, none⟩) n cp) := h.hp.cell 0
  have c1 : w.cell? ⟨p, 1, none⟩ = some (.int .i64 first) := h.hp.cell 1
  have c2 : w.cell? ⟨p, 2, none⟩ = some (.int .i64 l.length) := h.hp.cell 2
  have g1 := h.h1
  have g2 := h.h64
  have g3 := h.hl
  have plt := h.hp.lt
  by_cases hfull : l.length < n
  · have hz : ((l.length : Int) == (n : Int)) = false := beq_eq_false_iff_ne.2 (by omega)
    go_enter Try.func17, Try.ntmps17
    go_wp2_with fail
    go_quiet ((go_at_call 24; exact Calls.quiet_of_same (none_is _ p (some ⟨q, 0, none⟩) n cp (by simp [c0, World.cell?_alloc_lt, plt]) g1)))
    go_wp2_with fail
    have hWs : w.heap.size < ((w.alloc (Obj.cells fc.toArray 42)).drewN nq).heap.size := by simp
    have hT : Turned [] w ((w.alloc (Obj.cells fc.toArray 42)).drewN nq) := ((Turned.of_below (Below.refl _ _)).alloc _).drewN nq
    have hb3 : Blk ((w.alloc (Obj.cells fc.toArray 42)).drewN nq) w.heap.size 42 fc := (Blk.new w _ fc).drewN nq
    generalize (w.alloc (Obj.cells fc.toArray 42)).drewN nq = W at *
    have HR := h.same (w' := W) (fun b hb => hT.block b (hb.elim (fun e => e ▸ h.hp.lt) fun hb' => hb'.elim (fun e => e ▸ h.hq.lt) (h.lt b)) (by simp)) hT.size
    clear c0 c1 c2
    have hH : Held [q] W W := Held.refl _ _
    have pq : p ∉ [q] := by simpa using h.ne
    have L0 : ∀ w', Held [q] W w' → w'.cell? ⟨p, 0, none⟩ = some (.slice (some ⟨q, 0, none⟩) n cp) := fun w' hw => hw.cell (HR.hp.cell 0) pq
    have L1 : ∀ w', Held [q] W w' → w'.cell? ⟨p, 1, none⟩ = some (.int .i64 first) := fun w' hw => hw.cell (HR.hp.cell 1) pq
    have L2 : ∀ w', Held [q] W w' → w'.cell? ⟨p, 2, none⟩ = some (.int .i64 l.length) := fun w' hw => hw.cell (HR.hp.cell 2) pq
    have wq : w.heap.size ∉ [q] := by have := h.hq.lt; simp; omega
    have L3 : ∀ w', Held [q] W w' → World.hasRow w' w.heap.size 0 29 := fun w' hw => hasRow_of_range (hw.range hb3.rangeAll wq) hc
    have L4 : ∀ w', Held [q] W w' → World.row w' w.heap.size 0 29 = fc := fun w' hw => row_of_range (hw.range hb3.rangeAll wq) hc
    have ix : ((first + l.length) % n : Nat) < n := Nat.mod_lt _ (by omega)
    have hx' : FrAt W fc x x.n J := hx.same ok (fun b hb => hT.block b (hJ b hb) (by simp))
    have L5 : ∀ w', Held [q] W w' → w'.there q ((first + l.length) % n * 29) 29 := fun w' hw => hw.there (HR.hq.there _ 29 (by rw [h.len]; have := h.hcp; omega))
    have L6 : ∀ w', Held [q] W w' → FrAt w' fc x x.n J := fun w' hw => hx'.same ok (fun b hb => hw.turned.block b (Nat.lt_of_lt_of_le (hJ b hb) hT.size) (by have := hJq b hb; simp; omega))
    have ix0 : (0 : Int) ≤ (((first + l.length) % n : Nat) : Int) := by omega
    have ix1 : (((first + l.length) % n : Nat) : Int) < (n : Int) := by omega
    generalize hixx : (first + l.length) % n = k at *
    have HIX := Lib.hid hixx
    clear hixx
    go_region_held3 (Held [q] W)
      (first
        | assumption
        | (exact Held.drew (by assumption))
        | (exact Held.drewN (by assumption) _)
        | (exact Held.below (by assumption) (by assumption))
        | (exact Held.setCells (by assumption) (by simp) _ _))
      (first
        | (go_at_call 23; refine (place_any _ p q n cp first l.length (L0 _ (by assumption)) (L1 _ (by assumption)) g1 g2 h.hf g3).mono ?_; rintro e w2 ⟨rfl, k', rfl⟩; rw [HIX.out])
        | (go_at_call 25; refine (own_any _ fc x x.n J (L6 _ (by assumption)) ok).mono ?_; rintro e w2 ⟨fc', I', rfl, hfa, hfr, hbel⟩; have hbel0 : Below W.heap.size W w2 := (below_drewN (Below.refl _ _) _).trans hbel; have hcN := fr_cellsN hfa ok))
    have HW := ‹Held [q] W (w2.setCells q (k * 29) fc')›
    have HQ : Blk (w2.setCells q (k * 29) fc') q 42 (splice cs (k * 29) fc') := (HR.hq.below hbel0 HR.hq.lt).sets _ _ (by rw [h.len]; have := (fr_cells hfa ok).1; have := h.hcp; omega)
    have HX : FrAt (w2.setCells q (k * 29) fc') fc' x x.n I' := hfa.same ok (fun b hb => heap_setCells q b (by have := (hfr b hb).1; have := HR.hq.lt; simp at *; omega) _ _ _)
    have HI : ∀ b ∈ I', W.heap.size ≤ b ∧ b < (w2.setCells q (k * 29) fc').heap.size := fun b hb => by rw [size_setCells]; exact ⟨(hfr b hb).1, (hfr b hb).2.1⟩
    generalize w2.setCells q (k * 29) fc' = W3 at *
    have d2 := L2 _ HW
    have f2 : W3.frozen? ⟨p, 2, none⟩ = false := (HW.blk HR.hp pq).free 2
    clear L0 L1 L2 L3 L4 L5 L6
    go_wp2
    go_ret
    have hT3 : Turned [p, q] w (W3.setCell ⟨p, 2, none⟩ (.int .i64 ((l.length : Int) + 1))) := (((hT.mono (by simp)).trans HW.turned (by simp; exact fun _ _ h => .inr h)).setCell (.inl (by simp)) _)
    refine ⟨?_, I ++ I', ?_, ?_, hT3⟩
    · exact ret_bool (by simp [hfull])
    · rw [if_pos hfull]
      refine ⟨cp, first, _, ring_push h hfull HIX.out ok hT3 ?_ (HQ.setOther h.ne.symm _) (HX.same ok (fun b hb => Below.heap_setCell W3 _ _ b ?_)) ?_⟩
      · exact ((HW.blk HR.hp pq).set 2 (.int .i64 ((l.length : Int) + 1)))
      · have := (HI b hb).1; have := HR.hp.lt; show b ≠ p; omega
      · intro b hb
        have := HI b hb
        refine ⟨by omega, ?_⟩
        have e : (W3.setCell ⟨p, 2, none⟩ (.int .i64 ((l.length : Int) + 1))).heap.size = W3.heap.size := by simp [World.setCell]
        rw [e]; exact this.2
    · intro b hb
      rcases List.mem_append.1 hb with hb | hb
      · exact .inl hb
      · have := (HI b hb).1; exact .inr (by omega)
  · have hz : ((l.length : Int) == (n : Int)) = true := beq_iff_eq.2 (by omega)
    go_enter Try.func17, Try.ntmps17
    go_wp2_with fail
    go_quiet ((go_at_call 24; exact Calls.quiet_of_same (none_is _ p (some ⟨q, 0, none⟩) n cp (by simp [c0, World.cell?_alloc_lt, plt]) g1)))
    go_wp2
    go_ret
    have hB : Below w.heap.size w ((w.alloc (Obj.cells fc.toArray 42)).drewN nq) := below_drewN ((Below.refl _ _).alloc (Nat.le_refl _) _) _
    refine ⟨?_, I, ?_, fun b hb => .inl hb, (Turned.of_below hB).mono (by simp)⟩
    · exact ret_bool (by simp [hfull])
    · rw [if_neg hfull]
      exact ⟨cp, first, cs, h.below hB⟩
end Go.Proofs.Ytgboealiclcgkaa.Rings
