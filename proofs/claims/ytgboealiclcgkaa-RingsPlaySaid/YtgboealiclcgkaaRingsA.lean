/-
  Contracts of package rings (layer 3): none, place, Clone of members, own.
-/
import Derived.Test.YtgboealiclcgkaaProg
import Derived.Test.YtgboealiclcgkaaBlk
namespace Go.Proofs.Ytgboealiclcgkaa.Rings
open Go.RowKit Go.Proofs.Ytgboealiclcgkaa.Mem

def isInt (v : Value) : Prop := ∃ n, v = .int .i64 n
def isStr (v : Value) : Prop := ∃ s, v = .string s

/-- A frame: its cells ahead of the members, those behind, and the members' cells. -/
structure Fr where
  pre : List Value
  post : List Value
  mem : List Value

/-- Of n members; each cell is one. -/
structure FrOk (x : Fr) (n : Nat) : Prop where
  pre : x.pre.length = 24
  post : x.post.length = 4
  mem : x.mem.length = n * 2
  one : ∀ u ∈ x.pre ++ x.post, u.oneCell' = true
  oneM : ∀ u ∈ x.mem, u.oneCell' = true
  few : n ≤ 1000000

/-- The cells cs are the frame x; its members lie in the blocks I. -/
def FrAt (w : World) (cs : List Value) (x : Fr) (n : Nat) (I : List Nat) : Prop := ∃ v, cs = x.pre ++ v :: x.post ∧ SlAt w v n x.mem I

theorem none_nil (w : World) : Calls Try.prog 24 #[.pointer none] w fun e w' => e = .returned (.bool true) ∧ w' = w := by
  go_enter Try.func24, Try.ntmps24
  go_wp2
  go_ret
  exact ⟨rfl, rfl⟩

theorem none_zero (w : World) (p : Nat) (ao : Option Addr) (c : Nat) (h0 : w.cell? ⟨p, 0, none⟩ = some (.slice ao 0 c)) :
    Calls Try.prog 24 #[.pointer (some ⟨p, 0, none⟩)] w fun e w' => e = .returned (.bool true) ∧ w' = w := by
  go_enter Try.func24, Try.ntmps24
  go_wp2
  go_ret
  exact ⟨rfl, rfl⟩

theorem none_is (w : World) (p : Nat) (ao : Option Addr) (n c : Nat) (h0 : w.cell? ⟨p, 0, none⟩ = some (.slice ao n c)) (hn : 1 ≤ n) :
    Calls Try.prog 24 #[.pointer (some ⟨p, 0, none⟩)] w fun e w' => e = .returned (.bool false) ∧ w' = w := by
  have hz : ((n : Int) == 0) = false := beq_eq_false_iff_ne.2 (by omega)
  go_enter Try.func24, Try.ntmps24
  go_wp2
  go_ret
  exact ⟨rfl, rfl⟩

theorem place_any (w : World) (p q n c first i : Nat) (h0 : w.cell? ⟨p, 0, none⟩ = some (.slice (some ⟨q, 0, none⟩) n c)) (h1 : w.cell? ⟨p, 1, none⟩ = some (.int .i64 first))
    (hn : 1 ≤ n) (hm : n ≤ 64) (hf : first < n) (hi : i ≤ n) :
    Calls Try.prog 23 #[.pointer (some ⟨p, 0, none⟩), .int .i64 i] w fun e w' => e = .returned (.int .i64 ((first + i) % n : Nat)) ∧ ∃ k, w' = w.drewN k := by
  go_enter Try.func23, Try.ntmps23
  go_wp2
  go_quiet (fail)
  go_wp2
  go_ret
  exact ⟨ret_int (by simp), _, rfl⟩

def Own (w : World) (e : TypeId) (size : Nat) (n : Nat) (cs : List Value) (en : Ending) (w' : World) : Prop :=
  ∃ v, en = .returned v ∧ w'.ownsRow w.heap.size e size v n cs ∧ Below w.heap.size w w'

theorem info_mem : (Try.prog.info? 54).map (fun i => (i.zero, i.size, i.bytes)) = some (some (.agg #[.int .i64 0, .int .i64 0]), 2, 16) := by kernel_rfl
theorem info_frame : (Try.prog.info? 42).map (·.size) = some 29 := by kernel_rfl
theorem row_frame : ∃ d, Try.prog.underlying 42 = some d ∧ d.isRow = true := ⟨_, Try.underlying42, rfl⟩
section
variable (ρ : Operand → Value) (dst : Option Tmp) (x y : Operand) (tt : TypeId) (pos : String) (af : Array Edge) (g : Option (Nat × Bool)) (w : World)
theorem execLoadF : (execOp ρ ⟨dst, .load 42 x, tt, pos, af, g⟩).run Try.prog w = ldRun Try.prog 42 w (ρ x) := exec_load _ _ _ _ _ _ _ _ _
theorem execStoreF : (execOp ρ ⟨dst, .store 42 x y, tt, pos, af, g⟩).run Try.prog w = stRun Try.prog 42 w (ρ x) (ρ y) := exec_store _ _ _ _ _ _ _ _ _ _
end
theorem loadF (w : World) (b o : Nat) (h : World.hasRow w b o 29) : ldRun Try.prog 42 w (.pointer (some ⟨b, o, none⟩)) = .ok (.value (.agg (World.row w b o 29).toArray)) w :=
  ldRun_row w b o _ 29 _ Try.underlying42 rfl info_frame h
theorem storeF (w : World) (b o : Nat) (cells : Array Value) (ht : w.there b o 29) (hc : CellsN 29 cells) : stRun Try.prog 42 w (.pointer (some ⟨b, o, none⟩)) (.agg cells) = .ok .skip (w.setCells b o cells.toList) :=
  stRun_row w b o _ 29 cells info_frame ht hc

theorem clone_mem (w : World) (v : Value) (n : Nat) (cs : List Value) (I : List Nat) (h : SlAt w v n cs I) (hl : cs.length = n * 2) (h1 : ∀ u ∈ cs, u.oneCell' = true) (hn : n * 16 ≤ 140737488355328) :
    Calls Try.prog 27 #[v] w (Own w 54 2 n cs) := by
  obtain ⟨ao, cap, rfl, hc, hm, hnil, hat⟩ := h
  have qn : ∀ (w : World) (a : Option Addr) (n c n' c' : Nat), (binOp .eql 38 (.slice a n c) (.slice none n' c')).run Try.prog w = .ok (.bool a.isNone) w := fun w a n c n' c' => Lib.run_eql_slice_nil w _ _ a n c n' c' Try.underlying38
  cases ao with
  | none =>
    obtain ⟨rfl, rfl, rfl⟩ := hnil rfl
    clear hnil hat
    go_enter Try.func27, Try.ntmps27
    go_wp2
    go_ret
    exact ⟨_, rfl, World.ownsRow_nil _ _ _ _, Below.refl _ _⟩
  | some a =>
    obtain ⟨hsp, hr⟩ := hat _ rfl
    have hcell : ∀ (x : Obj) j u, cs[j]? = some u → (w.alloc x).cell? (a.add j) = some u := fun x j u hu => by
      have hn0 : 0 < n := by
        rcases Nat.eq_zero_or_pos n with rfl | h0
        · have e0 : cs = [] := List.length_eq_zero_iff.1 (by simpa using hl)
          rw [e0] at hu; cases hu
        · exact h0
      obtain ⟨b, o, sp⟩ := a
      obtain rfl : sp = none := (hsp hn0).1
      exact cellsAt_of_range (rangeAt_alloc hr x) j u hu
    obtain ⟨i0, hi, hz0, hz1, hz2⟩ := info_parts info_mem
    clear hnil hat
    have hm' := hm
    unfold maxLen at hm
    have hown := owns_newN w 54 [] 2 0 rfl (by simp [maxLen])
    go_enter Try.func27, Try.ntmps27
    go_wp2_with (at_builtin; refine wpList_append_own _ rfl _ _ 38 rfl w.heap.size 54 i0 _ 2 16 Try.underlying38 hi hz0 hz1 hz2 rfl (by decide) _ 0 [] rfl hown a n cap cs rfl hl (hcell _) h1 (by unfold maxLen; omega) (by omega) (by simp) ?_; intro v' w1 hown1 hgrow1 _)
    go_ret
    simp only [Nat.zero_add, List.nil_append] at hown1
    exact ⟨_, rfl, hown1, ((Below.refl _ _).alloc (Nat.le_refl _) _).grown hgrow1 (by simp) (fun k hk => by cases hk; exact Nat.le_refl _)⟩

/-- A frame that is told, or kept: with members of its own. -/
def FrNew (w : World) (x : Fr) (n : Nat) (en : Ending) (w' : World) : Prop :=
  ∃ cs I, en = .returned (.agg cs.toArray) ∧ FrAt w' cs x n I ∧ (∀ b ∈ I, w.heap.size ≤ b ∧ b < w'.heap.size ∧ ∀ o, w'.frozen? ⟨b, o, none⟩ = false) ∧ Below w.heap.size w w'

theorem fr_cells {w : World} {cs : List Value} {x : Fr} {n : Nat} {I : List Nat} (h : FrAt w cs x n I) (ok : FrOk x n) : cs.length = 29 ∧ (∀ u ∈ cs, u.oneCell' = true) := by
  obtain ⟨v, rfl, ao, cap, rfl, _⟩ := h
  refine ⟨by simp [ok.pre, ok.post], fun u hu => ?_⟩
  rw [List.mem_append, List.mem_cons] at hu
  rcases hu with h | rfl | h
  · exact ok.one u (by simp [h])
  · rfl
  · exact ok.one u (by simp [h])

set_option maxRecDepth 100000 in
theorem own_any (w : World) (cs : List Value) (x : Fr) (n : Nat) (I : List Nat) (h : FrAt w cs x n I) (ok : FrOk x n) :
    Calls Try.prog 25 #[.agg cs.toArray] w (FrNew w x n) := by
  obtain ⟨hc, hc1⟩ := fr_cells h ok
  obtain ⟨v, e24, h⟩ := h
  have hm : cs[24]? = some v := by rw [e24, List.getElem?_append_right (by rw [ok.pre]; exact Nat.le_refl _), ok.pre]; rfl
  obtain ⟨h24, rfl⟩ := List.getElem?_eq_some_iff.1 hm
  obtain ⟨d, hd, hdr⟩ := row_frame
  have hm' : cs[24]? = some cs[24] := hm
  have HE := Lib.hid e24
  clear e24
  go_enter Try.func25, Try.ntmps25
  go_wp2_with fail
  refine (clone_mem _ _ n x.mem I ((h.alloc _).alloc _) ok.mem ok.oneM (by have := ok.few; omega)).mono ?_
  rintro e w1 ⟨v', rfl, hown, hbel⟩
  have b0 : Blk w1 w.heap.size 42 cs := ((Blk.new w _ cs).alloc _).below hbel (by simp; omega)
  have b1 : ∃ zs : List Value, zs.length = 29 ∧ Blk w1 (w.heap.size + 1) 42 zs := by
    refine ⟨?_, ?_, Blk.below (w := (w.alloc (Obj.cells cs.toArray 42)).alloc _) ?_ hbel ?_⟩
    rotate_left 2
    · have := Blk.new (w.alloc (Obj.cells cs.toArray 42)) 
      simp only [World.size_alloc] at this
      exact this _ _
    · simp
    · rfl
  obtain ⟨zs, hz, b1⟩ := b1
  have f0 := b0.free 24
  have c0 : w1.cell? ⟨w.heap.size, 24, none⟩ = some cs[24] := by rw [b0.cell]; exact hm
  obtain ⟨ao, k, cap, rfl⟩ := owns_slice hown
  have B0 := b0.set 24 (.slice ao k cap)
  have hsz := hbel.size
  have hlen : (cs.set 24 (.slice ao k cap)).length = 29 := by simpa using hc
  have hlen' : (cs.set 24 (.slice ao k cap)).toArray.size = 29 := by simpa using hc
  have hone' : ∀ u ∈ cs.set 24 (.slice ao k cap), u.oneCell' = true := fun u hu => (List.mem_or_eq_of_mem_set hu).elim (hc1 u) (fun e => by rw [e]; rfl)
  go_wp2_with (first
    | (refine wpList_load_mid rfl 42 _ rfl w.heap.size 0 rfl (cs.set 24 (.slice ao k cap)) d B0.rangeAll hd hdr (by rw [hlen]; exact info_frame) ?_)
    | (refine wpList_store_mid rfl 42 _ _ rfl (w.heap.size + 1) 0 (cs.set 24 (.slice ao k cap)).toArray rfl rfl ((b1.setOther (by simp) _).there 0 _ (by omega)) (by rw [hlen']; exact info_frame) (all_oneCell_toArray hone') ?_))
  have hB : Below w.heap.size w w1 := (((Below.refl _ _).alloc (Nat.le_refl _) _).alloc (by simp) _).trans (hbel.mono (by simp; omega))
  obtain ⟨J, hs, hJ⟩ := SlAt.of_own hown
  refine bodyPost_ret (results_cell1 (b := w.heap.size + 1) (o := 0) (cs := cs.set 24 (.slice ao k cap)) Try.results25 rfl ?_ hd hdr (by rw [hlen]; exact info_frame)) rfl ⟨_, J, rfl, ⟨.slice ao k cap, ?_, ?_⟩, ?_, ?_⟩
  · have hB1 := (b1.setOther (a := ⟨w.heap.size, 24, none⟩) (by simp) (.slice ao k cap)).sets (cs.set 24 (.slice ao k cap)) 0 (by omega)
    rw [show splice zs 0 (cs.set 24 (.slice ao k cap)) = cs.set 24 (.slice ao k cap) by unfold splice; rw [List.drop_of_length_le (by omega)]; simp] at hB1
    exact hB1.rangeAll
  · conv => lhs; arg 1; rw [HE.out]
    rw [List.set_append_right _ _ (by rw [ok.pre]; exact Nat.le_refl _), ok.pre]
    rfl
  · refine hs.same (fun e => List.length_eq_zero_iff.1 (by rw [ok.mem, e])) (fun b hb => ?_)
    have := (hJ b hb).1
    simp only [World.size_alloc] at this
    rw [heap_setCells _ b (by omega)]
    exact Below.heap_setCell w1 _ _ b (by show b ≠ w.heap.size; omega)
  · intro b hb
    have := hJ b hb
    simp only [World.size_alloc] at this
    have e : ((w1.setCell ⟨w.heap.size, 24, none⟩ (.slice ao k cap)).setCells (w.heap.size + 1) 0 (cs.set 24 (.slice ao k cap))).heap.size = w1.heap.size := by rw [size_setCells]; simp [World.setCell]
    exact ⟨by omega, by rw [e]; omega, fun o => by rw [World.frozen?_setCells, World.frozen?_setCell]; exact this.2.2 o⟩
  · exact below_set (hB.setCell (Nat.le_refl _) _) (by omega) _ _

end Go.Proofs.Ytgboealiclcgkaa.Rings
