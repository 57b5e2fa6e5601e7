/-
  Contracts of package counts (layer 7): New, Add, Get, List, Copy; and counters that are none. Conditions: counters in memory (CAt), or none (NoC).
-/
import Derived.Test.YtfobljmkckclgaaCtR
import Derived.Test.YtfobljmkckclgaaAtom
import Derived.Deep.LoopGhost
import Derived.StillTailTactics
import Derived.Deep.DeepCutAuto
namespace Go.Proofs.Ytfobljmkckclgaa.Ct
open Go.RowKit Go.Proofs.Ytfobljmkckclgaa.Mem Go.Proofs.Ytfobljmkckclgaa.Atom

abbrev TC : TypeId := 44
abbrev TA : TypeId := 51
/-- In the blocks p and q lie the counters l. -/
structure CAt (w : World) (p q : Nat) (l : List Int) : Prop where
  hp : ∃ n, n = l.length ∧ Blk w p TC [.slice (some ⟨q, 0, none⟩) n n]
  hq : Blk w q TA (ints l)
  ne : p ≠ q
  n1 : 1 ≤ l.length
  n2 : l.length ≤ 64
  ok : Ok l
theorem CAt.lt {w : World} {p q : Nat} {l : List Int} (h : CAt w p q l) : p < w.heap.size ∧ q < w.heap.size := ⟨h.hp.elim fun _ h => h.2.lt, h.hq.lt⟩
theorem CAt.same {w w' : World} {p q : Nat} {l : List Int} (h : CAt w p q l) (h1 : w'.heap[p]? = w.heap[p]?) (h2 : w'.heap[q]? = w.heap[q]?) : CAt w' p q l := by
  obtain ⟨⟨n, e, hp⟩, hq, ne, n1, n2, ok⟩ := h
  exact ⟨⟨n, e, hp.of_same h1⟩, hq.of_same h2, ne, n1, n2, ok⟩
theorem CAt.below {w w' : World} {p q : Nat} {l : List Int} (h : CAt w p q l) (hb : Below w.heap.size w w') : CAt w' p q l := h.same (hb.block p h.lt.1) (hb.block q h.lt.2)
theorem CAt.keep {S : List Nat} {w w' : World} {p q : Nat} {l : List Int} (h : CAt w p q l) (t : Turned S w w') (h1 : p ∉ S) (h2 : q ∉ S) : CAt w' p q l := h.same (t.block p h.lt.1 h1) (t.block q h.lt.2 h2)
theorem CAt.drewN {w : World} {p q : Nat} {l : List Int} (h : CAt w p q l) (n : Nat) : CAt (w.drewN n) p q l := h.same rfl rfl
/-- What Get tells. -/
def getL (l : List Int) (i : Int) : Int := if i < 0 ∨ (l.length : Int) ≤ i then 0 else l.getD i.toNat 0


theorem none_at (w : World) (p q : Nat) (l : List Int) (h : CAt w p q l) : Calls Try.prog 15 #[.pointer (some ⟨p, 0, none⟩)] w fun e w' => e = .returned (.bool false) ∧ w' = w := by
  obtain ⟨_, rfl, hp⟩ := h.hp
  have c0 : w.cell? ⟨p, 0, none⟩ = some (.slice (some ⟨q, 0, none⟩) l.length l.length) := hp.cell 0
  have n1 := h.n1
  have hz : ((l.length : Int) == 0) = false := beq_eq_false_iff_ne.2 (by omega)
  clear h hp
  go_enter Try.func15, Try.ntmps15
  go_wp2
  go_ret
  exact ⟨rfl, rfl⟩
theorem has_at (w : World) (p q : Nat) (l : List Int) (h : CAt w p q l) (i : Int) : Calls Try.prog 18 #[.pointer (some ⟨p, 0, none⟩), .int .i64 i] w fun e w' => e = .returned (.bool (decide (0 ≤ i ∧ i < (l.length : Int)))) ∧ w' = w := by
  obtain ⟨_, rfl, hp⟩ := h.hp
  have c0 : w.cell? ⟨p, 0, none⟩ = some (.slice (some ⟨q, 0, none⟩) l.length l.length) := hp.cell 0
  have n2 := h.n2
  have N := Lib.hid (none_at w p q l h)
  clear h hp
  by_cases hi : 0 ≤ i
  · rw [show decide (0 ≤ i ∧ i < (l.length : Int)) = decide (i < (l.length : Int)) from by simp [hi]]
    have e1 : decide (0 ≤ i) = true := decide_eq_true hi
    clear hi
    go_enter Try.func18, Try.ntmps18
    go_wp2_with (go_at_call 15; refine N.out.mono ?_; rintro e w2 ⟨rfl, rfl⟩)
    go_ret
    exact ⟨rfl, rfl⟩
  · rw [show decide (0 ≤ i ∧ i < (l.length : Int)) = false from by simp [hi]]
    have e1 : decide (0 ≤ i) = false := decide_eq_false hi
    clear hi
    go_enter Try.func18, Try.ntmps18
    go_wp2_with (go_at_call 15; refine N.out.mono ?_; rintro e w2 ⟨rfl, rfl⟩)
    go_ret
    exact ⟨rfl, rfl⟩
theorem get_at (w : World) (p q : Nat) (l : List Int) (h : CAt w p q l) (i : Int) :
    Calls Try.prog 13 #[.pointer (some ⟨p, 0, none⟩), .int .i64 i] w fun e w' => e = .returned (.int .i64 (getL l i)) ∧ ∃ k, w' = w.drewN k := by
  obtain ⟨_, rfl, hp⟩ := h.hp
  have c0 : w.cell? ⟨p, 0, none⟩ = some (.slice (some ⟨q, 0, none⟩) l.length l.length) := hp.cell 0
  have n2 := h.n2
  have N := has_at w p q l h i
  by_cases hi : 0 ≤ i ∧ i < (l.length : Int)
  · obtain ⟨j, rfl⟩ := Int.eq_ofNat_of_zero_le hi.1
    obtain ⟨x, hx⟩ : ∃ x, l[j]? = some x := ⟨_, List.getElem?_eq_getElem (by omega)⟩
    have e : getL l (j : Int) = x := by unfold getL; rw [if_neg (by omega), Int.toNat_natCast, List.getD_eq_getElem?_getD, hx]; rfl
    rw [e]
    rw [decide_eq_true hi] at N
    replace N := Lib.hid N
    have cj : w.cell? ⟨q, j, none⟩ = some (.int .i64 x) := (h.hq.cell j).trans (by simp [ints, hx, nI])
    have L := Lib.hid (load_any w q j x cj)
    have hjn : (j : Int) < (l.length : Int) := hi.2
    replace hx := Lib.hid hx
    clear e h hp hi
    go_enter Try.func13, Try.ntmps13
    go_wp2_with (first
      | (go_at_call 18; refine N.out.mono ?_; rintro e w2 ⟨rfl, rfl⟩)
      | (go_at_call 17; refine L.out.mono ?_; rintro e w2 ⟨rfl, rfl⟩))
    go_ret
    exact ⟨rfl, 0, rfl⟩
  · have e : getL l i = 0 := if_pos (by omega)
    rw [e]
    rw [decide_eq_false hi] at N
    replace N := Lib.hid N
    clear e h hp hi
    go_enter Try.func13, Try.ntmps13
    go_wp2_with (go_at_call 18; refine N.out.mono ?_; rintro e w2 ⟨rfl, rfl⟩)
    go_ret
    exact ⟨rfl, 0, rfl⟩
set_option maxHeartbeats 1000000 in
theorem raise_at (w : World) (p q : Nat) (l : List Int) (h : CAt w p q l) (j : Nat) (x d : Int) (hx : l[j]? = some x) (d0 : 0 ≤ d) (hd : d ≤ 9223372036854775807) :
    Calls Try.prog 19 #[.pointer (some ⟨q, j, none⟩), .int .i64 d] w fun e w' => e = .returned (.int .i64 (val l j d)) ∧ CAt w' p q (l.set j (val l j d)) ∧ Turned [p, q] w w' := by
  obtain ⟨_, rfl, hp⟩ := h.hp
  have hxb := h.ok x (List.mem_of_getElem? hx)
  have cj : w.cell? ⟨q, j, none⟩ = some (.int .i64 x) := (h.hq.cell j).trans (by simp [ints, hx, nI])
  have fj := h.hq.free j
  have L := Lib.hid (load_any w q j x cj)
  replace hx := Lib.hid hx
  by_cases hbig : d ≤ 4611686018427387904 - x
  · have ev : val l (j : Int) d = x + d := by unfold val; rw [Int.toNat_natCast, List.getD_eq_getElem?_getD, hx.out]; simp only [Option.getD_some]; omega
    rw [ev]
    replace ev := Lib.hid ev
    have C := Lib.hid (cas_hit w q j x (x + d) cj fj)
    have hC : CAt (w.setCell ⟨q, j, none⟩ (.int .i64 (x + d))) p q (l.set j (x + d)) := by
      have e : ints (l.set j (x + d)) = (ints l).set j (.int .i64 (x + d)) := by simp [ints, nI, List.map_set]
      refine ⟨⟨l.length, by simp, hp.setOther (by simpa using h.ne) _⟩, ?_, h.ne, by simpa using h.n1, by simpa using h.n2, ?_⟩
      · rw [e]; exact h.hq.set j _
      · intro y hy
        rcases List.mem_or_eq_of_mem_set hy with hy | rfl
        · exact h.ok y hy
        · omega
    have hT : Turned [p, q] w (w.setCell ⟨q, j, none⟩ (.int .i64 (x + d))) := ⟨rfl, rfl, rfl, by simp [World.setCell], fun k _ hk => Below.heap_setCell w _ _ k (by simp at hk; simpa using hk.2)⟩
    replace hC := Lib.hid hC
    replace hT := Lib.hid hT
    clear h hp
    go_enter Try.func19, Try.ntmps19
    go_wp2_with fail
    go_loopg [] 1 (fun g wr => g = 1 ∧ wr = w)
    case atStart => exact ⟨rfl, rfl⟩
    case round =>
      obtain ⟨hg, rfl⟩ := hrel
      replace hg := Lib.hid hg
      go_wp2_with (first
        | (go_at_call 17; refine L.out.mono ?_; rintro e w3 ⟨rfl, rfl⟩)
        | (go_at_call 22; refine C.out.mono ?_; rintro e w4 ⟨rfl, hw⟩))
      go_ret
      exact ⟨rfl, hC.out, hT.out⟩
  · have ev : val l (j : Int) d = 4611686018427387904 := by unfold val; rw [Int.toNat_natCast, List.getD_eq_getElem?_getD, hx.out]; simp only [Option.getD_some]; omega
    rw [ev]
    replace ev := Lib.hid ev
    have C := Lib.hid (cas_hit w q j x (4611686018427387904) cj fj)
    have hC : CAt (w.setCell ⟨q, j, none⟩ (.int .i64 (4611686018427387904))) p q (l.set j (4611686018427387904)) := by
      have e : ints (l.set j (4611686018427387904)) = (ints l).set j (.int .i64 (4611686018427387904)) := by simp [ints, nI, List.map_set]
      refine ⟨⟨l.length, by simp, hp.setOther (by simpa using h.ne) _⟩, ?_, h.ne, by simpa using h.n1, by simpa using h.n2, ?_⟩
      · rw [e]; exact h.hq.set j _
      · intro y hy
        rcases List.mem_or_eq_of_mem_set hy with hy | rfl
        · exact h.ok y hy
        · omega
    have hT : Turned [p, q] w (w.setCell ⟨q, j, none⟩ (.int .i64 (4611686018427387904))) := ⟨rfl, rfl, rfl, by simp [World.setCell], fun k _ hk => Below.heap_setCell w _ _ k (by simp at hk; simpa using hk.2)⟩
    replace hC := Lib.hid hC
    replace hT := Lib.hid hT
    clear h hp
    have hs : x + (4611686018427387904 - x) = 4611686018427387904 := by omega
    go_enter Try.func19, Try.ntmps19
    go_wp2_with fail
    go_loopg [] 1 (fun g wr => g = 1 ∧ wr = w)
    case atStart => exact ⟨rfl, rfl⟩
    case round =>
      obtain ⟨hg, rfl⟩ := hrel
      replace hg := Lib.hid hg
      go_wp2_with (first
        | (go_at_call 17; refine L.out.mono ?_; rintro e w3 ⟨rfl, rfl⟩)
        | (go_at_call 22; refine C.out.mono ?_; rintro e w4 ⟨rfl, hw⟩))
      go_ret
      exact ⟨rfl, hC.out, hT.out⟩
theorem add_at (w : World) (p q : Nat) (l : List Int) (h : CAt w p q l) (i d : Int) (hd : d ≤ 9223372036854775807) :
    Calls Try.prog 10 #[.pointer (some ⟨p, 0, none⟩), .int .i64 i, .int .i64 d] w fun e w' => e = .returned (.tuple #[.int .i64 (ans l i d), .int .i64 (err l i d)]) ∧ CAt w' p q (addL l i d) ∧ Turned [p, q] w w' := by
  obtain ⟨_, rfl, hp⟩ := h.hp
  have c0 : w.cell? ⟨p, 0, none⟩ = some (.slice (some ⟨q, 0, none⟩) l.length l.length) := hp.cell 0
  have n2 := h.n2
  have N := Lib.hid (none_at w p q l h)
  have K := has_at w p q l h i
  have tr : Turned [p, q] w w := ⟨rfl, rfl, rfl, Nat.le_refl _, fun _ _ _ => rfl⟩
  by_cases h0 : bad l i d
  · have ea : ans l i d = 0 := if_pos h0
    have el : addL l i d = l := if_pos h0
    rw [ea, el]
    clear ea el
    have H := Lib.hid h
    unfold bad at h0
    by_cases hd0 : d < 0
    · rw [show err l i d = 2 from if_pos hd0]
      clear h hp h0 K
      go_enter Try.func10, Try.ntmps10
      go_wp2_with (go_at_call 15; refine N.out.mono ?_; rintro e w2 ⟨rfl, rfl⟩)
      go_ret2
      exact ⟨rfl, H.out, tr⟩
    · rw [show err l i d = 4 by unfold err; rw [if_neg hd0, if_pos (by omega)]]
      rw [decide_eq_false (by omega)] at K
      replace K := Lib.hid K
      clear h hp h0
      go_enter Try.func10, Try.ntmps10
      go_wp2_with (first
        | (go_at_call 15; refine N.out.mono ?_; rintro e w2 ⟨rfl, rfl⟩)
        | (go_at_call 18; refine K.out.mono ?_; rintro e w2 ⟨rfl, rfl⟩))
      go_ret2
      exact ⟨rfl, H.out, tr⟩
  · have ea : ans l i d = val l i d := if_neg h0
    have el : addL l i d = l.set i.toNat (val l i d) := if_neg h0
    have ee : err l i d = 0 := by unfold bad at h0; unfold err; rw [if_neg (by omega), if_neg (by omega)]
    rw [ea, el, ee]
    clear ea el ee
    unfold bad at h0
    obtain ⟨j, rfl⟩ := Int.eq_ofNat_of_zero_le (show 0 ≤ i by omega)
    have hjn : (j : Int) < (l.length : Int) := by omega
    have d0 : 0 ≤ d := by omega
    obtain ⟨x, hx⟩ : ∃ x, l[j]? = some x := ⟨_, List.getElem?_eq_getElem (by omega)⟩
    have R := Lib.hid (raise_at w p q l h j x d hx d0 hd)
    rw [decide_eq_true (by omega)] at K
    replace K := Lib.hid K
    rw [Int.toNat_natCast]
    clear h0 hx h hp
    generalize val l (j : Int) d = V at *
    go_enter Try.func10, Try.ntmps10
    go_wp2_with (first
      | (go_at_call 15; refine N.out.mono ?_; rintro e w2 ⟨rfl, rfl⟩)
      | (go_at_call 18; refine K.out.mono ?_; rintro e w2 ⟨rfl, rfl⟩)
      | (go_at_call 19; refine R.out.mono ?_; rintro e w3 ⟨rfl, A3, T3⟩))
    go_ret2
    exact ⟨rfl, A3, T3⟩
theorem turned_set {S : List Nat} {w w' : World} (h : Turned S w w') {p : Nat} (hp : p ∈ S) (i : Nat) (u : Value) : Turned S w (w'.setCell ⟨p, i, none⟩ u) :=
  ⟨h.os, h.tape, h.output, by simpa [World.setCell] using h.size, fun k hk hn => (Below.heap_setCell w' _ u k (fun e => hn (by subst e; exact hp))).trans (h.block k hk hn)⟩
theorem owns_of_blk {w : World} {base g : Nat} {l : List Int} (hb : base ≤ g) (h : Blk w g TI (ints l)) (hl : l.length ≤ 64) : w.ownsRow base TI 1 (.slice (some ⟨g, 0, none⟩) l.length l.length) l.length (ints l) :=
  ⟨by simp [ints], .inr ⟨g, l.length, (ints l).toArray, rfl, hb, h, Nat.le_refl _, by unfold maxLen; omega, by simp [ints], List.take_of_length_le (by simp [ints])⟩⟩
set_option maxHeartbeats 1000000 in
theorem list_at (w : World) (p q : Nat) (l : List Int) (h : CAt w p q l) :
    Calls Try.prog 14 #[.pointer (some ⟨p, 0, none⟩)] w fun e w' => ∃ v, e = .returned v ∧ w'.ownsRow w.heap.size TI 1 v l.length (ints l) ∧ Below w.heap.size w w' := by
  obtain ⟨_, rfl, hp⟩ := h.hp
  have c0 : w.cell? ⟨p, 0, none⟩ = some (.slice (some ⟨q, 0, none⟩) l.length l.length) := hp.cell 0
  have n2 := h.n2
  have N := Lib.hid (none_at w p q l h)
  have H := Lib.hid h
  obtain ⟨i0, hi, hz0, hz1, hz2⟩ := info_parts info_i64
  have hmk := fun W => run_make_rowN (P := Try.prog) 28 TI i0 _ Try.underlying28 hi hz0 .i64 .i64 l.length l.length (Nat.le_refl _) (by rw [hz2]; omega) (by omega) W
  rw [hz1, Nat.mul_one] at hmk
  simp only [Value.cells] at hmk
  have hcl : (madeCells #[.int .i64 0] l.length).toList.length = l.length := by rw [toList_madeCells_one]; simp
  have hblk : Blk (w.alloc (.cells (madeCells #[.int .i64 0] l.length) TI)) w.heap.size TI (madeCells #[.int .i64 0] l.length).toList := by
    have := Blk.new w TI (madeCells #[.int .i64 0] l.length).toList
    simpa using this
  have hB : Below w.heap.size w (w.alloc (.cells (madeCells #[.int .i64 0] l.length) TI)) := (Below.refl _ _).alloc (Nat.le_refl _) _
  generalize madeCells #[Value.int .i64 0] l.length = C at *
  have hlt := h.lt
  have hl64 : (l.length : Int) ≤ 64 := by omega
  replace hcl := Lib.hid hcl
  clear h hp hi hz0 hz1 hz2
  go_enter Try.func14, Try.ntmps14
  go_wp2_with (go_at_call 15; refine N.out.mono ?_; rintro e w2 ⟨rfl, rfl⟩)
  generalize hW : w2.alloc (Obj.cells C TI) = W1 at *
  replace hW := Lib.hid hW
  go_loopg [18] l.length (fun g i wr => ∃ (k : Nat) (cs : List Value), g = l.length - k ∧ k ≤ l.length ∧ i = .int .i64 (k : Int) ∧ Blk wr w2.heap.size TI cs ∧ Hid (cs.length = l.length) ∧ Hid (∀ j, j < k → cs[j]? = (ints l)[j]?) ∧ Below w2.heap.size w2 wr)
  case atStart => exact ⟨0, C.toList, rfl, Nat.zero_le _, rfl, hblk, hcl, Lib.hid (by simp), hB⟩
  case round =>
    obtain ⟨k, cs, hg, hk, rfl, K, hcs, hpre, hBr⟩ := hrel
    clear hblk hB c0
    replace hg := Lib.hid hg
    have A := H.out.below hBr
    have c0 : wr.cell? ⟨p, 0, none⟩ = some (.slice (some ⟨q, 0, none⟩) l.length l.length) := by
      obtain ⟨_, rfl, hp⟩ := A.hp
      exact hp.cell 0
    by_cases hlt2 : k < l.length
    · obtain ⟨x, hx⟩ : ∃ x, l[k]? = some x := ⟨_, List.getElem?_eq_getElem hlt2⟩
      have ck : wr.cell? ⟨q, k, none⟩ = some (.int .i64 x) := (A.hq.cell k).trans (by simp [ints, hx, nI])
      have L := Lib.hid (load_any wr q k x ck)
      have hkl : (k : Int) < (l.length : Int) := by omega
      obtain ⟨y, hy⟩ : ∃ y, cs[k]? = some y := ⟨_, List.getElem?_eq_getElem (by rw [hcs.out]; exact hlt2)⟩
      have cm : wr.cell? ⟨w2.heap.size, k, none⟩ = some y := (K.cell k).trans hy
      have fm := K.free k
      have hpre2 : Hid (∀ j, j < k + 1 → (cs.set k (.int .i64 x))[j]? = (ints l)[j]?) := Lib.hid (fun j hj => by
        rcases Nat.lt_or_ge j k with hlt | hge
        · rw [List.getElem?_set_ne (by omega)]; exact hpre.out j hlt
        · obtain rfl : j = k := by omega
          have : j < cs.length := by rw [hcs.out]; exact hlt2
          simp [this, ints, hx, nI])
      have hcs2 : Hid ((cs.set k (.int .i64 x)).length = l.length) := Lib.hid (by rw [List.length_set]; exact hcs.out)
      replace hx := Lib.hid hx
      replace hy := Lib.hid hy
      clear A
      go_wp2_with (go_at_call 17; refine L.out.mono ?_; rintro e w3 ⟨rfl, rfl⟩)
      go_roundg (l.length - (k + 1))
      case measure => have := hg.out; omega
      case rel => exact ⟨k + 1, _, rfl, by omega, by go_num, K.set k _, hcs2, hpre2, hBr.setCell (Nat.le_refl _) _⟩
    · have hkk : k = l.length := by omega
      subst hkk
      have e : cs = ints l := List.ext_getElem? (fun j => by
        rcases Nat.lt_or_ge j l.length with h | h
        · exact hpre.out j h
        · rw [List.getElem?_eq_none (by rw [hcs.out]; exact h), List.getElem?_eq_none (by simp [ints]; omega)])
      rw [e] at K
      clear e A
      go_wp2_with fail
      go_ret
      exact ⟨_, rfl, owns_of_blk (Nat.le_refl _) K n2, hBr⟩

theorem new_bad (w : World) (n : Int) (h : n < 1 ∨ 64 < n) : Calls Try.prog 7 #[.int .i64 n] w fun e w' => e = .returned (.tuple #[.pointer none, .int .i64 2]) ∧ w' = w := by
  go_enter Try.func7, Try.ntmps7
  go_wp2
  all_goals first | (go_ret2; exact ⟨rfl, rfl⟩) | (exfalso; omega)
theorem info_atomic : (Try.prog.info? TA).map (fun i => (i.zero, i.size, i.bytes)) = some (some (.agg #[.int .i64 0]), 1, 8) := by kernel_rfl
theorem made_zeros (n : Nat) : (madeCells #[.int .i64 0] n).toList = ints (zeros n) := by rw [toList_madeCells_one]; simp [ints, zeros, nI]
theorem new_good (w : World) (n : Nat) (h1 : 1 ≤ n) (h2 : n ≤ 64) : Calls Try.prog 7 #[.int .i64 (n : Int)] w
    fun e w' => ∃ p q, e = .returned (.tuple #[.pointer (some ⟨p, 0, none⟩), .int .i64 0]) ∧ CAt w' p q (zeros n) ∧ w.heap.size ≤ p ∧ w.heap.size ≤ q ∧ Below w.heap.size w w' := by
  obtain ⟨i0, hi, hz0, hz1, hz2⟩ := info_parts info_atomic
  have hmk := fun W => run_make_rowN (P := Try.prog) 42 TA i0 _ Try.underlying42 hi hz0 .i64 .i64 n n (Nat.le_refl _) (by rw [hz2]; omega) (by omega) W
  rw [hz1, Nat.mul_one] at hmk
  simp only [Value.cells] at hmk
  have hblk : Blk (w.alloc (.cells (madeCells #[.int .i64 0] n) TA)) w.heap.size TA (ints (zeros n)) := by
    have := Blk.new w TA (madeCells #[.int .i64 0] n).toList
    rw [made_zeros] at this
    rw [← made_zeros] at this ⊢
    simpa using this
  have hB : Below w.heap.size w (w.alloc (.cells (madeCells #[.int .i64 0] n) TA)) := (Below.refl _ _).alloc (Nat.le_refl _) _
  have hsz : (w.alloc (.cells (madeCells #[.int .i64 0] n) TA)).heap.size = w.heap.size + 1 := by simp
  generalize madeCells #[Value.int .i64 0] n = C at *
  clear hi hz0 hz1 hz2
  replace hsz := Lib.hid hsz
  go_enter Try.func7, Try.ntmps7
  go_wp2
  go_ret2
  have e : (zeros n).length = n := by simp [zeros]
  refine ⟨w.heap.size + 1, w.heap.size, rfl, ⟨⟨n, e.symm, ?_⟩, hblk.alloc _, by omega, by omega, by omega, ok_zeros n⟩, by omega, Nat.le_refl _, hB.alloc (by have := hsz.out; omega) _⟩
  have := Blk.new (w.alloc (Obj.cells C TA)) TC [.slice (some ⟨w.heap.size, 0, none⟩) n n]
  rw [hsz.out] at this
  exact this

/-- Counters that are nil, or that New did not make. -/
def NoC (w : World) (v : Value) : Prop := v = .pointer none ∨ ∃ p, v = .pointer (some ⟨p, 0, none⟩) ∧ ∃ ao c, w.cell? ⟨p, 0, none⟩ = some (.slice ao 0 c)
theorem none_no (w : World) (v : Value) (h : NoC w v) : Calls Try.prog 15 #[v] w fun e w' => e = .returned (.bool true) ∧ w' = w := by
  rcases h with rfl | ⟨p, rfl, ao, c, c0⟩ <;>
  · go_enter Try.func15, Try.ntmps15
    go_wp2
    go_ret
    exact ⟨rfl, rfl⟩
theorem has_no (w : World) (v : Value) (h : NoC w v) (i : Int) : Calls Try.prog 18 #[v, .int .i64 i] w fun e w' => e = .returned (.bool false) ∧ w' = w := by
  have N := Lib.hid (none_no w v h)
  clear h
  go_enter Try.func18, Try.ntmps18
  go_wp2_with (go_at_call 15; refine N.out.mono ?_; rintro e w2 ⟨rfl, rfl⟩)
  go_ret
  exact ⟨rfl, rfl⟩
theorem add_no (w : World) (v : Value) (h : NoC w v) (i d : Int) : Calls Try.prog 10 #[v, .int .i64 i, .int .i64 d] w fun e w' => e = .returned (.tuple #[.int .i64 0, .int .i64 1]) ∧ w' = w := by
  have N := Lib.hid (none_no w v h)
  clear h
  go_enter Try.func10, Try.ntmps10
  go_wp2_with (go_at_call 15; refine N.out.mono ?_; rintro e w2 ⟨rfl, rfl⟩)
  go_ret2
  exact ⟨rfl, rfl⟩
theorem get_no (w : World) (v : Value) (h : NoC w v) (i : Int) : Calls Try.prog 13 #[v, .int .i64 i] w fun e w' => e = .returned (.int .i64 0) ∧ w' = w := by
  have N := Lib.hid (has_no w v h i)
  clear h
  go_enter Try.func13, Try.ntmps13
  go_wp2_with (go_at_call 18; refine N.out.mono ?_; rintro e w2 ⟨rfl, rfl⟩)
  go_ret
  exact ⟨rfl, rfl⟩
theorem list_no (w : World) (v : Value) (h : NoC w v) : Calls Try.prog 14 #[v] w fun e w' => e = .returned (.slice none 0 0) ∧ w' = w := by
  have N := Lib.hid (none_no w v h)
  clear h
  go_enter Try.func14, Try.ntmps14
  go_wp2_with (go_at_call 15; refine N.out.mono ?_; rintro e w2 ⟨rfl, rfl⟩)
  go_ret
  exact ⟨rfl, rfl⟩
theorem copy_no (w : World) (v : Value) (h : NoC w v) : Calls Try.prog 9 #[v] w fun e w' => e = .returned (.pointer none) ∧ w' = w := by
  have N := Lib.hid (none_no w v h)
  clear h
  go_enter Try.func9, Try.ntmps9
  go_wp2_with (go_at_call 15; refine N.out.mono ?_; rintro e w2 ⟨rfl, rfl⟩)
  go_ret
  exact ⟨rfl, rfl⟩
set_option maxHeartbeats 1000000 in
theorem copy_at (w : World) (p q : Nat) (l : List Int) (h : CAt w p q l) :
    Calls Try.prog 9 #[.pointer (some ⟨p, 0, none⟩)] w fun e w' => ∃ p' q', e = .returned (.pointer (some ⟨p', 0, none⟩)) ∧ CAt w' p' q' l ∧ w.heap.size ≤ p' ∧ w.heap.size ≤ q' ∧ Below w.heap.size w w' := by
  obtain ⟨_, rfl, hp⟩ := h.hp
  have c0 : w.cell? ⟨p, 0, none⟩ = some (.slice (some ⟨q, 0, none⟩) l.length l.length) := hp.cell 0
  have n2 := h.n2
  have N := Lib.hid (none_at w p q l h)
  have H := Lib.hid h
  obtain ⟨i0, hi, hz0, hz1, hz2⟩ := info_parts info_atomic
  have hmk := fun W => run_make_rowN (P := Try.prog) 42 TA i0 _ Try.underlying42 hi hz0 .i64 .i64 l.length l.length (Nat.le_refl _) (by rw [hz2]; omega) (by omega) W
  rw [hz1, Nat.mul_one] at hmk
  simp only [Value.cells] at hmk
  have hcl : (madeCells #[.int .i64 0] l.length).toList.length = l.length := by rw [toList_madeCells_one]; simp
  have hval : ∀ j, j < l.length → (madeCells #[.int .i64 0] l.length).toList[j]? = some (.int .i64 0) := fun j hj => by rw [toList_madeCells_one]; simp [hj]
  have hblk : Blk (w.alloc (.cells (madeCells #[.int .i64 0] l.length) TA)) w.heap.size TA (madeCells #[.int .i64 0] l.length).toList := by
    have := Blk.new w TA (madeCells #[.int .i64 0] l.length).toList
    simpa using this
  have hB : Below w.heap.size w (w.alloc (.cells (madeCells #[.int .i64 0] l.length) TA)) := (Below.refl _ _).alloc (Nat.le_refl _) _
  have hsz : (w.alloc (.cells (madeCells #[.int .i64 0] l.length) TA)).heap.size = w.heap.size + 1 := by simp
  generalize madeCells #[Value.int .i64 0] l.length = C at *
  have hblk2 := hblk.alloc (Obj.cells #[.slice (some ⟨w.heap.size, 0, none⟩) l.length l.length] TC)
  have hp2 : Blk ((w.alloc (.cells C TA)).alloc (Obj.cells #[.slice (some ⟨w.heap.size, 0, none⟩) l.length l.length] TC)) (w.heap.size + 1) TC [.slice (some ⟨w.heap.size, 0, none⟩) l.length l.length] := by
    have := Blk.new (w.alloc (Obj.cells C TA)) TC [.slice (some ⟨w.heap.size, 0, none⟩) l.length l.length]
    rw [hsz] at this
    exact this
  have hB2 : Below w.heap.size w ((w.alloc (.cells C TA)).alloc (Obj.cells #[.slice (some ⟨w.heap.size, 0, none⟩) l.length l.length] TC)) := hB.alloc (by omega) _
  have hlt := h.lt
  have hl64 : (l.length : Int) ≤ 64 := by omega
  replace hcl := Lib.hid hcl
  replace hval := Lib.hid hval
  replace hsz := Lib.hid hsz
  clear h hp hi hz0 hz1 hz2 hblk hB
  go_enter Try.func9, Try.ntmps9
  go_upto_region 4 with (go_at_call 15; refine N.out.mono ?_; rintro e w2 ⟨rfl, rfl⟩)
  generalize hW : (w2.alloc (Obj.cells C TA)).alloc _ = W1 at *
  replace hW := Lib.hid hW
  clear hmk hsz
  have A1 := H.out.below hB2
  have c1 : W1.cell? ⟨p, 0, none⟩ = some (.slice (some ⟨q, 0, none⟩) l.length l.length) := by
    obtain ⟨_, rfl, hp⟩ := A1.hp
    exact hp.cell 0
  clear A1
  go_wp2_with fail
  go_loopg [20] l.length (fun g i wr => ∃ (k : Nat) (cs : List Value), g = l.length - k ∧ k ≤ l.length ∧ i = .int .i64 (k : Int) ∧ Blk wr w2.heap.size TA cs ∧ Blk wr (w2.heap.size + 1) TC [.slice (some ⟨w2.heap.size, 0, none⟩) l.length l.length] ∧ Hid (cs.length = l.length) ∧ Hid (∀ j, j < k → cs[j]? = (ints l)[j]?) ∧ Below w2.heap.size w2 wr)
  case atStart => exact ⟨0, C.toList, rfl, Nat.zero_le _, rfl, hblk2, hp2, hcl, Lib.hid (by simp), hB2⟩
  case round =>
    obtain ⟨k, cs, hg, hk, rfl, K, KP, hcs, hpre, hBr⟩ := hrel
    clear hblk2 hp2 hB2 c0 c1
    replace hg := Lib.hid hg
    have A := H.out.below hBr
    have c0 : wr.cell? ⟨p, 0, none⟩ = some (.slice (some ⟨q, 0, none⟩) l.length l.length) := by
      obtain ⟨_, rfl, hp⟩ := A.hp
      exact hp.cell 0
    by_cases hlt2 : k < l.length
    · obtain ⟨x, hx⟩ : ∃ x, l[k]? = some x := ⟨_, List.getElem?_eq_getElem hlt2⟩
      have ck : wr.cell? ⟨q, k, none⟩ = some (.int .i64 x) := (A.hq.cell k).trans (by simp [ints, hx, nI])
      have L := Lib.hid (load_any wr q k x ck)
      have hkl : (k : Int) < (l.length : Int) := by omega
      obtain ⟨y, hy⟩ : ∃ y, cs[k]? = some y := ⟨_, List.getElem?_eq_getElem (by rw [hcs.out]; exact hlt2)⟩
      have cm : wr.cell? ⟨w2.heap.size, k, none⟩ = some y := (K.cell k).trans hy
      have cn : wr.cell? ⟨w2.heap.size + 1, 0, none⟩ = some (.slice (some ⟨w2.heap.size, 0, none⟩) l.length l.length) := KP.cell 0
      have fm := K.free k
      have S := fun W => store_any W w2.heap.size k y x
      replace S := Lib.hid S
      have hpre2 : Hid (∀ j, j < k + 1 → (cs.set k (.int .i64 x))[j]? = (ints l)[j]?) := Lib.hid (fun j hj => by
        rcases Nat.lt_or_ge j k with hlt | hge
        · rw [List.getElem?_set_ne (by omega)]; exact hpre.out j hlt
        · obtain rfl : j = k := by omega
          have : j < cs.length := by rw [hcs.out]; exact hlt2
          simp [this, ints, hx, nI])
      have hcs2 : Hid ((cs.set k (.int .i64 x)).length = l.length) := Lib.hid (by rw [List.length_set]; exact hcs.out)
      replace hx := Lib.hid hx
      replace hy := Lib.hid hy
      clear A
      go_upto_region 7 with fail
      go_region_with (first
        | (go_at_call 17; refine (load_any wr.drew q k x ck).mono ?_; rintro e w3 ⟨rfl, rfl⟩)
        | (go_at_call 16; refine (store_any wr.drew w2.heap.size k y x cm fm).mono ?_; rintro e w3 ⟨rfl, rfl⟩))
      all_goals
        (go_wp2_with fail
         go_roundg (l.length - (k + 1))
         case measure => have := hg.out; omega
         case rel => exact ⟨k + 1, _, rfl, by omega, by go_num, (K.drewN 1).set k _, (KP.drewN 1).setOther (show w2.heap.size + 1 ≠ w2.heap.size by omega) _, hcs2, hpre2, (below_drewN hBr 1).setCell (Nat.le_refl _) _⟩)
    · have hkk : k = l.length := by omega
      subst hkk
      have e : cs = ints l := List.ext_getElem? (fun j => by
        rcases Nat.lt_or_ge j l.length with h | h
        · exact hpre.out j h
        · rw [List.getElem?_eq_none (by rw [hcs.out]; exact h), List.getElem?_eq_none (by simp [ints]; omega)])
      rw [e] at K
      clear e A
      go_wp2_with fail
      go_ret
      exact ⟨_, _, rfl, ⟨⟨l.length, rfl, KP⟩, K, by omega, H.out.n1, H.out.n2, H.out.ok⟩, by omega, Nat.le_refl _, hBr⟩
end Go.Proofs.Ytfobljmkckclgaa.Ct
