/-
  Counters as numbers; contracts of the document's answer (fairwayref07): New, Add. Conditions: counters from 0 to 2^62.
-/
import Derived.Test.YtfobljmkckclgaaProg
import Derived.Test.YtfobljmkckclgaaTyped
import Derived.Test.YtfobljmkckclgaaBuild
import Derived.BigQuiet
import Derived.Deep.LoopGhost
namespace Go.Proofs.Ytfobljmkckclgaa.Ct
open Go.RowKit Go.Proofs.Ytfobljmkckclgaa.Mem

def nI (n : Int) : Value := .int .i64 n
abbrev TI : TypeId := 2
def ints (l : List Int) : List Value := l.map nI
/-- Counters that may be. -/
def Ok (l : List Int) : Prop := ∀ x ∈ l, 0 ≤ x ∧ x ≤ 4611686018427387904
/-- There is no such counter, or it is none that may be added. -/
def bad (l : List Int) (i d : Int) : Prop := d < 0 ∨ i < 0 ∨ (l.length : Int) ≤ i
instance (l : List Int) (i d : Int) : Decidable (bad l i d) := by unfold bad; exact inferInstance
def val (l : List Int) (i d : Int) : Int := min (l.getD i.toNat 0 + d) 4611686018427387904
def ans (l : List Int) (i d : Int) : Int := if bad l i d then 0 else val l i d
def err (l : List Int) (i d : Int) : Int := if d < 0 then 2 else if i < 0 ∨ (l.length : Int) ≤ i then 4 else 0
def addL (l : List Int) (i d : Int) : List Int := if bad l i d then l else l.set i.toNat (val l i d)
theorem addL_len (l : List Int) (i d : Int) : (addL l i d).length = l.length := by unfold addL; split <;> simp
theorem ok_addL {l : List Int} (h : Ok l) (i d : Int) : Ok (addL l i d) := by
  unfold addL
  split
  · exact h
  · rename_i hb
    intro x hx
    rcases List.mem_or_eq_of_mem_set hx with hx | rfl
    · exact h x hx
    · unfold bad at hb
      have : 0 ≤ l.getD i.toNat 0 := by
        rw [List.getD_eq_getElem?_getD]
        cases hg : l[i.toNat]? with
        | none => simp
        | some y => exact (h y (List.mem_of_getElem? hg)).1
      unfold val
      omega

theorem owns_turned {S : List Nat} {w w' : World} {base : Nat} {e : TypeId} {size : Nat} {v : Value} {n : Nat} {xs : List Value} (h : w.ownsRow base e size v n xs) (t : Turned S w w') (hS : ∀ k ∈ S, v.ownBlock ≠ some k) : w'.ownsRow base e size v n xs := by
  refine ⟨h.1, h.2.imp id ?_⟩
  rintro ⟨g, cap, cur, h1, h2, h3, h4⟩
  exact ⟨g, cap, cur, h1, h2, (t.block g (lt_of_block h3) (fun hm => by subst h1; exact hS g hm rfl)).trans h3, h4⟩
theorem owns_below {w w' : World} {base : Nat} {e : TypeId} {size : Nat} {v : Value} {n : Nat} {xs : List Value} (h : w.ownsRow base e size v n xs) (b : Below w.heap.size w w') : w'.ownsRow base e size v n xs := owns_turned h (Turned.of_below b) (by simp)
theorem owns_base {w : World} {base base' : Nat} {e : TypeId} {size : Nat} {v : Value} {n : Nat} {xs : List Value} (h : w.ownsRow base e size v n xs) (hb : base' ≤ base) : w.ownsRow base' e size v n xs := by
  refine ⟨h.1, h.2.imp id ?_⟩
  rintro ⟨g, cap, cur, h1, h2, h3⟩
  exact ⟨g, cap, cur, h1, by omega, h3⟩
theorem info_i64 : (Try.prog.info? TI).map (fun i => (i.zero, i.size, i.bytes)) = some (some (.int .i64 0), 1, 8) := by kernel_rfl

/-- What Add answers, and what all are then. -/
def RAddP (base : Nat) (rv0 : Value) (w : World) (l : List Int) (i d : Int) (e : Ending) (w' : World) : Prop :=
  ∃ rv, e = .returned (.tuple #[rv, .int .i64 (ans l i d), .int .i64 (err l i d)]) ∧ w'.ownsRow base TI 1 rv (addL l i d).length (ints (addL l i d)) ∧ Below w.heap.size w w' ∧ (rv = rv0 ∨ ∀ k, rv.ownBlock = some k → w.heap.size ≤ k)

theorem radd_any (w : World) (base : Nat) (rv : Value) (l : List Int) (i d : Int) (h : w.ownsRow base TI 1 rv l.length (ints l)) (ok : Ok l) (hb : base ≤ w.heap.size) (hl : l.length ≤ 64) (hd : d ≤ 9223372036854775807) :
    Calls Try.prog 11 #[rv, .int .i64 i, .int .i64 d] w (RAddP base rv w l i d) := by
  by_cases h0 : bad l i d
  · have ea : ans l i d = 0 := if_pos h0
    have el : addL l i d = l := if_pos h0
    unfold RAddP
    rw [ea, el]
    clear ea el
    have hform : ∃ ao cap, rv = .slice ao l.length cap := by
      rcases h.2 with ⟨rfl, h0⟩ | ⟨g, cap, cur, rfl, _⟩
      · exact ⟨none, 0, by rw [h0]⟩
      · exact ⟨_, cap, rfl⟩
    obtain ⟨ao, cap, rfl⟩ := hform
    unfold bad at h0
    by_cases hd0 : d < 0
    · have ee : err l i d = 2 := if_pos hd0
      rw [ee]
      clear ee h0
      replace h := Lib.hid h
      go_enter Try.func11, Try.ntmps11
      go_wp2_with fail
      go_ret3
      exact ⟨_, rfl, h.out, Below.refl _ _, .inl rfl⟩
    · have ee : err l i d = 4 := by unfold err; rw [if_neg hd0, if_pos (by omega)]
      rw [ee]
      clear ee
      replace h := Lib.hid h
      by_cases hi : i < 0
      · clear h0
        go_enter Try.func11, Try.ntmps11
        go_wp2_with fail
        go_ret3
        exact ⟨_, rfl, h.out, Below.refl _ _, .inl rfl⟩
      · have hi2 : decide ((l.length : Int) ≤ i) = true := decide_eq_true (by omega)
        clear h0
        go_enter Try.func11, Try.ntmps11
        go_wp2_with fail
        go_ret3
        exact ⟨_, rfl, h.out, Below.refl _ _, .inl rfl⟩
  · have ea : ans l i d = val l i d := if_neg h0
    have el : addL l i d = l.set i.toNat (val l i d) := if_neg h0
    have ee : err l i d = 0 := by unfold bad at h0; unfold err; rw [if_neg (by omega), if_neg (by omega)]
    unfold RAddP
    rw [ea, el, ee]
    clear ea el ee
    unfold bad at h0
    obtain ⟨j, rfl⟩ := Int.eq_ofNat_of_zero_le (show 0 ≤ i by omega)
    have hj : j < l.length := by omega
    have d0 : 0 ≤ d := by omega
    obtain ⟨g, cap, rfl, hc1, hc2⟩ := h.form (by omega)
    have hcell : ∀ k u, (ints l)[k]? = some u → w.cell? ((⟨g, 0, none⟩ : Addr).add k) = some u := h.cells rfl
    obtain ⟨i0, hi, hz0, hz1, hz2⟩ := info_parts info_i64
    have hx := ok l[j] (List.getElem_mem hj)
    have hm1 : ∀ u ∈ ints l, u.oneCell' = true := by intro u hu; simp [ints] at hu; obtain ⟨a, _, rfl⟩ := hu; rfl
    have hlen : (ints l).length = l.length * 1 := by simp [ints]
    generalize hX : l[j] = X at *
    have hv : val l (j : Int) d = min (X + d) 4611686018427387904 := by unfold val; rw [Int.toNat_natCast, List.getD_eq_getElem?_getD, List.getElem?_eq_getElem hj, hX]; rfl
    have hjl : (j : Int) < (l.length : Int) := by omega
    rw [hv]
    replace hX := Lib.hid hX
    replace hi := Lib.hid hi
    replace hz0 := Lib.hid hz0
    replace hz1 := Lib.hid hz1
    replace hz2 := Lib.hid hz2
    clear h hv h0
    rw [Int.toNat_natCast]
    by_cases hbig : 4611686018427387904 - X < d
    · have ev : min (X + d) 4611686018427387904 = 4611686018427387904 := by omega
      rw [ev]
      replace ev := Lib.hid ev
      go_enter Try.func11, Try.ntmps11
      go_wp2_with (at_builtin; refine wpList_append_own _ rfl _ _ 28 rfl w.heap.size TI i0 (.int .i64 0) 1 8 Try.underlying28 hi.out hz0.out hz1.out hz2.out rfl (by decide) _ 0 [] rfl (World.ownsRow_nil _ _ _ _) ⟨g, 0, none⟩ l.length cap (ints l) rfl hlen hcell hm1 ?c3 ?c4 ?c5 ?_)
      case c3 => unfold maxLen; omega
      case c4 => omega
      try (case c5 => exact Nat.le_refl _)
      intro v' w1 hown1 hgrow1 _
      obtain ⟨g1, cap1, rfl, k1, k2⟩ := hown1.form (by omega)
      have cj : w1.cell? ⟨g1, j, none⟩ = some (.int .i64 X) := by
        rw [hown1.cellAt j (by omega)]
        simp [ints, hj, hX.out, nI]
      have fj := hown1.frozenAt j
      have hst := (hown1.stored j (.int .i64 (4611686018427387904))).1
      have hB : Below w.heap.size w (w1.setCell ⟨g1, j, none⟩ (.int .i64 (4611686018427387904))) := ((Below.refl _ _).grown hgrow1 (Nat.le_refl _) (fun k hk => by cases hk)).setCell k1 _
      have cj2 : (w1.setCell ⟨g1, j, none⟩ (.int .i64 (4611686018427387904))).cell? ⟨g1, j, none⟩ = some (.int .i64 (4611686018427387904)) := by
        rw [hst.cellAt j (by omega)]
        simp [ints, hj]
      have hfin : (w1.setCell ⟨g1, j, none⟩ (.int .i64 (4611686018427387904))).ownsRow base TI 1 (.slice (some ⟨g1, 0, none⟩) l.length cap1) (l.set j (4611686018427387904)).length (ints (l.set j (4611686018427387904))) := by
        have := owns_base hst (base' := base) hb
        rw [List.length_set]
        have e : ints (l.set j (4611686018427387904)) = (ints l).set j (.int .i64 (4611686018427387904)) := by simp [ints, nI, List.map_set]
        rw [e]
        exact this
      replace hfin := Lib.hid hfin
      replace hB := Lib.hid hB
      clear hown1 hgrow1 hst hcell hm1 hlen
      go_wp2_with fail
      generalize w1.setCell ⟨g1, j, none⟩ (.int .i64 (4611686018427387904)) = W at *
      go_quiet (fail)
      go_wp2_with fail
      go_ret3
      exact ⟨_, rfl, hfin.out, below_drewN hB.out _, .inr (fun k hk => by cases hk; exact k1)⟩
    · have ev : min (X + d) 4611686018427387904 = X + d := by omega
      rw [ev]
      replace ev := Lib.hid ev
      go_enter Try.func11, Try.ntmps11
      go_wp2_with (at_builtin; refine wpList_append_own _ rfl _ _ 28 rfl w.heap.size TI i0 (.int .i64 0) 1 8 Try.underlying28 hi.out hz0.out hz1.out hz2.out rfl (by decide) _ 0 [] rfl (World.ownsRow_nil _ _ _ _) ⟨g, 0, none⟩ l.length cap (ints l) rfl hlen hcell hm1 ?c3 ?c4 ?c5 ?_)
      case c3 => unfold maxLen; omega
      case c4 => omega
      try (case c5 => exact Nat.le_refl _)
      intro v' w1 hown1 hgrow1 _
      obtain ⟨g1, cap1, rfl, k1, k2⟩ := hown1.form (by omega)
      have cj : w1.cell? ⟨g1, j, none⟩ = some (.int .i64 X) := by
        rw [hown1.cellAt j (by omega)]
        simp [ints, hj, hX.out, nI]
      have fj := hown1.frozenAt j
      have hst := (hown1.stored j (.int .i64 (X + d))).1
      have hB : Below w.heap.size w (w1.setCell ⟨g1, j, none⟩ (.int .i64 (X + d))) := ((Below.refl _ _).grown hgrow1 (Nat.le_refl _) (fun k hk => by cases hk)).setCell k1 _
      have cj2 : (w1.setCell ⟨g1, j, none⟩ (.int .i64 (X + d))).cell? ⟨g1, j, none⟩ = some (.int .i64 (X + d)) := by
        rw [hst.cellAt j (by omega)]
        simp [ints, hj]
      have hfin : (w1.setCell ⟨g1, j, none⟩ (.int .i64 (X + d))).ownsRow base TI 1 (.slice (some ⟨g1, 0, none⟩) l.length cap1) (l.set j (X + d)).length (ints (l.set j (X + d))) := by
        have := owns_base hst (base' := base) hb
        rw [List.length_set]
        have e : ints (l.set j (X + d)) = (ints l).set j (.int .i64 (X + d)) := by simp [ints, nI, List.map_set]
        rw [e]
        exact this
      replace hfin := Lib.hid hfin
      replace hB := Lib.hid hB
      clear hown1 hgrow1 hst hcell hm1 hlen
      go_wp2_with fail
      generalize w1.setCell ⟨g1, j, none⟩ (.int .i64 (X + d)) = W at *
      go_quiet (fail)
      go_wp2_with fail
      go_ret3
      exact ⟨_, rfl, hfin.out, below_drewN hB.out _, .inr (fun k hk => by cases hk; exact k1)⟩

theorem rnew_bad (w : World) (n : Int) (h : n < 1 ∨ 64 < n) : Calls Try.prog 8 #[.int .i64 n] w fun e w' => e = .returned (.tuple #[.slice none 0 0, .int .i64 2]) ∧ w' = w := by
  go_enter Try.func8, Try.ntmps8
  go_wp2
  all_goals first | (go_ret2; exact ⟨rfl, rfl⟩) | (exfalso; omega)
def zeros (n : Nat) : List Int := List.replicate n 0
theorem ok_zeros (n : Nat) : Ok (zeros n) := fun x hx => by
  have := (List.mem_replicate.1 hx).2
  omega
theorem rnew_good (w : World) (n : Nat) (h1 : 1 ≤ n) (h2 : n ≤ 64) : Calls Try.prog 8 #[.int .i64 (n : Int)] w
    fun e w' => ∃ rv, e = .returned (.tuple #[rv, .int .i64 0]) ∧ w'.ownsRow w.heap.size TI 1 rv n (ints (zeros n)) ∧ Below w.heap.size w w' := by
  obtain ⟨i0, hi, hz0, hz1, hz2⟩ := info_parts info_i64
  have hmk := fun W => run_make_rowN (P := Try.prog) 28 TI i0 _ Try.underlying28 hi hz0 .i64 .i64 n n (Nat.le_refl _) (by rw [hz2]; omega) (by omega) W
  rw [hz1, Nat.mul_one] at hmk
  have hcl : (madeCells #[.int .i64 0] n).toList = ints (zeros n) := by rw [toList_madeCells_one]; simp [ints, zeros, nI]
  simp only [Value.cells] at hmk
  have hown := owns_newN w TI (ints (zeros n)) 1 n (by simp [ints, zeros]) (by unfold maxLen; omega)
  rw [← hcl] at hown
  simp only [Array.toArray_toList] at hown
  have hB : Below w.heap.size w (w.alloc (.cells (madeCells #[.int .i64 0] n) TI)) := (Below.refl _ _).alloc (Nat.le_refl _) _
  clear hi hz0 hz1 hz2
  rw [hcl] at hown
  generalize madeCells #[Value.int .i64 0] n = C at *
  replace hcl := Lib.hid hcl
  go_enter Try.func8, Try.ntmps8
  go_wp2
  go_ret2
  exact ⟨_, rfl, hown, hB⟩
end Go.Proofs.Ytfobljmkckclgaa.Ct
