/-
  'same' of fairwaylaw07, and the chapter's counters (added). Conditions: counters in memory, and the answer's list of the same.
-/
import Derived.Test.YtfobljmkckclgaaCtA
namespace Go.Proofs.Ytfobljmkckclgaa.Ct
open Go.RowKit Go.Proofs.Ytfobljmkckclgaa.Mem

theorem getL_at {l : List Int} {k : Nat} {x : Int} (h : l[k]? = some x) : getL l (k : Int) = x := by
  have hk := (List.getElem?_eq_some_iff.1 h).1
  unfold getL
  rw [if_neg (by omega), Int.toNat_natCast, List.getD_eq_getElem?_getD, h]
  rfl
theorem getL_neg (l : List Int) : getL l (-1) = 0 := if_pos (.inl (by decide))
theorem getL_end (l : List Int) : getL l (l.length : Int) = 0 := if_pos (.inr (Int.le_refl _))
theorem turned_setCell {S : List Nat} {w w' : World} (h : Turned S w w') {p : Nat} (hp : p ∈ S) (i : Nat) (u : Value) : Turned S w (w'.setCell ⟨p, i, none⟩ u) :=
  ⟨h.os, h.tape, h.output, by simpa [World.setCell] using h.size, fun k hk hn => (Below.heap_setCell w' _ u k (fun e => hn (by subst e; exact hp))).trans (h.block k hk hn)⟩
theorem turned_drewN {S : List Nat} {w w' : World} (h : Turned S w w') (n : Nat) : Turned S w (w'.drewN n) := ⟨h.os, h.tape, h.output, h.size, h.block⟩
theorem turned_refl (S : List Nat) (w : World) : Turned S w w := ⟨rfl, rfl, rfl, Nat.le_refl _, fun _ _ _ => rfl⟩
/-- A row that is owned: its block, and its cells by number. -/
theorem owns_blk {w : World} {base : Nat} {v : Value} {l : List Int} (h : w.ownsRow base TI 1 v l.length (ints l)) (h0 : 0 < l.length) :
    ∃ g cap cs, v = .slice (some ⟨g, 0, none⟩) l.length cap ∧ base ≤ g ∧ g < w.heap.size ∧ Blk w g TI cs ∧ ∀ (j : Nat) x, l[j]? = some x → cs[j]? = some (.int .i64 x) := by
  rcases h.2 with ⟨_, h1⟩ | ⟨g, cap, cur, h1, h2, h3, h4, h5, h6, h7⟩
  · omega
  · refine ⟨g, cap, cur.toList, h1, h2, lt_of_block h3, by unfold Blk; simpa using h3, fun j x hj => ?_⟩
    have hlt := (List.getElem?_eq_some_iff.1 hj).1
    have : (cur.toList.take (l.length * 1))[j]? = some (.int .i64 x) := by rw [h7]; simp [ints, hj, nI]
    rw [List.getElem?_take] at this
    split at this
    · exact this
    · cases this

set_option maxHeartbeats 1000000 in
theorem same_yes (w : World) (p q : Nat) (l : List Int) (h : CAt w p q l) (base : Nat) (rv : Value) (hr : w.ownsRow base TI 1 rv l.length (ints l)) :
    Calls Try.prog 12 #[.pointer (some ⟨p, 0, none⟩), rv] w fun e w' => e = .returned (.bool true) ∧ Below w.heap.size w w' := by
  have n1 := h.n1
  have n2 := h.n2
  obtain ⟨g, cap, cs, rfl, hg1, hg2, hgB, hgc⟩ := owns_blk hr (by omega)
  have hlt := h.lt
  have H := Lib.hid h
  have hn2 : (l.length : Int) ≤ 64 := by omega
  replace hgc := Lib.hid hgc
  clear hr h
  go_enter Try.func12, Try.ntmps12
  go_wp2_with fail
  refine (list_at _ p q l H.out).mono ?_
  rintro e w1 ⟨v, rfl, hown, B1⟩
  obtain ⟨gm, capm, cm, rfl, hm1, hm2, hmB, hmc⟩ := owns_blk hown (by omega)
  have hz : ((l.length : Int) != (l.length : Int)) = false := by simp
  clear hown
  go_wp2_with fail
  go_loopg [6] l.length (fun gg i wr => ∃ (k : Nat) (cm : List Value), gg = l.length - k ∧ k ≤ l.length ∧ i = .int .i64 (k : Int) ∧ Blk wr gm TI cm ∧ Hid (∀ (j : Nat) x, k ≤ j → l[j]? = some x → cm[j]? = some (.int .i64 x)) ∧ Turned [gm] w1 wr)
  case atStart => exact ⟨0, cm, rfl, Nat.zero_le _, rfl, hmB, Lib.hid (fun j x _ hj => hmc j x hj), turned_refl _ _⟩
  case round =>
    obtain ⟨k, cm', hgk, hk, rfl, M, hM, T⟩ := hrel
    clear hmB hmc cm
    replace hgk := Lib.hid hgk
    have s1 := B1.size
    have s2 := T.size
    by_cases hlt : k < l.length
    · obtain ⟨x, hx⟩ : ∃ x, l[k]? = some x := ⟨_, List.getElem?_eq_getElem hlt⟩
      have c1 : wr.cell? ⟨gm, k, none⟩ = some (.int .i64 x) := (M.cell k).trans (hM.out k x (Nat.le_refl _) hx)
      have f1 := M.free k
      have c2 : wr.cell? ⟨g, k, none⟩ = some (.int .i64 x) := ((T.blk (hgB.below B1 hg2) (by simp; omega)).cell k).trans (hgc.out k x hx)
      have G := fun d => get_at (wr.drewN d) p q l (((H.out.below B1).keep T (by simp; omega) (by simp; omega)).drewN d) (k : Int)
      rw [getL_at hx] at G
      replace G := Lib.hid G
      have hkk : (k : Int) < (l.length : Int) := by omega
      have z1 : (x != x) = false := by simp
      have hM2 : ∀ (j : Nat) y, k + 1 ≤ j → l[j]? = some y → (cm'.set k (.int .i64 (-1)))[j]? = some (.int .i64 y) := fun j y hj hy => by rw [List.getElem?_set_ne (by omega)]; exact hM.out j y (by omega) hy
      replace hM2 := Lib.hid hM2
      replace hx := Lib.hid hx
      go_wp2_with fail
      go_quiet ((go_at_call 13; exact Calls.quiet_of (G.out _)))
      go_wp2_with fail
      go_roundg (l.length - (k + 1))
      case measure => have := hgk.out; omega
      case rel => exact ⟨k + 1, _, rfl, by omega, by go_num, (M.drewN nq).set k _, hM2, turned_setCell (turned_drewN T _) (by simp) _ _⟩
    · have hkk : k = l.length := by omega
      subst hkk
      have G1 := get_at wr p q l ((H.out.below B1).keep T (by simp; omega) (by simp; omega)) (-1)
      rw [getL_neg] at G1
      have G2 := fun d => get_at (wr.drewN d) p q l (((H.out.below B1).keep T (by simp; omega) (by simp; omega)).drewN d) (l.length : Int)
      rw [getL_end] at G2
      replace G1 := Lib.hid G1
      replace G2 := Lib.hid G2
      go_wp2_with fail
      refine G1.out.mono ?_
      rintro e w2 ⟨rfl, d1, rfl⟩
      go_wp2_with fail
      refine (G2.out _).mono ?_
      rintro e w3 ⟨rfl, d2, rfl⟩
      go_wp2_with fail
      go_ret
      exact ⟨rfl, B1.trans ((turned_drewN T _).below B1.size (by simpa using hm1))⟩

theorem added_any (w : World) : Calls Try.prog 6 #[] w fun e w' => e = .returned (.bool true) ∧ Below w.heap.size w w' := by
  go_enter Try.func6, Try.ntmps6
  go_wp2_with fail
  refine (new_good w 2 (by decide) (by decide)).mono ?_
  rintro e w0 ⟨p, q, rfl, C0, hp, hq, B0⟩
  go_wp2_with fail
  refine (show Calls _ _ _ w0 (fun e w' => e = .returned (.tuple #[.int .i64 5, .int .i64 0]) ∧ CAt w' p q [0, 5] ∧ Turned [p, q] w0 w') from add_at w0 p q [0, 0] C0 1 5 (by decide)).mono ?_
  rintro e w1 ⟨rfl, C1, T1⟩
  have B1 : Below w.heap.size w w1 := B0.trans (T1.below B0.size (by simp; omega))
  clear C0 B0 T1
  go_wp2_with fail
  refine (show Calls _ _ _ w1 (fun e w' => e = .returned (.tuple #[.int .i64 4611686018427387904, .int .i64 0]) ∧ CAt w' p q [0, 4611686018427387904] ∧ Turned [p, q] w1 w') from add_at w1 p q [0, 5] C1 1 4611686018427387904 (by decide)).mono ?_
  rintro e w2 ⟨rfl, C2, T2⟩
  have B2 : Below w.heap.size w w2 := B1.trans (T2.below B1.size (by simp; omega))
  clear C1 B1 T2
  go_wp2_with fail
  refine (show Calls _ _ _ w2 (fun e w' => e = .returned (.tuple #[.int .i64 0, .int .i64 4]) ∧ CAt w' p q [0, 4611686018427387904] ∧ Turned [p, q] w2 w') from add_at w2 p q [0, 4611686018427387904] C2 2 1 (by decide)).mono ?_
  rintro e w3 ⟨rfl, C3, T3⟩
  have B3 : Below w.heap.size w w3 := B2.trans (T3.below B2.size (by simp; omega))
  clear C2 B2 T3
  go_wp2_with fail
  refine (show Calls _ _ _ w3 (fun e w' => e = .returned (.tuple #[.int .i64 0, .int .i64 2]) ∧ CAt w' p q [0, 4611686018427387904] ∧ Turned [p, q] w3 w') from add_at w3 p q [0, 4611686018427387904] C3 0 (-1) (by decide)).mono ?_
  rintro e w4 ⟨rfl, C4, T4⟩
  have B4 : Below w.heap.size w w4 := B3.trans (T4.below B3.size (by simp; omega))
  clear C3 B3 T4
  go_wp2_with fail
  refine (list_at w4 p q _ C4).mono ?_
  rintro e w5 ⟨v, rfl, hown, B5⟩
  obtain ⟨g, cap, cs, rfl, g1, g2, gB, gc⟩ := owns_blk hown (by decide)
  have c0 := (gB.cell 0).trans (gc 0 _ rfl)
  have c1 := (gB.cell 1).trans (gc 1 _ rfl)
  clear hown
  go_wp2_with fail
  go_ret
  exact ⟨rfl, B4.trans (B5.mono B4.size)⟩
end Go.Proofs.Ytfobljmkckclgaa.Ct
