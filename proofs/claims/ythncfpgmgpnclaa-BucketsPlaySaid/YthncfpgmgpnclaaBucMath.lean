/-
  Buckets as numbers: brought to a tick, taken from, and how many are taken in any ticks. Conditions: those that each lemma names. No program's text is named here.
-/
namespace Go.Proofs.Ythncfpgmgpnclaa.Buc

/-- A capacity, a refill, tokens, since, and a tick. -/
structure V where
  c : Int
  r : Int
  m : Int
  s : Int
  t : Int
abbrev top : Int := 1099511627776
structure V.Ok (v : V) : Prop where
  c0 : 0 ≤ v.c
  c1 : v.c ≤ 16
  r1 : 1 ≤ v.r
  r2 : v.r ≤ 1099511627776
  m0 : 0 ≤ v.m
  m1 : v.m ≤ v.c
  s0 : 0 ≤ v.s
  st : v.s ≤ v.t
  t1 : v.t ≤ 1099511627776
/-- The tick it is brought to. -/
def V.tick (v : V) (now : Int) : Int := max v.t (min now 1099511627776)
/-- How many tokens come. -/
def V.come (v : V) (now : Int) : Int := min (v.c - v.m) ((v.tick now - v.s) / v.r)
def V.bring (v : V) (now : Int) : V := { v with m := v.m + v.come now, s := if v.m + v.come now = v.c then v.tick now else v.s + v.come now * v.r, t := v.tick now }
def V.less (v : V) : V := { v with m := v.m - 1 }
/-- What Take leaves, and answers. -/
def V.takes (v : V) (now : Int) : Bool := decide ((v.bring now).m ≠ 0)
def V.take (v : V) (now : Int) : V := if (v.bring now).m = 0 then v.bring now else (v.bring now).less
/-- Brought: full and since now, or the next token is still to come. -/
def V.Now (v : V) : Prop := (v.m = v.c ∧ v.s = v.t) ∨ (v.m < v.c ∧ v.t < v.s + v.r)

theorem V.tick_ge (v : V) (now : Int) : v.t ≤ v.tick now := by unfold V.tick; omega
theorem V.come_ge {v : V} (h : v.Ok) (now : Int) : 0 ≤ v.come now := by
  have h1 := h.m1
  have h2 := h.st
  have h3 := v.tick_ge now
  have := Int.ediv_nonneg (a := v.tick now - v.s) (b := v.r) (by omega) (by have := h.r1; omega)
  unfold V.come
  omega
theorem V.come_le {v : V} (now : Int) : v.come now ≤ v.c - v.m := by unfold V.come; omega
theorem V.come_mul {v : V} (h : v.Ok) (now : Int) : v.come now * v.r ≤ v.tick now - v.s := by
  have h1 := h.r1
  have h2 : v.come now ≤ (v.tick now - v.s) / v.r := by unfold V.come; omega
  exact (Int.le_ediv_iff_mul_le (by omega)).1 h2
/-- One more comes just if it isn't full, and its time has come. -/
theorem V.come_more {v : V} (h : v.Ok) (now : Int) (j : Int) (hj : j ≤ v.come now) : j < v.come now ↔ v.m + j < v.c ∧ v.s + j * v.r + v.r ≤ v.tick now := by
  have h1 := h.r1
  have key : j + 1 ≤ (v.tick now - v.s) / v.r ↔ (j + 1) * v.r ≤ v.tick now - v.s := Int.le_ediv_iff_mul_le (by omega)
  have e : (j + 1) * v.r = j * v.r + v.r := by rw [Int.add_mul]; omega
  rw [e] at key
  unfold V.come at hj ⊢
  omega
theorem V.ok_bring {v : V} (h : v.Ok) (now : Int) : (v.bring now).Ok := by
  have h1 := v.tick_ge now
  have h2 := V.come_ge h now
  have h3 := V.come_le (v := v) now
  have h4 := V.come_mul h now
  have h5 : 0 ≤ v.come now * v.r := Int.mul_nonneg h2 (by have := h.r1; omega)
  obtain ⟨a, b, c, d, e, f, g, i, j⟩ := h
  have ht : v.tick now ≤ 1099511627776 := by unfold V.tick; omega
  refine ⟨a, b, c, d, ?_, ?_, ?_, ?_, ht⟩
  · show 0 ≤ v.m + v.come now; omega
  · show v.m + v.come now ≤ v.c; omega
  · show 0 ≤ (if v.m + v.come now = v.c then v.tick now else v.s + v.come now * v.r); split <;> omega
  · show (if v.m + v.come now = v.c then v.tick now else v.s + v.come now * v.r) ≤ v.tick now; split <;> omega
theorem V.now_bring {v : V} (h : v.Ok) (now : Int) : (v.bring now).Now := by
  have h2 := V.come_ge h now
  have h3 := V.come_le (v := v) now
  by_cases hf : v.m + v.come now = v.c
  · exact .inl ⟨hf, if_pos hf⟩
  · refine .inr ⟨?_, ?_⟩
    · show v.m + v.come now < v.c; omega
    · show v.tick now < (if v.m + v.come now = v.c then v.tick now else v.s + v.come now * v.r) + v.r
      rw [if_neg hf]
      have := V.come_more h now (v.come now) (Int.le_refl _)
      omega
theorem V.ok_less {v : V} (h : v.Ok) (h0 : v.m ≠ 0) : v.less.Ok := by
  obtain ⟨a, b, c, d, e, f, g, i, j⟩ := h
  exact ⟨a, b, c, d, by show 0 ≤ v.m - 1; omega, by show v.m - 1 ≤ v.c; omega, g, i, j⟩
theorem V.ok_take {v : V} (h : v.Ok) (now : Int) : (v.take now).Ok := by
  unfold V.take
  split
  · exact V.ok_bring h now
  · exact V.ok_less (V.ok_bring h now) (by assumption)

/-- Brought again to a tick that is not beyond its own: the same. -/
theorem V.bring_same {v : V} (h : v.Ok) (hn : v.Now) (now : Int) (hw : now ≤ v.t) : v.bring now = v := by
  have ht : v.tick now = v.t := by unfold V.tick; have := h.t1; omega
  have hr := h.r1
  have h0 : v.come now = 0 := by
    have := V.come_ge h now
    unfold V.come at *
    rw [ht] at *
    rcases hn with ⟨h1, h2⟩ | ⟨h1, h2⟩
    · omega
    · have : (v.t - v.s) / v.r = 0 := Int.ediv_eq_zero_of_lt (by have := h.st; omega) (by omega)
      omega
  unfold V.bring
  rw [h0, ht]
  cases v
  rcases hn with ⟨h1, h2⟩ | ⟨h1, h2⟩
  · simp at *; omega
  · simp at *; omega

theorem V.bring_tick {v : V} {a b : Int} (h : v.tick a = v.tick b) : v.bring a = v.bring b := by
  unfold V.bring V.come
  rw [h]
theorem V.bring_twice {v : V} (h : v.Ok) : (v.bring 0).bring (-1) = v.bring (-1) := by
  have h1 := h.s0
  have h2 := h.st
  have e : v.bring 0 = v.bring (-1) := V.bring_tick (by unfold V.tick; omega)
  rw [e]
  exact V.bring_same (V.ok_bring h _) (V.now_bring h _) _ (by have := v.tick_ge (-1); show (-1 : Int) ≤ v.tick (-1); omega)

/-- One that is taken: what is left at that tick is one less. -/
theorem V.less_same {v : V} (h : v.Ok) (hn : v.Now) (h0 : v.m ≠ 0) (now : Int) (hw : now ≤ v.t) : v.less.bring now = v.less := by
  have h1 : v.less.Ok := V.ok_less h h0
  refine V.bring_same h1 (.inr ⟨?_, ?_⟩) now hw
  · show v.m - 1 < v.c; have := h.m1; omega
  · show v.t < v.s + v.r
    have := h.r1
    rcases hn with ⟨h1, h2⟩ | ⟨h1, h2⟩ <;> omega

/-- Left alone for capacity times refill ticks it is full. -/
theorem V.full {v : V} (h : v.Ok) (now : Int) (h1 : v.t ≤ now) (h2 : now + v.c * v.r ≤ 1099511627776) : (v.bring (now + v.c * v.r)).m = v.c := by
  have hc : 0 ≤ v.c * v.r := Int.mul_nonneg h.c0 (by have := h.r1; omega)
  have ht : v.tick (now + v.c * v.r) = now + v.c * v.r := by unfold V.tick; omega
  have hq : v.c ≤ (now + v.c * v.r - v.s) / v.r := (Int.le_ediv_iff_mul_le (by have := h.r1; omega)).2 (by have := h.st; omega)
  show v.m + v.come _ = v.c
  unfold V.come
  rw [ht]
  have := h.m0
  omega

/-- How much there is, in ticks: a token is as much as refill. -/
def V.much (v : V) : Int := v.m * v.r + (v.t - v.s)
theorem V.much_ge {v : V} (h : v.Ok) : 0 ≤ v.much := by
  have := Int.mul_nonneg h.m0 (by have := h.r1; omega : 0 ≤ v.r)
  have := h.st
  unfold V.much
  omega
theorem V.much_le {v : V} (h : v.Ok) (hn : v.Now) : v.much ≤ v.c * v.r := by
  unfold V.much
  rcases hn with ⟨h1, h2⟩ | ⟨h1, h2⟩
  · rw [h1]; omega
  · have : (v.m + 1) * v.r ≤ v.c * v.r := Int.mul_le_mul_of_nonneg_right (by omega) (by have := h.r1; omega)
    rw [Int.add_mul] at this
    omega
theorem V.much_bring {v : V} (h : v.Ok) (now : Int) : (v.bring now).much ≤ v.much + ((v.bring now).t - v.t) := by
  have h4 := V.come_mul h now
  show (v.m + v.come now) * v.r + (v.tick now - (if v.m + v.come now = v.c then v.tick now else v.s + v.come now * v.r)) ≤ v.m * v.r + (v.t - v.s) + (v.tick now - v.t)
  rw [Int.add_mul]
  split <;> omega
theorem V.much_less (v : V) : v.less.much = v.much - v.r := by
  show (v.m - 1) * v.r + (v.t - v.s) = v.m * v.r + (v.t - v.s) - v.r
  rw [Int.sub_mul]
  omega
end Go.Proofs.Ythncfpgmgpnclaa.Buc
