/-
  Contracts of package buckets (layer 5): none, bring. Conditions: a bucket in memory that New made.
-/
import Derived.Test.YthncfpgmgpnclaaBucR
namespace Go.Proofs.Ythncfpgmgpnclaa.Buc
open Go.RowKit Go.Proofs.Ythncfpgmgpnclaa.Mem

abbrev TB : TypeId := 38
/-- In the block p lies the bucket v. -/
structure BAt (w : World) (p : Nat) (v : V) : Prop where
  blk : Blk w p TB [nI v.c, nI v.r, nI v.m, nI v.t, nI v.s]
  ok : v.Ok
theorem BAt.below {w w' : World} {p : Nat} {v : V} (h : BAt w p v) {B : Nat} (hb : Below B w w') (hB : p < B) : BAt w' p v := ⟨Blk.below h.blk hb hB, h.ok⟩
theorem BAt.lt {w : World} {p : Nat} {v : V} (h : BAt w p v) : p < w.heap.size := Blk.lt h.blk
theorem BAt.drewN {w : World} {p : Nat} {v : V} (h : BAt w p v) (n : Nat) : BAt (w.drewN n) p v := ⟨h.blk, h.ok⟩
theorem BAt.keep {S : List Nat} {w w' : World} {p : Nat} {v : V} (h : BAt w p v) (t : Turned S w w') (hn : p ∉ S) : BAt w' p v := ⟨t.blk h.blk hn, h.ok⟩
/-- What a call answers that turns a bucket. -/
def BMut (p : Nat) (w : World) (a : Value) (v' : V) (e : Ending) (w' : World) : Prop := e = .returned a ∧ BAt w' p v' ∧ Turned [p] w w'

theorem none_at (w : World) (p : Nat) (v : V) (h : BAt w p v) : Calls Try.prog 14 #[.pointer (some ⟨p, 0, none⟩)] w fun e w' => e = .returned (.bool false) ∧ w' = w := by
  have c1 : w.cell? ⟨p, 1, none⟩ = some (.int .i64 v.r) := h.blk.cell 1
  have hz : (v.r == 0) = false := beq_eq_false_iff_ne.2 (by have := h.ok.r1; omega)
  clear h
  go_enter Try.func14, Try.ntmps14
  go_wp2
  go_ret
  exact ⟨rfl, rfl⟩
/-- In the block p lie these five numbers. -/
def BBlk (w : World) (p : Nat) (c r m s t : Int) : Prop := Blk w p TB [nI c, nI r, nI m, nI t, nI s]
structure BCells (w : World) (p : Nat) (c r m s t : Int) : Prop where
  c0 : w.cell? ⟨p, 0, none⟩ = some (.int .i64 c)
  c1 : w.cell? ⟨p, 1, none⟩ = some (.int .i64 r)
  c2 : w.cell? ⟨p, 2, none⟩ = some (.int .i64 m)
  c3 : w.cell? ⟨p, 3, none⟩ = some (.int .i64 t)
  c4 : w.cell? ⟨p, 4, none⟩ = some (.int .i64 s)
  f2 : w.frozen? ⟨p, 2, none⟩ = false
  f3 : w.frozen? ⟨p, 3, none⟩ = false
  f4 : w.frozen? ⟨p, 4, none⟩ = false
theorem BBlk.cells {w : World} {p : Nat} {c r m s t : Int} (h : BBlk w p c r m s t) : BCells w p c r m s t :=
  ⟨Blk.cell h 0, Blk.cell h 1, Blk.cell h 2, Blk.cell h 3, Blk.cell h 4, Blk.free h 2, Blk.free h 3, Blk.free h 4⟩
set_option maxHeartbeats 1000000 in
theorem bring_at (w : World) (p : Nat) (v : V) (h : BAt w p v) (now : Int) : Calls Try.prog 15 #[.pointer (some ⟨p, 0, none⟩), .int .i64 now] w (BMut p w (.tuple #[]) (v.bring now)) := by
  obtain ⟨c0, c1, c2, c3, c4, f2, f3, f4⟩ := (show BBlk w p v.c v.r v.m v.s v.t from h.blk).cells
  have H := Lib.hid h
  obtain ⟨o1, o2, o3, o4, o5, o6, o7, o8, o9⟩ := h.ok
  clear h
  have k0 := V.come_ge H.out.ok now
  have k1 := V.come_le (v := v) now
  have k2 := V.come_mul H.out.ok now
  have ka := v.tick_ge now
  have kb : v.tick now ≤ 1099511627776 := by unfold V.tick; omega
  have k3 := fun j => V.come_more H.out.ok now j
  replace k3 := Lib.hid k3
  by_cases h1 : now < v.t
  · have ht : v.tick now = v.t := by unfold V.tick; omega
    have RB : BBlk (w.setCell ⟨p, 3, none⟩ (.int .i64 (v.t))) p v.c v.r v.m v.s (v.tick now) := by rw [ht]; exact Blk.set H.out.blk 3 _
    have TT : Turned [p] w (w.setCell ⟨p, 3, none⟩ (.int .i64 (v.t))) := turned_setCell (turned_refl _ _) (by simp) _ _
    replace RB := Lib.hid RB
    replace TT := Lib.hid TT
    clear ht
    go_enter Try.func15, Try.ntmps15
    go_wp2_with fail
    all_goals first | (exfalso; omega) | skip
    generalize w.setCell ⟨p, 3, none⟩ (.int .i64 (v.t)) = W at *
    go_loopg [] (v.come now).toNat (fun g wr => ∃ j : Int, 0 ≤ j ∧ j ≤ v.come now ∧ g = (v.come now - j).toNat ∧ BBlk wr p v.c v.r (v.m + j) (v.s + j * v.r) (v.tick now) ∧ Turned [p] w wr)
    case atStart => exact ⟨0, Int.le_refl _, k0, by simp, by simpa using RB.out, TT.out⟩
    case round =>
      obtain ⟨j, j0, j1, hg, RB', TT'⟩ := hrel
      clear RB TT c0 c1 c2 c3 c4 f2 f3 f4
      obtain ⟨c0, c1, c2, c3, c4, f2, f3, f4⟩ := RB'.cells
      replace hg := Lib.hid hg
      have jr0 : 0 ≤ j * v.r := Int.mul_nonneg j0 (by omega)
      have jr1 : j * v.r ≤ v.come now * v.r := Int.mul_le_mul_of_nonneg_right j1 (by omega)
      have hm := k3.out j j1
      have er : (j + 1) * v.r = j * v.r + v.r := by rw [Int.add_mul]; omega
      replace er := Lib.hid er
      replace RB' := Lib.hid RB'
      generalize hjr : j * v.r = jr at *
      replace hjr := Lib.hid hjr
      by_cases hlt : j < v.come now
      · obtain ⟨m1, m2⟩ := hm.1 hlt
        have t1 : decide (v.m + j < v.c) = true := decide_eq_true m1
        have t2 : decide (v.s + jr + v.r ≤ v.tick now) = true := decide_eq_true m2
        clear hm
        go_wp2_with fail
        go_quiet (fail)
        go_wp2_with fail
        go_region
        go_wp2_with fail
        go_roundg (v.come now - (j + 1)).toNat
        case measure => have := hg.out; omega
        case rel =>
          refine ⟨j + 1, by omega, by omega, rfl, ?_, turned_setCell (turned_drewN (turned_setCell (turned_drewN TT' _) (by simp) _ _) _) (by simp) _ _⟩
          rw [er.out, ← Int.add_assoc, ← Int.add_assoc]
          exact Blk.set (Blk.drewN (Blk.set (Blk.drewN RB'.out _) 2 (.int .i64 (v.m + j + 1))) _) 4 (.int .i64 (v.s + jr + v.r))
      · obtain rfl : j = v.come now := by omega
        by_cases hc : v.m + v.come now = v.c
        · have t1 : decide (v.m + v.come now < v.c) = false := decide_eq_false (by omega)
          have t3 : (v.m + v.come now == v.c) = true := by simpa using hc
          have eb : v.bring now = { v with m := v.m + v.come now, s := v.tick now, t := v.tick now } := by unfold V.bring; rw [if_pos hc]
          replace hc := Lib.hid hc
          clear hm
          replace eb := Lib.hid eb
          go_wp2_with fail
          go_quiet (fail)
          go_wp2_with fail
          go_quiet (fail)
          go_wp2_with fail
          refine bodyPost_ret (results_none rfl _ _ _) rfl ⟨rfl, ⟨?_, V.ok_bring H.out.ok now⟩, turned_setCell (turned_drewN TT' _) (by simp) _ _⟩
          rw [eb.out]
          exact Blk.set (Blk.drewN RB'.out _) 4 (.int .i64 (v.tick now))
        · have hn : ¬ (v.s + jr + v.r ≤ v.tick now) := fun hh => by have := hm.2 ⟨by omega, hh⟩; omega
          have t1 : decide (v.m + v.come now < v.c) = true := decide_eq_true (by omega)
          have t2 : decide (v.s + jr + v.r ≤ v.tick now) = false := decide_eq_false hn
          have t3 : (v.m + v.come now == v.c) = false := by simpa using hc
          have eb : v.bring now = { v with m := v.m + v.come now, s := v.s + jr, t := v.tick now } := by unfold V.bring; rw [if_neg hc, hjr.out]
          clear hm
          replace eb := Lib.hid eb
          go_wp2_with fail
          go_quiet (fail)
          go_wp2_with fail
          go_quiet (fail)
          go_wp2_with fail
          refine bodyPost_ret (results_none rfl _ _ _) rfl ⟨rfl, ⟨?_, V.ok_bring H.out.ok now⟩, turned_drewN (turned_drewN TT' _) _⟩
          rw [eb.out]
          exact RB'.out
  · by_cases h2 : now ≤ 1099511627776
    · have ht : v.tick now = now := by unfold V.tick; omega
      have RB : BBlk (w.setCell ⟨p, 3, none⟩ (.int .i64 (now))) p v.c v.r v.m v.s (v.tick now) := by rw [ht]; exact Blk.set H.out.blk 3 _
      have TT : Turned [p] w (w.setCell ⟨p, 3, none⟩ (.int .i64 (now))) := turned_setCell (turned_refl _ _) (by simp) _ _
      replace RB := Lib.hid RB
      replace TT := Lib.hid TT
      clear ht
      go_enter Try.func15, Try.ntmps15
      go_wp2_with fail
      all_goals first | (exfalso; omega) | skip
      generalize w.setCell ⟨p, 3, none⟩ (.int .i64 (now)) = W at *
      go_loopg [] (v.come now).toNat (fun g wr => ∃ j : Int, 0 ≤ j ∧ j ≤ v.come now ∧ g = (v.come now - j).toNat ∧ BBlk wr p v.c v.r (v.m + j) (v.s + j * v.r) (v.tick now) ∧ Turned [p] w wr)
      case atStart => exact ⟨0, Int.le_refl _, k0, by simp, by simpa using RB.out, TT.out⟩
      case round =>
        obtain ⟨j, j0, j1, hg, RB', TT'⟩ := hrel
        clear RB TT c0 c1 c2 c3 c4 f2 f3 f4
        obtain ⟨c0, c1, c2, c3, c4, f2, f3, f4⟩ := RB'.cells
        replace hg := Lib.hid hg
        have jr0 : 0 ≤ j * v.r := Int.mul_nonneg j0 (by omega)
        have jr1 : j * v.r ≤ v.come now * v.r := Int.mul_le_mul_of_nonneg_right j1 (by omega)
        have hm := k3.out j j1
        have er : (j + 1) * v.r = j * v.r + v.r := by rw [Int.add_mul]; omega
        replace er := Lib.hid er
        replace RB' := Lib.hid RB'
        generalize hjr : j * v.r = jr at *
        replace hjr := Lib.hid hjr
        by_cases hlt : j < v.come now
        · obtain ⟨m1, m2⟩ := hm.1 hlt
          have t1 : decide (v.m + j < v.c) = true := decide_eq_true m1
          have t2 : decide (v.s + jr + v.r ≤ v.tick now) = true := decide_eq_true m2
          clear hm
          go_wp2_with fail
          go_quiet (fail)
          go_wp2_with fail
          go_region
          go_wp2_with fail
          go_roundg (v.come now - (j + 1)).toNat
          case measure => have := hg.out; omega
          case rel =>
            refine ⟨j + 1, by omega, by omega, rfl, ?_, turned_setCell (turned_drewN (turned_setCell (turned_drewN TT' _) (by simp) _ _) _) (by simp) _ _⟩
            rw [er.out, ← Int.add_assoc, ← Int.add_assoc]
            exact Blk.set (Blk.drewN (Blk.set (Blk.drewN RB'.out _) 2 (.int .i64 (v.m + j + 1))) _) 4 (.int .i64 (v.s + jr + v.r))
        · obtain rfl : j = v.come now := by omega
          by_cases hc : v.m + v.come now = v.c
          · have t1 : decide (v.m + v.come now < v.c) = false := decide_eq_false (by omega)
            have t3 : (v.m + v.come now == v.c) = true := by simpa using hc
            have eb : v.bring now = { v with m := v.m + v.come now, s := v.tick now, t := v.tick now } := by unfold V.bring; rw [if_pos hc]
            replace hc := Lib.hid hc
            clear hm
            replace eb := Lib.hid eb
            go_wp2_with fail
            go_quiet (fail)
            go_wp2_with fail
            go_quiet (fail)
            go_wp2_with fail
            refine bodyPost_ret (results_none rfl _ _ _) rfl ⟨rfl, ⟨?_, V.ok_bring H.out.ok now⟩, turned_setCell (turned_drewN TT' _) (by simp) _ _⟩
            rw [eb.out]
            exact Blk.set (Blk.drewN RB'.out _) 4 (.int .i64 (v.tick now))
          · have hn : ¬ (v.s + jr + v.r ≤ v.tick now) := fun hh => by have := hm.2 ⟨by omega, hh⟩; omega
            have t1 : decide (v.m + v.come now < v.c) = true := decide_eq_true (by omega)
            have t2 : decide (v.s + jr + v.r ≤ v.tick now) = false := decide_eq_false hn
            have t3 : (v.m + v.come now == v.c) = false := by simpa using hc
            have eb : v.bring now = { v with m := v.m + v.come now, s := v.s + jr, t := v.tick now } := by unfold V.bring; rw [if_neg hc, hjr.out]
            clear hm
            replace eb := Lib.hid eb
            go_wp2_with fail
            go_quiet (fail)
            go_wp2_with fail
            go_quiet (fail)
            go_wp2_with fail
            refine bodyPost_ret (results_none rfl _ _ _) rfl ⟨rfl, ⟨?_, V.ok_bring H.out.ok now⟩, turned_drewN (turned_drewN TT' _) _⟩
            rw [eb.out]
            exact RB'.out
    · have ht : v.tick now = 1099511627776 := by unfold V.tick; omega
      have RB : BBlk (w.setCell ⟨p, 3, none⟩ (.int .i64 (1099511627776))) p v.c v.r v.m v.s (v.tick now) := by rw [ht]; exact Blk.set H.out.blk 3 _
      have TT : Turned [p] w (w.setCell ⟨p, 3, none⟩ (.int .i64 (1099511627776))) := turned_setCell (turned_refl _ _) (by simp) _ _
      replace RB := Lib.hid RB
      replace TT := Lib.hid TT
      clear ht
      go_enter Try.func15, Try.ntmps15
      go_wp2_with fail
      all_goals first | (exfalso; omega) | skip
      generalize w.setCell ⟨p, 3, none⟩ (.int .i64 (1099511627776)) = W at *
      go_loopg [] (v.come now).toNat (fun g wr => ∃ j : Int, 0 ≤ j ∧ j ≤ v.come now ∧ g = (v.come now - j).toNat ∧ BBlk wr p v.c v.r (v.m + j) (v.s + j * v.r) (v.tick now) ∧ Turned [p] w wr)
      case atStart => exact ⟨0, Int.le_refl _, k0, by simp, by simpa using RB.out, TT.out⟩
      case round =>
        obtain ⟨j, j0, j1, hg, RB', TT'⟩ := hrel
        clear RB TT c0 c1 c2 c3 c4 f2 f3 f4
        obtain ⟨c0, c1, c2, c3, c4, f2, f3, f4⟩ := RB'.cells
        replace hg := Lib.hid hg
        have jr0 : 0 ≤ j * v.r := Int.mul_nonneg j0 (by omega)
        have jr1 : j * v.r ≤ v.come now * v.r := Int.mul_le_mul_of_nonneg_right j1 (by omega)
        have hm := k3.out j j1
        have er : (j + 1) * v.r = j * v.r + v.r := by rw [Int.add_mul]; omega
        replace er := Lib.hid er
        replace RB' := Lib.hid RB'
        generalize hjr : j * v.r = jr at *
        replace hjr := Lib.hid hjr
        by_cases hlt : j < v.come now
        · obtain ⟨m1, m2⟩ := hm.1 hlt
          have t1 : decide (v.m + j < v.c) = true := decide_eq_true m1
          have t2 : decide (v.s + jr + v.r ≤ v.tick now) = true := decide_eq_true m2
          clear hm
          go_wp2_with fail
          go_quiet (fail)
          go_wp2_with fail
          go_region
          go_wp2_with fail
          go_roundg (v.come now - (j + 1)).toNat
          case measure => have := hg.out; omega
          case rel =>
            refine ⟨j + 1, by omega, by omega, rfl, ?_, turned_setCell (turned_drewN (turned_setCell (turned_drewN TT' _) (by simp) _ _) _) (by simp) _ _⟩
            rw [er.out, ← Int.add_assoc, ← Int.add_assoc]
            exact Blk.set (Blk.drewN (Blk.set (Blk.drewN RB'.out _) 2 (.int .i64 (v.m + j + 1))) _) 4 (.int .i64 (v.s + jr + v.r))
        · obtain rfl : j = v.come now := by omega
          by_cases hc : v.m + v.come now = v.c
          · have t1 : decide (v.m + v.come now < v.c) = false := decide_eq_false (by omega)
            have t3 : (v.m + v.come now == v.c) = true := by simpa using hc
            have eb : v.bring now = { v with m := v.m + v.come now, s := v.tick now, t := v.tick now } := by unfold V.bring; rw [if_pos hc]
            replace hc := Lib.hid hc
            clear hm
            replace eb := Lib.hid eb
            go_wp2_with fail
            go_quiet (fail)
            go_wp2_with fail
            go_quiet (fail)
            go_wp2_with fail
            refine bodyPost_ret (results_none rfl _ _ _) rfl ⟨rfl, ⟨?_, V.ok_bring H.out.ok now⟩, turned_setCell (turned_drewN TT' _) (by simp) _ _⟩
            rw [eb.out]
            exact Blk.set (Blk.drewN RB'.out _) 4 (.int .i64 (v.tick now))
          · have hn : ¬ (v.s + jr + v.r ≤ v.tick now) := fun hh => by have := hm.2 ⟨by omega, hh⟩; omega
            have t1 : decide (v.m + v.come now < v.c) = true := decide_eq_true (by omega)
            have t2 : decide (v.s + jr + v.r ≤ v.tick now) = false := decide_eq_false hn
            have t3 : (v.m + v.come now == v.c) = false := by simpa using hc
            have eb : v.bring now = { v with m := v.m + v.come now, s := v.s + jr, t := v.tick now } := by unfold V.bring; rw [if_neg hc, hjr.out]
            clear hm
            replace eb := Lib.hid eb
            go_wp2_with fail
            go_quiet (fail)
            go_wp2_with fail
            go_quiet (fail)
            go_wp2_with fail
            refine bodyPost_ret (results_none rfl _ _ _) rfl ⟨rfl, ⟨?_, V.ok_bring H.out.ok now⟩, turned_drewN (turned_drewN TT' _) _⟩
            rw [eb.out]
            exact RB'.out
end Go.Proofs.Ythncfpgmgpnclaa.Buc
