/-
  Contracts of the document's answer for buckets (fairwayref05): Bring, Take, Left, New. Conditions: a bucket in memory that its New made.
-/
import Derived.Test.YthncfpgmgpnclaaProg
import Derived.Test.YthncfpgmgpnclaaTyped
import Derived.Test.YthncfpgmgpnclaaBucMath
import Derived.BigRegion
import Derived.Deep.DeepCutAuto
import Derived.Deep.LoopGhost
namespace Go.Proofs.Ythncfpgmgpnclaa.Buc
open Go.RowKit Go.Proofs.Ythncfpgmgpnclaa.Mem

def nI (n : Int) : Value := .int .i64 n
abbrev TR : TypeId := 43
/-- In the block p lie these five numbers of the answer's bucket. -/
def RBlk (w : World) (p : Nat) (c r m s t : Int) : Prop := Blk w p TR [nI c, nI r, nI m, nI s, nI t]
structure RAt (w : World) (p : Nat) (v : V) : Prop where
  blk : RBlk w p v.c v.r v.m v.s v.t
  ok : v.Ok
theorem RAt.below {w w' : World} {p : Nat} {v : V} (h : RAt w p v) {B : Nat} (hb : Below B w w') (hB : p < B) : RAt w' p v := ⟨Blk.below h.blk hb hB, h.ok⟩
theorem RAt.lt {w : World} {p : Nat} {v : V} (h : RAt w p v) : p < w.heap.size := Blk.lt h.blk
theorem RAt.drewN {w : World} {p : Nat} {v : V} (h : RAt w p v) (n : Nat) : RAt (w.drewN n) p v := ⟨h.blk, h.ok⟩
theorem RAt.keep {S : List Nat} {w w' : World} {p : Nat} {v : V} (h : RAt w p v) (t : Turned S w w') (hn : p ∉ S) : RAt w' p v := ⟨t.blk h.blk hn, h.ok⟩
theorem turned_refl (S : List Nat) (w : World) : Turned S w w := ⟨rfl, rfl, rfl, Nat.le_refl _, fun _ _ _ => rfl⟩
theorem turned_drewN {S : List Nat} {w w' : World} (h : Turned S w w') (n : Nat) : Turned S w (w'.drewN n) := ⟨h.os, h.tape, h.output, h.size, h.block⟩
theorem turned_drew {S : List Nat} {w w' : World} (h : Turned S w w') : Turned S w w'.drew := ⟨h.os, h.tape, h.output, h.size, h.block⟩
theorem turned_setCell {S : List Nat} {w w' : World} (h : Turned S w w') {p : Nat} (hp : p ∈ S) (i : Nat) (u : Value) : Turned S w (w'.setCell ⟨p, i, none⟩ u) :=
  ⟨h.os, h.tape, h.output, by simpa [World.setCell] using h.size, fun k hk hn => (Below.heap_setCell w' _ u k (fun e => hn (by subst e; exact hp))).trans (h.block k hk hn)⟩
structure RCells (w : World) (p : Nat) (c r m s t : Int) : Prop where
  c0 : w.cell? ⟨p, 0, none⟩ = some (.int .i64 c)
  c1 : w.cell? ⟨p, 1, none⟩ = some (.int .i64 r)
  c2 : w.cell? ⟨p, 2, none⟩ = some (.int .i64 m)
  c3 : w.cell? ⟨p, 3, none⟩ = some (.int .i64 s)
  c4 : w.cell? ⟨p, 4, none⟩ = some (.int .i64 t)
  f2 : w.frozen? ⟨p, 2, none⟩ = false
  f3 : w.frozen? ⟨p, 3, none⟩ = false
  f4 : w.frozen? ⟨p, 4, none⟩ = false
theorem RBlk.cells {w : World} {p : Nat} {c r m s t : Int} (h : RBlk w p c r m s t) : RCells w p c r m s t :=
  ⟨Blk.cell h 0, Blk.cell h 1, Blk.cell h 2, Blk.cell h 3, Blk.cell h 4, Blk.free h 2, Blk.free h 3, Blk.free h 4⟩
/-- What a call answers that turns a bucket of the answer's. -/
def RMut (p : Nat) (w : World) (a : Value) (v' : V) (e : Ending) (w' : World) : Prop := e = .returned a ∧ RAt w' p v' ∧ Turned [p] w w'

set_option maxHeartbeats 1000000 in
theorem rbring_at (w : World) (p : Nat) (v : V) (h : RAt w p v) (now : Int) : Calls Try.prog 16 #[.pointer (some ⟨p, 0, none⟩), .int .i64 now] w (RMut p w (.tuple #[]) (v.bring now)) := by
  obtain ⟨c0, c1, c2, c3, c4, f2, f3, f4⟩ := h.blk.cells
  have H := Lib.hid h
  obtain ⟨o1, o2, o3, o4, o5, o6, o7, o8, o9⟩ := h.ok
  clear h
  have k0 := V.come_ge H.out.ok now
  have k1 := V.come_le (v := v) now
  have k2 := V.come_mul H.out.ok now
  have ka := v.tick_ge now
  have kb : v.tick now ≤ 1099511627776 := by unfold V.tick; omega
  have k3 := fun j => V.come_more H.out.ok now j
  replace k3 := Lib.hid k3
  by_cases h1 : 1099511627776 < now
  · by_cases h2 : v.t < 1099511627776
    · have ht : v.tick now = 1099511627776 := by unfold V.tick; omega
      have RB : RBlk (w.setCell ⟨p, 4, none⟩ (.int .i64 1099511627776)) p v.c v.r v.m v.s (v.tick now) := by rw [ht]; exact Blk.set H.out.blk 4 _
      have TT : Turned [p] w (w.setCell ⟨p, 4, none⟩ (.int .i64 1099511627776)) := turned_setCell (turned_refl _ _) (by simp) _ _
      replace RB := Lib.hid RB
      replace TT := Lib.hid TT
      clear ht
      go_enter Try.func16, Try.ntmps16
      go_wp2_with fail
      generalize w.setCell ⟨p, 4, none⟩ (.int .i64 1099511627776) = W at *
      go_loopg [] (v.come now).toNat (fun g wr => ∃ j : Int, 0 ≤ j ∧ j ≤ v.come now ∧ g = (v.come now - j).toNat ∧ RBlk wr p v.c v.r (v.m + j) (v.s + j * v.r) (v.tick now) ∧ Turned [p] w wr)
      case atStart => exact ⟨0, Int.le_refl _, k0, by simp, by simpa using RB.out, TT.out⟩
      case round =>
        obtain ⟨j, j0, j1, hg, RB', TT'⟩ := hrel
        clear RB TT c0 c1 c2 c3 c4 f2 f3 f4
        obtain ⟨c0, c1, c2, c3, c4, f2, f3, f4⟩ := RB'.cells
        replace hg := Lib.hid hg
        have jr0 : 0 ≤ j * v.r := Int.mul_nonneg j0 (by omega)
        have jr1 : j * v.r ≤ v.come now * v.r := Int.mul_le_mul_of_nonneg_right j1 (by omega)
        have hm := k3.out j j1
        have er : (j + 1) * v.r = j * v.r + v.r := by rw [Int.add_mul]; omega
        replace er := Lib.hid er
        replace RB' := Lib.hid RB'
        generalize hjr : j * v.r = jr at *
        replace hjr := Lib.hid hjr
        by_cases hlt : j < v.come now
        · obtain ⟨m1, m2⟩ := hm.1 hlt
          have t1 : decide (v.m + j < v.c) = true := decide_eq_true m1
          have t2 : decide (v.s + jr + v.r ≤ v.tick now) = true := decide_eq_true m2
          clear hm
          go_wp2_with fail
          go_quiet (fail)
          go_wp2_with fail
          go_region
          go_wp2_with fail
          go_roundg (v.come now - (j + 1)).toNat
          case measure => have := hg.out; omega
          case rel =>
            refine ⟨j + 1, by omega, by omega, rfl, ?_, turned_setCell (turned_setCell (turned_drewN TT' _) (by simp) _ _) (by simp) _ _⟩
            rw [er.out, ← Int.add_assoc, ← Int.add_assoc]
            exact Blk.set (Blk.set (Blk.drewN RB'.out _) 2 (.int .i64 (v.m + j + 1))) 3 (.int .i64 (v.s + jr + v.r))
        · obtain rfl : j = v.come now := by omega
          by_cases hc : v.m + v.come now = v.c
          · have t1 : decide (v.m + v.come now < v.c) = false := decide_eq_false (by omega)
            have t3 : (v.m + v.come now == v.c) = true := by simpa using hc
            have eb : v.bring now = { v with m := v.m + v.come now, s := v.tick now, t := v.tick now } := by unfold V.bring; rw [if_pos hc]
            replace hc := Lib.hid hc
            clear hm
            replace eb := Lib.hid eb
            go_wp2_with fail
            go_quiet (fail)
            go_wp2_with fail
            go_quiet (fail)
            go_wp2_with fail
            refine bodyPost_ret (results_none rfl _ _ _) rfl ⟨rfl, ⟨?_, V.ok_bring H.out.ok now⟩, turned_setCell (turned_drewN TT' _) (by simp) _ _⟩
            rw [eb.out]
            exact Blk.set (Blk.drewN RB'.out _) 3 (.int .i64 (v.tick now))
          · have hn : ¬ (v.s + jr + v.r ≤ v.tick now) := fun hh => by have := hm.2 ⟨by omega, hh⟩; omega
            have t1 : decide (v.m + v.come now < v.c) = true := decide_eq_true (by omega)
            have t2 : decide (v.s + jr + v.r ≤ v.tick now) = false := decide_eq_false hn
            have t3 : (v.m + v.come now == v.c) = false := by simpa using hc
            have eb : v.bring now = { v with m := v.m + v.come now, s := v.s + jr, t := v.tick now } := by unfold V.bring; rw [if_neg hc, hjr.out]
            clear hm
            replace eb := Lib.hid eb
            go_wp2_with fail
            go_quiet (fail)
            go_wp2_with fail
            go_quiet (fail)
            go_wp2_with fail
            refine bodyPost_ret (results_none rfl _ _ _) rfl ⟨rfl, ⟨?_, V.ok_bring H.out.ok now⟩, turned_drewN (turned_drewN TT' _) _⟩
            rw [eb.out]
            exact RB'.out
    · have ht : v.tick now = v.t := by unfold V.tick; omega
      have RB : RBlk w p v.c v.r v.m v.s (v.tick now) := by rw [ht]; exact H.out.blk
      have TT : Turned [p] w w := turned_refl _ _
      replace RB := Lib.hid RB
      replace TT := Lib.hid TT
      clear ht
      go_enter Try.func16, Try.ntmps16
      go_wp2_with fail
      go_loopg [] (v.come now).toNat (fun g wr => ∃ j : Int, 0 ≤ j ∧ j ≤ v.come now ∧ g = (v.come now - j).toNat ∧ RBlk wr p v.c v.r (v.m + j) (v.s + j * v.r) (v.tick now) ∧ Turned [p] w wr)
      case atStart => exact ⟨0, Int.le_refl _, k0, by simp, by simpa using RB.out, TT.out⟩
      case round =>
        obtain ⟨j, j0, j1, hg, RB', TT'⟩ := hrel
        clear RB TT c0 c1 c2 c3 c4 f2 f3 f4
        obtain ⟨c0, c1, c2, c3, c4, f2, f3, f4⟩ := RB'.cells
        replace hg := Lib.hid hg
        have jr0 : 0 ≤ j * v.r := Int.mul_nonneg j0 (by omega)
        have jr1 : j * v.r ≤ v.come now * v.r := Int.mul_le_mul_of_nonneg_right j1 (by omega)
        have hm := k3.out j j1
        have er : (j + 1) * v.r = j * v.r + v.r := by rw [Int.add_mul]; omega
        replace er := Lib.hid er
        replace RB' := Lib.hid RB'
        generalize hjr : j * v.r = jr at *
        replace hjr := Lib.hid hjr
        by_cases hlt : j < v.come now
        · obtain ⟨m1, m2⟩ := hm.1 hlt
          have t1 : decide (v.m + j < v.c) = true := decide_eq_true m1
          have t2 : decide (v.s + jr + v.r ≤ v.tick now) = true := decide_eq_true m2
          clear hm
          go_wp2_with fail
          go_quiet (fail)
          go_wp2_with fail
          go_region
          go_wp2_with fail
          go_roundg (v.come now - (j + 1)).toNat
          case measure => have := hg.out; omega
          case rel =>
            refine ⟨j + 1, by omega, by omega, rfl, ?_, turned_setCell (turned_setCell (turned_drewN TT' _) (by simp) _ _) (by simp) _ _⟩
            rw [er.out, ← Int.add_assoc, ← Int.add_assoc]
            exact Blk.set (Blk.set (Blk.drewN RB'.out _) 2 (.int .i64 (v.m + j + 1))) 3 (.int .i64 (v.s + jr + v.r))
        · obtain rfl : j = v.come now := by omega
          by_cases hc : v.m + v.come now = v.c
          · have t1 : decide (v.m + v.come now < v.c) = false := decide_eq_false (by omega)
            have t3 : (v.m + v.come now == v.c) = true := by simpa using hc
            have eb : v.bring now = { v with m := v.m + v.come now, s := v.tick now, t := v.tick now } := by unfold V.bring; rw [if_pos hc]
            replace hc := Lib.hid hc
            clear hm
            replace eb := Lib.hid eb
            go_wp2_with fail
            go_quiet (fail)
            go_wp2_with fail
            go_quiet (fail)
            go_wp2_with fail
            refine bodyPost_ret (results_none rfl _ _ _) rfl ⟨rfl, ⟨?_, V.ok_bring H.out.ok now⟩, turned_setCell (turned_drewN TT' _) (by simp) _ _⟩
            rw [eb.out]
            exact Blk.set (Blk.drewN RB'.out _) 3 (.int .i64 (v.tick now))
          · have hn : ¬ (v.s + jr + v.r ≤ v.tick now) := fun hh => by have := hm.2 ⟨by omega, hh⟩; omega
            have t1 : decide (v.m + v.come now < v.c) = true := decide_eq_true (by omega)
            have t2 : decide (v.s + jr + v.r ≤ v.tick now) = false := decide_eq_false hn
            have t3 : (v.m + v.come now == v.c) = false := by simpa using hc
            have eb : v.bring now = { v with m := v.m + v.come now, s := v.s + jr, t := v.tick now } := by unfold V.bring; rw [if_neg hc, hjr.out]
            clear hm
            replace eb := Lib.hid eb
            go_wp2_with fail
            go_quiet (fail)
            go_wp2_with fail
            go_quiet (fail)
            go_wp2_with fail
            refine bodyPost_ret (results_none rfl _ _ _) rfl ⟨rfl, ⟨?_, V.ok_bring H.out.ok now⟩, turned_drewN (turned_drewN TT' _) _⟩
            rw [eb.out]
            exact RB'.out
  · by_cases h2 : v.t < now
    · have ht : v.tick now = now := by unfold V.tick; omega
      have RB : RBlk (w.setCell ⟨p, 4, none⟩ (.int .i64 now)) p v.c v.r v.m v.s (v.tick now) := by rw [ht]; exact Blk.set H.out.blk 4 _
      have TT : Turned [p] w (w.setCell ⟨p, 4, none⟩ (.int .i64 now)) := turned_setCell (turned_refl _ _) (by simp) _ _
      replace RB := Lib.hid RB
      replace TT := Lib.hid TT
      clear ht
      go_enter Try.func16, Try.ntmps16
      go_wp2_with fail
      generalize w.setCell ⟨p, 4, none⟩ (.int .i64 now) = W at *
      go_loopg [] (v.come now).toNat (fun g wr => ∃ j : Int, 0 ≤ j ∧ j ≤ v.come now ∧ g = (v.come now - j).toNat ∧ RBlk wr p v.c v.r (v.m + j) (v.s + j * v.r) (v.tick now) ∧ Turned [p] w wr)
      case atStart => exact ⟨0, Int.le_refl _, k0, by simp, by simpa using RB.out, TT.out⟩
      case round =>
        obtain ⟨j, j0, j1, hg, RB', TT'⟩ := hrel
        clear RB TT c0 c1 c2 c3 c4 f2 f3 f4
        obtain ⟨c0, c1, c2, c3, c4, f2, f3, f4⟩ := RB'.cells
        replace hg := Lib.hid hg
        have jr0 : 0 ≤ j * v.r := Int.mul_nonneg j0 (by omega)
        have jr1 : j * v.r ≤ v.come now * v.r := Int.mul_le_mul_of_nonneg_right j1 (by omega)
        have hm := k3.out j j1
        have er : (j + 1) * v.r = j * v.r + v.r := by rw [Int.add_mul]; omega
        replace er := Lib.hid er
        replace RB' := Lib.hid RB'
        generalize hjr : j * v.r = jr at *
        replace hjr := Lib.hid hjr
        by_cases hlt : j < v.come now
        · obtain ⟨m1, m2⟩ := hm.1 hlt
          have t1 : decide (v.m + j < v.c) = true := decide_eq_true m1
          have t2 : decide (v.s + jr + v.r ≤ v.tick now) = true := decide_eq_true m2
          clear hm
          go_wp2_with fail
          go_quiet (fail)
          go_wp2_with fail
          go_region
          go_wp2_with fail
          go_roundg (v.come now - (j + 1)).toNat
          case measure => have := hg.out; omega
          case rel =>
            refine ⟨j + 1, by omega, by omega, rfl, ?_, turned_setCell (turned_setCell (turned_drewN TT' _) (by simp) _ _) (by simp) _ _⟩
            rw [er.out, ← Int.add_assoc, ← Int.add_assoc]
            exact Blk.set (Blk.set (Blk.drewN RB'.out _) 2 (.int .i64 (v.m + j + 1))) 3 (.int .i64 (v.s + jr + v.r))
        · obtain rfl : j = v.come now := by omega
          by_cases hc : v.m + v.come now = v.c
          · have t1 : decide (v.m + v.come now < v.c) = false := decide_eq_false (by omega)
            have t3 : (v.m + v.come now == v.c) = true := by simpa using hc
            have eb : v.bring now = { v with m := v.m + v.come now, s := v.tick now, t := v.tick now } := by unfold V.bring; rw [if_pos hc]
            replace hc := Lib.hid hc
            clear hm
            replace eb := Lib.hid eb
            go_wp2_with fail
            go_quiet (fail)
            go_wp2_with fail
            go_quiet (fail)
            go_wp2_with fail
            refine bodyPost_ret (results_none rfl _ _ _) rfl ⟨rfl, ⟨?_, V.ok_bring H.out.ok now⟩, turned_setCell (turned_drewN TT' _) (by simp) _ _⟩
            rw [eb.out]
            exact Blk.set (Blk.drewN RB'.out _) 3 (.int .i64 (v.tick now))
          · have hn : ¬ (v.s + jr + v.r ≤ v.tick now) := fun hh => by have := hm.2 ⟨by omega, hh⟩; omega
            have t1 : decide (v.m + v.come now < v.c) = true := decide_eq_true (by omega)
            have t2 : decide (v.s + jr + v.r ≤ v.tick now) = false := decide_eq_false hn
            have t3 : (v.m + v.come now == v.c) = false := by simpa using hc
            have eb : v.bring now = { v with m := v.m + v.come now, s := v.s + jr, t := v.tick now } := by unfold V.bring; rw [if_neg hc, hjr.out]
            clear hm
            replace eb := Lib.hid eb
            go_wp2_with fail
            go_quiet (fail)
            go_wp2_with fail
            go_quiet (fail)
            go_wp2_with fail
            refine bodyPost_ret (results_none rfl _ _ _) rfl ⟨rfl, ⟨?_, V.ok_bring H.out.ok now⟩, turned_drewN (turned_drewN TT' _) _⟩
            rw [eb.out]
            exact RB'.out
    · have ht : v.tick now = v.t := by unfold V.tick; omega
      have RB : RBlk w p v.c v.r v.m v.s (v.tick now) := by rw [ht]; exact H.out.blk
      have TT : Turned [p] w w := turned_refl _ _
      replace RB := Lib.hid RB
      replace TT := Lib.hid TT
      clear ht
      go_enter Try.func16, Try.ntmps16
      go_wp2_with fail
      go_loopg [] (v.come now).toNat (fun g wr => ∃ j : Int, 0 ≤ j ∧ j ≤ v.come now ∧ g = (v.come now - j).toNat ∧ RBlk wr p v.c v.r (v.m + j) (v.s + j * v.r) (v.tick now) ∧ Turned [p] w wr)
      case atStart => exact ⟨0, Int.le_refl _, k0, by simp, by simpa using RB.out, TT.out⟩
      case round =>
        obtain ⟨j, j0, j1, hg, RB', TT'⟩ := hrel
        clear RB TT c0 c1 c2 c3 c4 f2 f3 f4
        obtain ⟨c0, c1, c2, c3, c4, f2, f3, f4⟩ := RB'.cells
        replace hg := Lib.hid hg
        have jr0 : 0 ≤ j * v.r := Int.mul_nonneg j0 (by omega)
        have jr1 : j * v.r ≤ v.come now * v.r := Int.mul_le_mul_of_nonneg_right j1 (by omega)
        have hm := k3.out j j1
        have er : (j + 1) * v.r = j * v.r + v.r := by rw [Int.add_mul]; omega
        replace er := Lib.hid er
        replace RB' := Lib.hid RB'
        generalize hjr : j * v.r = jr at *
        replace hjr := Lib.hid hjr
        by_cases hlt : j < v.come now
        · obtain ⟨m1, m2⟩ := hm.1 hlt
          have t1 : decide (v.m + j < v.c) = true := decide_eq_true m1
          have t2 : decide (v.s + jr + v.r ≤ v.tick now) = true := decide_eq_true m2
          clear hm
          go_wp2_with fail
          go_quiet (fail)
          go_wp2_with fail
          go_region
          go_wp2_with fail
          go_roundg (v.come now - (j + 1)).toNat
          case measure => have := hg.out; omega
          case rel =>
            refine ⟨j + 1, by omega, by omega, rfl, ?_, turned_setCell (turned_setCell (turned_drewN TT' _) (by simp) _ _) (by simp) _ _⟩
            rw [er.out, ← Int.add_assoc, ← Int.add_assoc]
            exact Blk.set (Blk.set (Blk.drewN RB'.out _) 2 (.int .i64 (v.m + j + 1))) 3 (.int .i64 (v.s + jr + v.r))
        · obtain rfl : j = v.come now := by omega
          by_cases hc : v.m + v.come now = v.c
          · have t1 : decide (v.m + v.come now < v.c) = false := decide_eq_false (by omega)
            have t3 : (v.m + v.come now == v.c) = true := by simpa using hc
            have eb : v.bring now = { v with m := v.m + v.come now, s := v.tick now, t := v.tick now } := by unfold V.bring; rw [if_pos hc]
            replace hc := Lib.hid hc
            clear hm
            replace eb := Lib.hid eb
            go_wp2_with fail
            go_quiet (fail)
            go_wp2_with fail
            go_quiet (fail)
            go_wp2_with fail
            refine bodyPost_ret (results_none rfl _ _ _) rfl ⟨rfl, ⟨?_, V.ok_bring H.out.ok now⟩, turned_setCell (turned_drewN TT' _) (by simp) _ _⟩
            rw [eb.out]
            exact Blk.set (Blk.drewN RB'.out _) 3 (.int .i64 (v.tick now))
          · have hn : ¬ (v.s + jr + v.r ≤ v.tick now) := fun hh => by have := hm.2 ⟨by omega, hh⟩; omega
            have t1 : decide (v.m + v.come now < v.c) = true := decide_eq_true (by omega)
            have t2 : decide (v.s + jr + v.r ≤ v.tick now) = false := decide_eq_false hn
            have t3 : (v.m + v.come now == v.c) = false := by simpa using hc
            have eb : v.bring now = { v with m := v.m + v.come now, s := v.s + jr, t := v.tick now } := by unfold V.bring; rw [if_neg hc, hjr.out]
            clear hm
            replace eb := Lib.hid eb
            go_wp2_with fail
            go_quiet (fail)
            go_wp2_with fail
            go_quiet (fail)
            go_wp2_with fail
            refine bodyPost_ret (results_none rfl _ _ _) rfl ⟨rfl, ⟨?_, V.ok_bring H.out.ok now⟩, turned_drewN (turned_drewN TT' _) _⟩
            rw [eb.out]
            exact RB'.out
theorem rtake_at (w : World) (p : Nat) (v : V) (h : RAt w p v) (now : Int) : Calls Try.prog 13 #[.pointer (some ⟨p, 0, none⟩), .int .i64 now] w (RMut p w (.bool (v.takes now)) (v.take now)) := by
  have F := Lib.hid (rbring_at w p v h now)
  clear h
  by_cases hz : (v.bring now).m = 0
  · have tz : ((v.bring now).m == 0) = true := by simpa using hz
    rw [show v.takes now = false by simp [V.takes, hz], show v.take now = v.bring now from if_pos hz]
    replace hz := Lib.hid hz
    go_enter Try.func13, Try.ntmps13
    go_wp2_with fail
    refine F.out.mono ?_
    rintro e w2 ⟨rfl, R, T⟩
    obtain ⟨c0, c1, c2, c3, c4, f2, f3, f4⟩ := R.blk.cells
    have R' := Lib.hid R
    clear R
    go_wp2_with fail
    go_ret
    exact ⟨rfl, R'.out, T⟩
  · have tz : ((v.bring now).m == 0) = false := by simpa using hz
    rw [show v.takes now = true by simp [V.takes, hz], show v.take now = (v.bring now).less from if_neg hz]
    go_enter Try.func13, Try.ntmps13
    go_wp2_with fail
    refine F.out.mono ?_
    rintro e w2 ⟨rfl, R, T⟩
    obtain ⟨c0, c1, c2, c3, c4, f2, f3, f4⟩ := R.blk.cells
    have m0 := R.ok.m0
    have m1 := R.ok.m1
    have m2 := R.ok.c1
    have R' := Lib.hid R
    clear R
    go_wp2_with fail
    go_ret
    exact ⟨rfl, ⟨Blk.set R'.out.blk 2 (.int .i64 ((v.bring now).m - 1)), V.ok_less R'.out.ok hz⟩, turned_setCell T (by simp) _ _⟩
theorem rleft_at (w : World) (p : Nat) (v : V) (h : RAt w p v) (now : Int) : Calls Try.prog 10 #[.pointer (some ⟨p, 0, none⟩), .int .i64 now] w (RMut p w (.int .i64 (v.bring now).m) (v.bring now)) := by
  have F := Lib.hid (rbring_at w p v h now)
  clear h
  go_enter Try.func10, Try.ntmps10
  go_wp2_with fail
  refine F.out.mono ?_
  rintro e w2 ⟨rfl, R, T⟩
  obtain ⟨c0, c1, c2, c3, c4, f2, f3, f4⟩ := R.blk.cells
  have R' := Lib.hid R
  clear R
  go_wp2_with fail
  go_ret
  exact ⟨rfl, R'.out, T⟩
/-- What New asks. -/
def good (c r : Int) : Bool := decide (0 ≤ c) && decide (c ≤ 16) && decide (1 ≤ r) && decide (r ≤ 1099511627776)
theorem good_iff {c r : Int} : good c r = true ↔ 0 ≤ c ∧ c ≤ 16 ∧ 1 ≤ r ∧ r ≤ 1099511627776 := by simp [good, and_assoc]
def v0 (c r : Int) : V := ⟨c, r, c, 0, 0⟩
theorem ok_v0 {c r : Int} (h : good c r = true) : (v0 c r).Ok := by
  obtain ⟨a, b, e, f⟩ := good_iff.1 h
  exact ⟨a, b, e, f, a, Int.le_refl _, Int.le_refl _, Int.le_refl _, by simp [v0]⟩
theorem now_v0 (c r : Int) : (v0 c r).Now := .inl ⟨rfl, rfl⟩
theorem rnew_bad (w : World) (c r : Int) (h : good c r = false) : Calls Try.prog 8 #[.int .i64 c, .int .i64 r] w fun e w' => e = .returned (.tuple #[.pointer none, .int .i64 2]) ∧ w' = w := by
  have hn : ¬ (0 ≤ c ∧ c ≤ 16 ∧ 1 ≤ r ∧ r ≤ 1099511627776) := fun hc => by rw [good_iff.2 hc] at h; cases h
  replace hn := Lib.hid hn
  clear h
  go_enter Try.func8, Try.ntmps8
  go_wp2
  all_goals first | (go_ret2; exact ⟨rfl, rfl⟩) | (exfalso; have := hn.out; omega)
theorem rnew_good (w : World) (c r : Int) (h : good c r = true) : Calls Try.prog 8 #[.int .i64 c, .int .i64 r] w
    fun e w' => ∃ p, e = .returned (.tuple #[.pointer (some ⟨p, 0, none⟩), .int .i64 0]) ∧ RAt w' p (v0 c r) ∧ w.heap.size ≤ p ∧ Below w.heap.size w w' := by
  have ok := Lib.hid (ok_v0 h)
  obtain ⟨h1, h2, h3, h4⟩ := good_iff.1 h
  clear h
  go_enter Try.func8, Try.ntmps8
  go_wp2_with ((with_reducible show wpList _ _ _ (⟨_, .box _ _, _, _, _, _⟩ :: _) _ _); refine wpList_box_blk rfl TR _ rfl [nI c, nI r, nI c, nI 0, nI 0] rfl ?_; intro W1 B1 K1 S1; clear S1)
  go_ret2
  exact ⟨_, rfl, ⟨K1, ok.out⟩, Nat.le_refl _, B1⟩
end Go.Proofs.Ythncfpgmgpnclaa.Buc
