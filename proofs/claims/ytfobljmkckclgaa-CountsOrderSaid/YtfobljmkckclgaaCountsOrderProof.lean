/-
  Law CountsOrder answers true for every list of acts and every turn, and leaves them as they were: in which order is added makes no difference in the end. Conditions: none.
-/
import Derived.Test.YtfobljmkckclgaaRows
import Derived.WalkKit
import Derived.ProofKit
import Derived.OpenShut
import Derived.ShutString
import Derived.ChangeOld
import Derived.Below
import Derived.Test.YtfobljmkckclgaaTyped
import Derived.Test.YtfobljmkckclgaaCtD
import Derived.Deep.DeepCutAuto
import Derived.Deep.LoopGhost
import Derived.Deep.RegionHeld3
open Go.Proofs.Ytfobljmkckclgaa.Mem Go.Proofs.Ytfobljmkckclgaa.Ct
namespace Go.Proofs.Ytfobljmkckclgaa.countsOrder
open Go.ChangeShapes Go.WideShapes Go.ChangeAt Go.RowKit
open Go.ChangeMaps (open_string shut_string)
open Go.Proofs.Ytfobljmkckclgaa.Mem
set_option linter.unusedVariables false

theorem own : ownKnob Try.prog.godebug = none := by kernel_rfl
theorem laidOut : laidOutB Try.prog = true := by kernel_rfl

def ty0 : Ty := .slice actTy
theorem act_cells {w : World} {x : Nat} {T : TypeId} {k n : Int} (h : Blk w x T (actC k n)) : w.cell? ⟨x, 0, none⟩ = some (.int .i64 k) ∧ w.cell? ⟨x, 1, none⟩ = some (.int .i64 n) := ⟨h.cell 0, h.cell 1⟩
theorem and3 (a : Int) : 0 ≤ bits .and .i64 a 3 ∧ bits .and .i64 a 3 < 4 := by
  have h : ((BitVec.ofInt 64 a &&& BitVec.ofInt 64 3).toNat : Int) ≤ 3 := by
    have := Nat.and_le_right (n := (BitVec.ofInt 64 a).toNat) (m := (BitVec.ofInt 64 3).toNat)
    rw [← BitVec.toNat_and] at this
    have e : (BitVec.ofInt 64 3).toNat = 3 := by decide
    omega
  show 0 ≤ IntKind.i64.wrap ((BitVec.ofInt 64 a &&& BitVec.ofInt 64 3).toNat : Int) ∧ IntKind.i64.wrap ((BitVec.ofInt 64 a &&& BitVec.ofInt 64 3).toNat : Int) < 4
  rw [IntWalk.i64_in _ (by omega)]
  omega
theorem getL_ok {l : List Int} (h : Ok l) (i : Int) : 0 ≤ getL l i ∧ getL l i ≤ 4611686018427387904 := by
  unfold getL
  split
  · omega
  · rw [List.getD_eq_getElem?_getD]
    cases hg : l[i.toNat]? with
    | none => simp
    | some y => exact h y (List.mem_of_getElem? hg)
/-- The act number i: its number as it lies there, and by how much. -/
def actOf (w : World) (ao : Option Addr) (i : Nat) : Int × Int :=
  match ao with
  | some a => ((match w.cell? ⟨a.block, a.off + i * 2, none⟩ with | some (.int _ n) => n | _ => 0), (match w.cell? ⟨a.block, a.off + i * 2 + 1, none⟩ with | some (.int _ n) => n | _ => 0))
  | none => (0, 0)
theorem range_cells {w : World} {b o : Nat} {k n : Int} (h : w.rangeAt b o (actC k n)) : w.cell? ⟨b, o, none⟩ = some (.int .i64 k) ∧ w.cell? ⟨b, o + 1, none⟩ = some (.int .i64 n) := ⟨h 0 _ rfl, h 1 _ rfl⟩
theorem act_of {w : World} {ao : Option Addr} {ln cp : Nat} (f : Fits w ty0 [.slice ao ln cp]) (h0 : 0 < ln) : ∃ b o : Nat, ao = some ⟨b, o, none⟩ ∧ b < w.heap.size ∧ ∀ i, i < ln → w.rangeAt b (o + i * 2) (actC (actOf w ao i).1 (actOf w ao i).2) ∧
    (-9223372036854775808 ≤ (actOf w ao i).1 ∧ (actOf w ao i).1 ≤ 9223372036854775807) ∧ (-9223372036854775808 ≤ (actOf w ao i).2 ∧ (actOf w ao i).2 ≤ 9223372036854775807) := by
  obtain ⟨b, o, _, _, rfl, _, _, _, hb⟩ := act_at f 0 h0
  refine ⟨b, o, rfl, hb, fun i hi => ?_⟩
  obtain ⟨b', o', k, n, e, hr, hk, hn, _⟩ := act_at f i hi
  simp only [Option.some.injEq, Addr.mk.injEq, and_true] at e
  obtain ⟨rfl, rfl⟩ := e
  obtain ⟨h1, h2⟩ := range_cells hr
  have e1 : actOf w (some ⟨b, o, none⟩) i = (k, n) := by simp [actOf, h1, h2]
  rw [e1]
  exact ⟨hr, hk, hn⟩

theorem sh0 : tyOf Try.prog 20 22 = some ty0 := by kernel_rfl

/-! ### The walk: the law answers true, and writes nothing that was there. -/
set_option maxRecDepth 100000
set_option maxHeartbeats 8000000
theorem walk (w : World) (ao0 : Option Addr) (ln0 cp0 : Nat) (a1 : Int) (f0 : Fits w ty0 [.slice ao0 ln0 cp0]) (w1 : (Lit.int .u8 a1).wf = true) :
    Calls Try.prog 5 #[.slice ao0 ln0 cp0, .int .u8 a1] w fun e w' => e = .returned (.bool true) ∧ Below w.heap.size w w' := by
  have hB := Below.refl w.heap.size w
  have hl := len_le f0
  obtain ⟨m0, m1⟩ := bounds_u8 w1
  obtain ⟨t, rfl⟩ := Int.eq_ofNat_of_zero_le m0
  by_cases hs : 80 < (ln0 : Int)
  · go_enter Try.func5, Try.ntmps5
    go_wp2_with (go_at_call 6; refine (added_any _).mono ?_; rintro e w2 ⟨rfl, hn⟩)
    go_ret
    exact ⟨rfl, hn⟩
  · have HA := Lib.hid (fun h => act_of f0 h)
    clear f0
    obtain ⟨d', hd', hdr'⟩ := row_act
    replace hd' := Lib.hid hd'
    go_enter Try.func5, Try.ntmps5
    go_wp2_with fail
    refine (new_good _ 4 (by decide) (by decide)).mono ?_
    rintro e w2 ⟨p, q, rfl, C, hp, hq, B2⟩
    go_wp2_with fail
    refine (new_good _ 4 (by decide) (by decide)).mono ?_
    rintro e w3 ⟨p2, q2, rfl, D, hp2, hq2, B3⟩
    have cl := C.lt
    have C3 := C.below B3
    have s2 := B2.size
    have hB3 := B2.trans (B3.mono B2.size)
    obtain ⟨f, hf⟩ : ∃ f : Nat → Int × Int, ∀ m, f m = (bits .and .i64 (actOf w ao0 (m % ln0)).1 3, (actOf w ao0 (m % ln0)).2) := ⟨_, fun _ => rfl⟩
    replace hf := Lib.hid hf
    go_wp2_with fail
    go_loopg [9] ln0 (fun g i wr => ∃ k : Nat, g = ln0 - k ∧ k ≤ ln0 ∧ i = .int .i64 (k : Int) ∧ CAt wr p q (lst f 0 k) ∧ CAt wr p2 q2 (lst f t k) ∧ Below w.heap.size w wr ∧ w3.heap.size ≤ wr.heap.size)
    case atStart => exact ⟨0, rfl, Nat.zero_le _, rfl, C3, D, hB3, Nat.le_refl _⟩
    case round =>
      obtain ⟨k, hg, hk, rfl, Ca, Cb, hBr, hsz⟩ := hrel
      clear C3 hB3 B2 B3 hB C D
      replace hg := Lib.hid hg
      by_cases hlt : k < ln0
      · obtain ⟨b, o, rfl, hbw, hr⟩ := HA.out (by omega)
        obtain ⟨hr1, ⟨i1, i2⟩, ⟨d1, d2⟩⟩ := hr k hlt
        have hmod : (k + t) % ln0 < ln0 := Nat.mod_lt _ (by omega)
        obtain ⟨hr2, ⟨j1, j2⟩, ⟨g1, g2⟩⟩ := hr ((k + t) % ln0) hmod
        have hkk : (k : Int) < (ln0 : Int) := by omega
        have hr1' : wr.rangeAt b (o + k * 2) _ := rangeAt_below hr1 hBr (fun _ => hbw)
        have hr2' : wr.rangeAt b (o + (k + t) % ln0 * 2) _ := rangeAt_below hr2 hBr (fun _ => hbw)
        obtain ⟨e0, e1⟩ := range_cells hr1'
        obtain ⟨e2, e3⟩ := range_cells hr2'
        have ef1 := hf.out k
        have ef2 := hf.out (t + k)
        rw [Nat.mod_eq_of_lt hlt] at ef1
        rw [Nat.add_comm t k] at ef2
        have hJi : ((k : Int) + (t : Int)) % (ln0 : Int) = (((k + t) % ln0 : Nat) : Int) := by rw [← Int.natCast_add, ← Int.natCast_emod]
        generalize hJ : (k + t) % ln0 = J at *
        have hJ0 : (0 : Int) ≤ (J : Int) := by omega
        have hJl : (J : Int) < (ln0 : Int) := by omega
        generalize (actOf w (some ⟨b, o, none⟩) k).1 = I1 at *
        generalize (actOf w (some ⟨b, o, none⟩) k).2 = D1 at *
        generalize (actOf w (some ⟨b, o, none⟩) J).1 = I2 at *
        generalize (actOf w (some ⟨b, o, none⟩) J).2 = D2 at *
        replace ef1 := Lib.hid ef1
        replace ef2 := Lib.hid ef2
        replace hJ := Lib.hid hJ
        have hz : ((ln0 : Int) == 0) = false := beq_eq_false_iff_ne.2 (by omega)
        have hne : ¬ ((ln0 : Int) = 0) := by omega
        have hne' : ¬ (ln0 = 0) := by omega
        have hw1 : IntKind.i64.wrap (t : Int) = (t : Int) := IntWalk.i64_in _ (by omega)
        have hw2 : IntKind.i64.wrap ((k : Int) + (t : Int)) = (k : Int) + (t : Int) := IntWalk.i64_in _ (by omega)
        have htm : ((k : Int) + (t : Int)).tmod (ln0 : Int) = (J : Int) := by rw [Int.tmod_eq_emod_of_nonneg (by omega), hJi]
        have ht : (k : Int) + (t : Int) ≤ 9223372036854775807 := by omega
        clear hr1 hr2 hr1' hr2' HA hr hf
        go_upto_region 10 with fail
        go_region_held3 (fun W => W.cell? ⟨b, o + k * 2, none⟩ = some (.int .i64 I1) ∧ W.cell? ⟨b, o + k * 2 + 1, none⟩ = some (.int .i64 D1) ∧ W.cell? ⟨b, o + J * 2, none⟩ = some (.int .i64 I2) ∧ W.cell? ⟨b, o + J * 2 + 1, none⟩ = some (.int .i64 D2)) (go_keep) (fail)
        · have KX : Blk (((wr.alloc (.cells #[.int .i64 I1, .int .i64 D1] 35)).alloc (.cells #[.int .i64 I2, .int .i64 D2] 35)).drew) wr.heap.size 35 (actC I1 D1) := (Blk.new wr 35 (actC I1 D1)).alloc _
          have KY : Blk (((wr.alloc (.cells #[.int .i64 I1, .int .i64 D1] 35)).alloc (.cells #[.int .i64 I2, .int .i64 D2] 35)).drew) (wr.heap.size + 1) 35 (actC I2 D2) := by
            have := Blk.new (wr.alloc (.cells #[.int .i64 I1, .int .i64 D1] 35)) 35 (actC I2 D2)
            rw [World.size_alloc] at this
            exact this
          have BW : Below wr.heap.size wr (((wr.alloc (.cells #[.int .i64 I1, .int .i64 D1] 35)).alloc (.cells #[.int .i64 I2, .int .i64 D2] 35)).drew) := by
            have h := ((Below.refl wr.heap.size wr).alloc (Nat.le_refl _) (.cells #[.int .i64 I1, .int .i64 D1] 35)).alloc (by simp) (.cells #[.int .i64 I2, .int .i64 D2] 35)
            exact ⟨h.os, h.tape, h.output, h.size, h.block⟩
          generalize (((wr.alloc (.cells #[.int .i64 I1, .int .i64 D1] 35)).alloc (.cells #[.int .i64 I2, .int .i64 D2] 35)).drew) = W at *
          obtain ⟨x, hx⟩ : ∃ x, x = wr.heap.size := ⟨_, rfl⟩
          obtain ⟨y, hy⟩ : ∃ y, y = wr.heap.size + 1 := ⟨_, rfl⟩
          rw [← hy] at KY ⊢
          rw [← hx] at KX ⊢
          have hxy : wr.heap.size ≤ x ∧ wr.heap.size ≤ y := by omega
          replace hx := Lib.hid hx
          replace hy := Lib.hid hy
          have Ca2 := Ca.below BW
          have Cb2 := Cb.below BW
          have hB2 := hBr.trans (BW.mono hBr.size)
          have ca := Ca.lt
          have cb := Cb.lt
          have hws := hBr.size
          have sW := BW.size
          have x0 := (act_cells KX).1
          have x1 := (act_cells KX).2
          clear Ca Cb hBr e0 e1 e2 e3 BW
          obtain ⟨a1l, a1h⟩ := and3 I1
          obtain ⟨a2l, a2h⟩ := and3 I2
          have A := add_at W p q (lst f 0 k) Ca2 (bits .and .i64 I1 3) D1 d2
          have st1 := lst_step f 0 k (bits .and .i64 I1 3) D1 (by rw [Nat.zero_add]; exact ef1.out) a1l a1h
          have st2 := lst_step f t k (bits .and .i64 I2 3) D2 (by rw [Nat.add_comm]; exact ef2.out) a2l a2h
          have er1 := lst_err f 0 k (bits .and .i64 I1 3) D1 a1l a1h
          have er2 := lst_err f t k (bits .and .i64 I2 3) D2 a2l a2h
          rw [st1] at A
          have he1 : (err (lst f 0 k) (bits .and .i64 I1 3) D1 == 0) = decide (0 ≤ D1) := by rw [er1]; by_cases h : D1 < 0 <;> simp [h] <;> omega
          have he2 : (err (lst f t k) (bits .and .i64 I2 3) D2 == 0) = decide (0 ≤ D2) := by rw [er2]; by_cases h : D2 < 0 <;> simp [h] <;> omega
          have A2 := fun w' h => add_at w' p2 q2 (lst f t k) h (bits .and .i64 I2 3) D2 g2
          rw [st2] at A2
          clear st1 st2 er1 er2
          generalize err (lst f 0 k) (bits .and .i64 I1 3) D1 = E1 at *
          generalize err (lst f t k) (bits .and .i64 I2 3) D2 = E2 at *
          replace A := Lib.hid A
          replace A2 := Lib.hid A2
          have cl2 := Cb2.lt
          have y0 := (act_cells KY).1
          have y1 := (act_cells KY).2
          go_wp2_with fail
          refine A.out.mono ?_
          rintro e w5 ⟨rfl, Ca5, T5⟩
          have Cb5 := Cb2.keep T5 (by simp; omega) (by simp; omega)
          have KX5 := T5.blk KX (by simp; omega)
          have KY5 := T5.blk KY (by simp; omega)
          have hB5 := hB2.trans (T5.below hB2.size (by simp; omega))
          have s5 := T5.size
          clear x0 x1 y0 y1 KX KY Ca2 Cb2 hB2 T5
          have x1 := (act_cells KX5).2
          have y0 := (act_cells KY5).1
          have y1 := (act_cells KY5).2
          go_wp2_with fail
          refine (A2.out w5 Cb5).mono ?_
          rintro e w6 ⟨rfl, Cb6, T6⟩
          have Ca6 := Ca5.keep T6 (by simp; omega) (by simp; omega)
          have KX6 := T6.blk KX5 (by simp; omega)
          have KY6 := T6.blk KY5 (by simp; omega)
          have hB6 := hB5.trans (T6.below hB5.size (by simp; omega))
          have s6 := T6.size
          clear x1 y0 y1 KX5 KY5 Ca5 Cb5 hB5 T6
          have x1 := (act_cells KX6).2
          have y1 := (act_cells KY6).2
          go_wp2_with fail
          go_roundg (ln0 - (k + 1))
          case measure => have := hg.out; omega
          case rel => exact ⟨k + 1, rfl, by omega, by go_num, Ca6, Cb6, hB6, by omega⟩
        · have KX : Blk (((wr.alloc (.cells #[.int .i64 I2, .int .i64 D2] 35)).alloc (.cells #[.int .i64 I1, .int .i64 D1] 35)).drew) wr.heap.size 35 (actC I2 D2) := (Blk.new wr 35 (actC I2 D2)).alloc _
          have KY : Blk (((wr.alloc (.cells #[.int .i64 I2, .int .i64 D2] 35)).alloc (.cells #[.int .i64 I1, .int .i64 D1] 35)).drew) (wr.heap.size + 1) 35 (actC I1 D1) := by
            have := Blk.new (wr.alloc (.cells #[.int .i64 I2, .int .i64 D2] 35)) 35 (actC I1 D1)
            rw [World.size_alloc] at this
            exact this
          have BW : Below wr.heap.size wr (((wr.alloc (.cells #[.int .i64 I2, .int .i64 D2] 35)).alloc (.cells #[.int .i64 I1, .int .i64 D1] 35)).drew) := by
            have h := ((Below.refl wr.heap.size wr).alloc (Nat.le_refl _) (.cells #[.int .i64 I2, .int .i64 D2] 35)).alloc (by simp) (.cells #[.int .i64 I1, .int .i64 D1] 35)
            exact ⟨h.os, h.tape, h.output, h.size, h.block⟩
          generalize (((wr.alloc (.cells #[.int .i64 I2, .int .i64 D2] 35)).alloc (.cells #[.int .i64 I1, .int .i64 D1] 35)).drew) = W at *
          obtain ⟨x, hx⟩ : ∃ x, x = wr.heap.size := ⟨_, rfl⟩
          obtain ⟨y, hy⟩ : ∃ y, y = wr.heap.size + 1 := ⟨_, rfl⟩
          rw [← hy] at KY ⊢
          rw [← hx] at KX ⊢
          have hxy : wr.heap.size ≤ x ∧ wr.heap.size ≤ y := by omega
          replace hx := Lib.hid hx
          replace hy := Lib.hid hy
          have Ca2 := Ca.below BW
          have Cb2 := Cb.below BW
          have hB2 := hBr.trans (BW.mono hBr.size)
          have ca := Ca.lt
          have cb := Cb.lt
          have hws := hBr.size
          have sW := BW.size
          have x0 := (act_cells KY).1
          have x1 := (act_cells KY).2
          clear Ca Cb hBr e0 e1 e2 e3 BW
          obtain ⟨a1l, a1h⟩ := and3 I1
          obtain ⟨a2l, a2h⟩ := and3 I2
          have A := add_at W p q (lst f 0 k) Ca2 (bits .and .i64 I1 3) D1 d2
          have st1 := lst_step f 0 k (bits .and .i64 I1 3) D1 (by rw [Nat.zero_add]; exact ef1.out) a1l a1h
          have st2 := lst_step f t k (bits .and .i64 I2 3) D2 (by rw [Nat.add_comm]; exact ef2.out) a2l a2h
          have er1 := lst_err f 0 k (bits .and .i64 I1 3) D1 a1l a1h
          have er2 := lst_err f t k (bits .and .i64 I2 3) D2 a2l a2h
          rw [st1] at A
          have he1 : (err (lst f 0 k) (bits .and .i64 I1 3) D1 == 0) = decide (0 ≤ D1) := by rw [er1]; by_cases h : D1 < 0 <;> simp [h] <;> omega
          have he2 : (err (lst f t k) (bits .and .i64 I2 3) D2 == 0) = decide (0 ≤ D2) := by rw [er2]; by_cases h : D2 < 0 <;> simp [h] <;> omega
          have A2 := fun w' h => add_at w' p2 q2 (lst f t k) h (bits .and .i64 I2 3) D2 g2
          rw [st2] at A2
          clear st1 st2 er1 er2
          generalize err (lst f 0 k) (bits .and .i64 I1 3) D1 = E1 at *
          generalize err (lst f t k) (bits .and .i64 I2 3) D2 = E2 at *
          replace A := Lib.hid A
          replace A2 := Lib.hid A2
          have cl2 := Cb2.lt
          have y0 := (act_cells KX).1
          have y1 := (act_cells KX).2
          go_wp2_with fail
          refine A.out.mono ?_
          rintro e w5 ⟨rfl, Ca5, T5⟩
          have Cb5 := Cb2.keep T5 (by simp; omega) (by simp; omega)
          have KY5 := T5.blk KY (by simp; omega)
          have KX5 := T5.blk KX (by simp; omega)
          have hB5 := hB2.trans (T5.below hB2.size (by simp; omega))
          have s5 := T5.size
          clear x0 x1 y0 y1 KY KX Ca2 Cb2 hB2 T5
          have x1 := (act_cells KY5).2
          have y0 := (act_cells KX5).1
          have y1 := (act_cells KX5).2
          go_wp2_with fail
          refine (A2.out w5 Cb5).mono ?_
          rintro e w6 ⟨rfl, Cb6, T6⟩
          have Ca6 := Ca5.keep T6 (by simp; omega) (by simp; omega)
          have KY6 := T6.blk KY5 (by simp; omega)
          have KX6 := T6.blk KX5 (by simp; omega)
          have hB6 := hB5.trans (T6.below hB5.size (by simp; omega))
          have s6 := T6.size
          clear x1 y0 y1 KY5 KX5 Ca5 Cb5 hB5 T6
          have x1 := (act_cells KY6).2
          have y1 := (act_cells KX6).2
          go_wp2_with fail
          go_roundg (ln0 - (k + 1))
          case measure => have := hg.out; omega
          case rel => exact ⟨k + 1, rfl, by omega, by go_num, Ca6, Cb6, hB6, by omega⟩
      · have hkk : k = ln0 := by omega
        subst hkk
        have hturn := lst_turn f k (fun m => by rw [hf.out, hf.out, Nat.add_mod_right]) t
        rw [hturn] at Cb
        clear hturn hf HA
        have hok := Lib.hid Ca.ok
        generalize lst f 0 k = L at *
        obtain ⟨wo, rfl⟩ : ∃ wo : World, wo = wr := ⟨_, rfl⟩
        go_wp2_with fail
        go_loopg [16] 4 (fun g i wx => ∃ j d : Nat, g = 4 - j ∧ j ≤ 4 ∧ i = .int .i64 (j : Int) ∧ wx = wo.drewN d)
        case atStart => exact ⟨0, 0, rfl, by omega, rfl, rfl⟩
        case round =>
          obtain ⟨j, d, hg2, hj, rfl, rfl⟩ := hrel
          replace hg2 := Lib.hid hg2
          by_cases hlt2 : j < 4
          · have hv := getL_ok hok.out (j : Int)
            have GA := fun d => Ct.get_at (wo.drewN d) p q L (Ca.drewN d) (j : Int)
            have GB := fun d => Ct.get_at (wo.drewN d) p2 q2 L (Cb.drewN d) (j : Int)
            generalize getL L (j : Int) = G at *
            have z1 : (G != G) = false := by simp
            have z2 : decide (G < 0) = false := decide_eq_false (by omega)
            have z3 : decide (4611686018427387904 < G) = false := decide_eq_false (by omega)
            replace GA := Lib.hid GA
            replace GB := Lib.hid GB
            go_wp2_with fail
            refine (GA.out _).mono ?_
            rintro e w4 ⟨rfl, d1, rfl⟩
            rw [World.drewN_drewN]
            go_wp2_with fail
            refine (GB.out _).mono ?_
            rintro e w5 ⟨rfl, d2, rfl⟩
            rw [World.drewN_drewN]
            go_wp2_with fail
            refine (GA.out _).mono ?_
            rintro e w6 ⟨rfl, d3, rfl⟩
            rw [World.drewN_drewN]
            go_wp2_with fail
            refine (GA.out _).mono ?_
            rintro e w7 ⟨rfl, d4, rfl⟩
            rw [World.drewN_drewN]
            go_wp2_with fail
            go_roundg (4 - (j + 1))
            case measure => have := hg2.out; omega
            case rel => exact ⟨j + 1, _, rfl, by omega, by go_num, rfl⟩
          · have hjj : j = 4 := by omega
            subst hjj
            go_wp2_with (go_at_call 6; refine (added_any _).mono ?_; rintro e w9 ⟨rfl, hn⟩)
            go_ret
            exact ⟨rfl, (below_drewN hBr d).trans (hn.mono hBr.size)⟩

/-! ### The row. -/
set_option maxRecDepth 100000 in
theorem lifted (os : Os) (started : os.Started) (H : Type) (enc : TypeId × Value → H) :
    ReturnsInHanded {} Try.checked os 5 .any (Rows.countsOrderSpec.pre6 enc Try.prog Try.f5 Rows.countsOrderRow.domain false) (Rows.countsOrderSpec.post enc Try.prog Try.f5 false true false false) := by
  refine returnsInHanded_of_change (C := Try.checked) own started (by kernel_rfl) Try.func5
    (ChangeSpec.witness6 (enc := enc) (C := Try.checked) false ⟨#[], #[.slice none 0 0, .int .u8 0], []⟩ 8 (by kernel_rfl) (by kernel_rfl) (by kernel_rfl) (by kernel_rfl)) ?_
  intro W base args ds gs before hval0 hW hcnd _
  have hval : ∀ (j : Nat) t v, Try.f5.params[j]? = some t → args[j]? = some v → Value.okWide Try.prog W .any base t v := hval0
  have hW' := hW
  obtain ⟨p, q, hA0, hV, rfl, hfz, hnd⟩ := hW
  have hA : DataW.TrodAll enc Try.prog W 0 (fun _ => true) true Try.f5.params.toList args.toList ds p := hA0
  rw [Try.params5] at hA hval
  obtain ⟨v0, vs0, d0, ds0, p0, q0, hargs, rfl, rfl, h0, r0⟩ := trodAll_cons hA
  obtain ⟨v1, vs1, d1, ds1, p1, q1, rfl, rfl, rfl, h1, r1⟩ := trodAll_cons r0
  obtain ⟨rfl, rfl, rfl⟩ := trodAll_nil r1
  obtain rfl : args = #[v0, v1] := by cases args; simp_all
  obtain ⟨rfl, rfl⟩ := trodVars_none hV
  have k0 := h0
  have lt0 : ∀ x ∈ p0, x.block < W.heap.size := by obtain ⟨m, hm⟩ := k0; exact DataW.trod_lt m _ _ _ hm
  have f0 := fits_of_Trod sh0 h0; obtain ⟨ao0, ln0, cp0, rfl⟩ := okWide_slice Try.underlying22 (hval 0 22 v0 rfl rfl)
  have k1 := h1
  have lt1 : ∀ x ∈ p1, x.block < W.heap.size := by obtain ⟨m, hm⟩ := k1; exact DataW.trod_lt m _ _ _ hm
  obtain ⟨a1, rfl, rfl, rfl, w1⟩ := open_int Try.underlying5 (hval 1 5 v1 rfl rfl) h1
  clear hA0 hval0
  refine (walk W ao0 ln0 cp0 a1 f0 w1).mono fun e W' ⟨he, bel⟩ => ?_
  subst he
  exact ⟨_, rfl, _, _, _, [], _, [], hW', trodAll_mk1 (shut_bool Try.underlying4 _), (trodAll_cons_mk (Below.trod laidOut (by kernel_rfl) (of_decide_eq_true (by kernel_rfl)) k0 bel lt0) (trodAll_cons_mk (Below.trod laidOut (by kernel_rfl) (of_decide_eq_true (by kernel_rfl)) k1 bel lt1) trodAll_mk0)), rfl, bel.frame _, fun h => by cases h⟩

theorem over : Rows.countsOrderRow.holds Try.pinned (OpenSpec.ofChange Rows.countsOrderSpec) :=
  OpenClaim.holds_of_wide 5 Try.f5 rfl rfl rfl rfl rfl rfl rfl ⟨rfl, rfl, rfl, rfl, rfl⟩ rfl rfl rfl rfl rfl (by kernel_rfl) Try.func5 (by kernel_rfl)
    (of_decide_eq_true (by kernel_rfl)) (by unfold Func.isWrapper; first | (rw [if_pos (by decide +kernel)]; kernel_rfl) | (rw [if_neg (by decide +kernel)]; exact ⟨rfl, rfl⟩))
    (fun os started H enc _ => lifted os started H enc)

/-- THE STATEMENT. -/
theorem proved : Rows.CountsOrderSaid := over
#print axioms proved
end Go.Proofs.Ytfobljmkckclgaa.countsOrder
