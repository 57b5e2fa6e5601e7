/-
  Law CountsPlay answers true for every number and list of acts, and leaves them as they were: whatever is added, each answer and all counters are the document's, and what a copy counts makes no difference. Conditions: none.
-/
import Derived.Test.YtfobljmkckclgaaRows
import Derived.WalkKit
import Derived.ProofKit
import Derived.OpenShut
import Derived.ShutString
import Derived.ChangeOld
import Derived.Below
import Derived.Test.YtfobljmkckclgaaTyped
import Derived.Test.YtfobljmkckclgaaCtC
import Derived.Deep.DeepCutAuto
import Derived.Deep.LoopGhost
import Derived.Deep.RegionWith
import Derived.Deep.RegionHeld3
open Go.Proofs.Ytfobljmkckclgaa.Mem Go.Proofs.Ytfobljmkckclgaa.Ct
namespace Go.Proofs.Ytfobljmkckclgaa.countsPlay
open Go.ChangeShapes Go.WideShapes Go.ChangeAt Go.RowKit
open Go.ChangeMaps (open_string shut_string)
open Go.Proofs.Ytfobljmkckclgaa.Mem
set_option linter.unusedVariables false

theorem own : ownKnob Try.prog.godebug = none := by kernel_rfl
theorem laidOut : laidOutB Try.prog = true := by kernel_rfl

def ty1 : Ty := .slice actTy
theorem range_cells {w : World} {b o : Nat} {k n : Int} (h : w.rangeAt b o (actC k n)) : w.cell? ⟨b, o, none⟩ = some (.int .i64 k) ∧ w.cell? ⟨b, o + 1, none⟩ = some (.int .i64 n) := ⟨h 0 _ rfl, h 1 _ rfl⟩

theorem sh1 : tyOf Try.prog 20 22 = some ty1 := by kernel_rfl

/-! ### The walk: the law answers true, and writes nothing that was there. -/
set_option maxRecDepth 100000
set_option maxHeartbeats 8000000
theorem walk (w : World) (a0 : Int) (ao1 : Option Addr) (ln1 cp1 : Nat) (w0 : (Lit.int .i64 a0).wf = true) (f1 : Fits w ty1 [.slice ao1 ln1 cp1]) :
    Calls Try.prog 3 #[.int .i64 a0, .slice ao1 ln1 cp1] w fun e w' => e = .returned (.bool true) ∧ Below w.heap.size w w' := by
  have hB := Below.refl w.heap.size w
  have hl := len_le f1
  by_cases hs : 100 < (ln1 : Int)
  · go_enter Try.func3, Try.ntmps3
    go_wp2_with (go_at_call 6; refine (added_any _).mono ?_; rintro e w2 ⟨rfl, hn⟩)
    go_ret
    exact ⟨rfl, hn⟩
  · have HA := Lib.hid (fun i hi => act_at f1 i hi)
    clear f1
    by_cases hn : a0 < 1 ∨ 64 < a0
    · go_enter Try.func3, Try.ntmps3
      go_wp2_with (first
        | (go_at_call 7; refine (new_bad _ a0 hn).mono ?_; rintro e w2 ⟨rfl, rfl⟩)
        | (go_at_call 8; refine (rnew_bad _ a0 hn).mono ?_; rintro e w2 ⟨rfl, rfl⟩)
        | (go_at_call 6; refine (added_any _).mono ?_; rintro e w2 ⟨rfl, hn⟩))
      go_ret
      exact ⟨rfl, hn⟩
    · obtain ⟨n, rfl⟩ := Int.eq_ofNat_of_zero_le (show 0 ≤ a0 by omega)
      have n1 : 1 ≤ n := by omega
      have n2 : n ≤ 64 := by omega
      go_enter Try.func3, Try.ntmps3
      go_wp2_with fail
      refine (new_good _ n n1 n2).mono ?_
      rintro e w2 ⟨p, q, rfl, C, hp, hq, B2⟩
      go_wp2_with fail
      refine (rnew_good _ n n1 n2).mono ?_
      rintro e w3 ⟨rv, rfl, hown, B3⟩
      have hlt2 := C.lt
      have C3 := C.below B3
      have s2 := B2.size
      have hB3 := B2.trans (B3.mono B2.size)
      have s3 := B3.size
      have hz : (zeros n).length = n := by simp [zeros]
      have hown' : w3.ownsRow w2.heap.size TI 1 rv (zeros n).length (ints (zeros n)) := by rw [hz]; exact hown
      go_wp2_with fail
      go_loopg [7, 9] ln1 (fun g rs i wr => ∃ (k : Nat) (l : List Int), g = ln1 - k ∧ k ≤ ln1 ∧ i = .int .i64 (k : Int) ∧ CAt wr p q l ∧ wr.ownsRow w2.heap.size TI 1 rs l.length (ints l) ∧ Below w.heap.size w wr ∧ w2.heap.size ≤ wr.heap.size)
      case atStart => exact ⟨0, zeros n, rfl, Nat.zero_le _, rfl, C3, hown', hB3, s3⟩
      case round =>
        obtain ⟨k, l, hg, hk, rfl, C, hown, hBr, hsz⟩ := hrel
        clear C3 hB3 B2 B3 hB hown'
        replace hg := Lib.hid hg
        by_cases hlt : k < ln1
        · obtain ⟨b, o, ii, dd, rfl, hr, ⟨hi1, hi2⟩, ⟨hd1, hd2⟩, hbw⟩ := HA.out k hlt
          have hrA := range_cells hr
          obtain ⟨gr, capr, csr, hrv, hg1, hg2, hgB, hgc⟩ := owns_blk hown (by have := C.n1; omega)
          subst hrv
          have okl := Lib.hid C.ok
          have c64 := C.n2
          replace hgc := Lib.hid hgc
          go_wp2_with fail
          refine (copy_at _ p q l C).mono ?_
          rintro e w4 ⟨p', q', rfl, D, hp', hq', B4⟩
          have hB4 := hBr.trans (B4.mono hBr.size)
          have C4 := C.below B4
          have hown4 := owns_below hown B4
          have cl := C.lt
          have e0 : w4.cell? ⟨b, o + k * 2, none⟩ = some (.int .i64 ii) := (hB4.cell hbw).trans hrA.1
          have e1 : w4.cell? ⟨b, o + k * 2 + 1, none⟩ = some (.int .i64 dd) := (hB4.cell hbw).trans hrA.2
          have hkk : (k : Int) < (ln1 : Int) := by omega
          clear hr C hown hBr HA hgB
          go_wp2_with fail
          have C5 : CAt w4.drew p q l := C4.same rfl rfl
          have D5 : CAt w4.drew p' q' l := D.same rfl rfl
          have O5 : w4.drew.ownsRow w2.heap.size TI 1 (.slice (some ⟨gr, 0, none⟩) l.length capr) l.length (ints l) := hown4
          have hB5 : Below w.heap.size w w4.drew := ⟨hB4.os, hB4.tape, hB4.output, hB4.size, hB4.block⟩
          have s5 : wr.heap.size ≤ w4.drew.heap.size := B4.size
          have cl5 := D5.lt
          clear D C4 hown4 hB4 B4
          go_region_held3 (fun W => W.cell? ⟨b, o + k * 2, none⟩ = some (.int .i64 ii) ∧ W.cell? ⟨b, o + k * 2 + 1, none⟩ = some (.int .i64 dd)) (first | exact ⟨e0, e1⟩ | exact ⟨f0, f1⟩)
            (first
              | (go_at_call 10; refine (add_at _ p q l C5 ii dd hd2).mono ?_; rintro e w6 ⟨rfl, C6, T6⟩; have D6 := D5.keep T6 (by simp; omega) (by simp; omega); have O6 := owns_turned O5 T6 (by simp [Value.ownBlock]; omega); have hB6 := hB5.trans (T6.below hB5.size (by simp; omega)); have s6 := T6.size; have f0 : w6.cell? ⟨b, o + k * 2, none⟩ = some (.int .i64 ii) := (hB6.cell hbw).trans hrA.1; have f1 : w6.cell? ⟨b, o + k * 2 + 1, none⟩ = some (.int .i64 dd) := (hB6.cell hbw).trans hrA.2))
          have C7 : CAt w6.drew p q (addL l ii dd) := C6.same rfl rfl
          have D7 : CAt w6.drew p' q' l := D6.same rfl rfl
          have O7 : w6.drew.ownsRow w2.heap.size TI 1 (.slice (some ⟨gr, 0, none⟩) l.length capr) l.length (ints l) := O6
          have hB7 : Below w.heap.size w w6.drew := ⟨hB6.os, hB6.tape, hB6.output, hB6.size, hB6.block⟩
          have s7 : w4.drew.heap.size ≤ w6.drew.heap.size := s6
          clear C5 D5 O5 hB5 T6 C6 D6 O6 hB6 e0 e1
          go_wp2_with fail
          go_region_held3 (fun W => W.cell? ⟨b, o + k * 2, none⟩ = some (.int .i64 ii) ∧ W.cell? ⟨b, o + k * 2 + 1, none⟩ = some (.int .i64 dd)) (first | exact ⟨f0, f1⟩ | exact ⟨h0, h1⟩)
            (first
              | (go_at_call 11; refine (radd_any _ w2.heap.size _ l ii dd O7 okl.out (by omega) c64 hd2).mono ?_; rintro e w8 ⟨rv', rfl, P8, B8, hrv⟩; have C8 := C7.below B8; have D8 := D7.below B8; have O8 := owns_below O7 B8; have hB8 := hB7.trans (B8.mono hB7.size); have s8 := B8.size; have h0 : w8.cell? ⟨b, o + k * 2, none⟩ = some (.int .i64 ii) := (hB8.cell hbw).trans hrA.1; have h1 : w8.cell? ⟨b, o + k * 2 + 1, none⟩ = some (.int .i64 dd) := (hB8.cell hbw).trans hrA.2))
          have z1 : (ans l ii dd != ans l ii dd) = false := by simp
          have z2 : (err l ii dd != err l ii dd) = false := by simp
          clear C7 D7 O7 hB7 B8 f0 f1 h0 h1
          go_wp2_with fail
          refine (same_yes w8 p' q' l D8 _ _ O8).mono ?_
          rintro e w9 ⟨rfl, B9⟩
          have C9 := C8.below B9
          have D9 := D8.below B9
          have P9 := owns_below P8 B9
          have hB9 := hB8.trans (B9.mono hB8.size)
          have s9 := B9.size
          clear C8 D8 O8 P8 hB8 B9
          go_wp2_with fail
          refine (same_yes w9 p q _ C9 _ _ P9).mono ?_
          rintro e wa ⟨rfl, Ba⟩
          have Ca := C9.below Ba
          have Da := D9.below Ba
          have Pa := owns_below P9 Ba
          have hBa := hB9.trans (Ba.mono hB9.size)
          have sa := Ba.size
          have pl := P9.lt
          have cl9 := C9.lt
          clear C9 D9 hB9 Ba
          go_wp2_with fail
          refine (add_at wa p' q' l Da 0 5 (by decide)).mono ?_
          rintro e wb ⟨rfl, -, Tb⟩
          have hBb := hBa.trans (Tb.below hBa.size (by have := hBa.size; simp; omega))
          have Cb := Ca.keep Tb (by simp; omega) (by simp; omega)
          have sb := Tb.size
          have hrvb : ∀ k ∈ [p', q'], rv'.ownBlock ≠ some k := by
            intro k hk hkk
            have hk' : k = p' ∨ k = q' := by simpa using hk
            rcases hrv with rfl | hrv
            · simp [Value.ownBlock] at hkk; omega
            · have := hrv k hkk; have := cl5; omega
          have Pb := owns_turned Pa Tb hrvb
          go_wp2_with fail
          go_roundg (ln1 - (k + 1))
          case measure => have := hg.out; omega
          case rel => exact ⟨k + 1, addL l ii dd, rfl, by omega, by go_num, Cb, Pb, hBb, by omega⟩
        · have hkk : k = ln1 := by omega
          subst hkk
          go_wp2_with fail
          refine (same_yes wr p q l C _ _ hown).mono ?_
          rintro e w4 ⟨rfl, B4⟩
          go_wp2_with (go_at_call 6; refine (added_any _).mono ?_; rintro e w5 ⟨rfl, hn⟩)
          go_ret
          exact ⟨rfl, (hBr.trans (B4.mono hBr.size)).trans (hn.mono (by have := hBr.size; have := B4.size; omega))⟩

/-! ### The row. -/
set_option maxRecDepth 100000 in
theorem lifted (os : Os) (started : os.Started) (H : Type) (enc : TypeId × Value → H) :
    ReturnsInHanded {} Try.checked os 3 .any (Rows.countsPlaySpec.pre6 enc Try.prog Try.f3 Rows.countsPlayRow.domain false) (Rows.countsPlaySpec.post enc Try.prog Try.f3 false true false false) := by
  refine returnsInHanded_of_change (C := Try.checked) own started (by kernel_rfl) Try.func3
    (ChangeSpec.witness6 (enc := enc) (C := Try.checked) false ⟨#[], #[.int .i64 0, .slice none 0 0], []⟩ 8 (by kernel_rfl) (by kernel_rfl) (by kernel_rfl) (by kernel_rfl)) ?_
  intro W base args ds gs before hval0 hW hcnd _
  have hval : ∀ (j : Nat) t v, Try.f3.params[j]? = some t → args[j]? = some v → Value.okWide Try.prog W .any base t v := hval0
  have hW' := hW
  obtain ⟨p, q, hA0, hV, rfl, hfz, hnd⟩ := hW
  have hA : DataW.TrodAll enc Try.prog W 0 (fun _ => true) true Try.f3.params.toList args.toList ds p := hA0
  rw [Try.params3] at hA hval
  obtain ⟨v0, vs0, d0, ds0, p0, q0, hargs, rfl, rfl, h0, r0⟩ := trodAll_cons hA
  obtain ⟨v1, vs1, d1, ds1, p1, q1, rfl, rfl, rfl, h1, r1⟩ := trodAll_cons r0
  obtain ⟨rfl, rfl, rfl⟩ := trodAll_nil r1
  obtain rfl : args = #[v0, v1] := by cases args; simp_all
  obtain ⟨rfl, rfl⟩ := trodVars_none hV
  have k0 := h0
  have lt0 : ∀ x ∈ p0, x.block < W.heap.size := by obtain ⟨m, hm⟩ := k0; exact DataW.trod_lt m _ _ _ hm
  obtain ⟨a0, rfl, rfl, rfl, w0⟩ := open_int Try.underlying3 (hval 0 3 v0 rfl rfl) h0
  have k1 := h1
  have lt1 : ∀ x ∈ p1, x.block < W.heap.size := by obtain ⟨m, hm⟩ := k1; exact DataW.trod_lt m _ _ _ hm
  have f1 := fits_of_Trod sh1 h1; obtain ⟨ao1, ln1, cp1, rfl⟩ := okWide_slice Try.underlying22 (hval 1 22 v1 rfl rfl)
  clear hA0 hval0
  refine (walk W a0 ao1 ln1 cp1 w0 f1).mono fun e W' ⟨he, bel⟩ => ?_
  subst he
  exact ⟨_, rfl, _, _, _, [], _, [], hW', trodAll_mk1 (shut_bool Try.underlying4 _), (trodAll_cons_mk (Below.trod laidOut (by kernel_rfl) (of_decide_eq_true (by kernel_rfl)) k0 bel lt0) (trodAll_cons_mk (Below.trod laidOut (by kernel_rfl) (of_decide_eq_true (by kernel_rfl)) k1 bel lt1) trodAll_mk0)), rfl, bel.frame _, fun h => by cases h⟩

theorem over : Rows.countsPlayRow.holds Try.pinned (OpenSpec.ofChange Rows.countsPlaySpec) :=
  OpenClaim.holds_of_wide 3 Try.f3 rfl rfl rfl rfl rfl rfl rfl ⟨rfl, rfl, rfl, rfl, rfl⟩ rfl rfl rfl rfl rfl (by kernel_rfl) Try.func3 (by kernel_rfl)
    (of_decide_eq_true (by kernel_rfl)) (by unfold Func.isWrapper; first | (rw [if_pos (by decide +kernel)]; kernel_rfl) | (rw [if_neg (by decide +kernel)]; exact ⟨rfl, rfl⟩))
    (fun os started H enc _ => lifted os started H enc)

/-- THE STATEMENT. -/
theorem proved : Rows.CountsPlaySaid := over
#print axioms proved
end Go.Proofs.Ytfobljmkckclgaa.countsPlay
