/-
  Law SlotsSet answers true for every list of outcomes, and leaves them as they were: whatever is set, and however often, each answer and what is told is the document's. Conditions: none.
-/
import Derived.Test.YtidfgighpdkfaaaRows
import Derived.WalkKit
import Derived.ProofKit
import Derived.OpenShut
import Derived.ShutString
import Derived.ChangeOld
import Derived.Below
import Derived.Test.YtidfgighpdkfaaaTyped
import Derived.Test.YtidfgighpdkfaaaSlB
open Go.Proofs.Ytidfgighpdkfaaa.Mem Go.Proofs.Ytidfgighpdkfaaa.Sl
namespace Go.Proofs.Ytidfgighpdkfaaa.slotsSet
open Go.ChangeShapes Go.WideShapes Go.ChangeAt Go.RowKit
open Go.ChangeMaps (open_string shut_string)
open Go.Proofs.Ytidfgighpdkfaaa.Mem
set_option linter.unusedVariables false

theorem own : ownKnob Try.prog.godebug = none := by kernel_rfl
theorem laidOut : laidOutB Try.prog = true := by kernel_rfl

def ty0 : Ty := .slice outTy
/-- The first k of them. -/
def pre (g : Nat → O) (k : Nat) : List O := (List.range k).map g
theorem pre_len (g : Nat → O) (k : Nat) : (pre g k).length = k := by simp [pre]
theorem pre_next (g : Nat → O) (k : Nat) : pre g (k + 1) = pre g k ++ [g k] := by simp [pre, List.range_succ]
theorem one_isSome (o : O) : (first [o]).isSome = o.ok := by rw [first_one]; cases o.ok <;> rfl
theorem sets_eq (v : Option O) (o : O) : sets v o = (!v.isSome && o.ok) := by unfold sets; cases v <;> rfl
theorem range_val {w : World} {b off : Nat} {o : O} (h : w.rangeAt b off o.cells) : w.cell? ⟨b, off + 3, none⟩ = some (.string o.val) := h 3 _ rfl
theorem outs_one {w : World} {b off : Nat} {o : O} (hb : b < w.heap.size) (h : w.rangeAt b off o.cells) : OutsAt w (some ⟨b, off, none⟩) [o] := fun j x hj => by
  have h0 : j = 0 := by have := (List.getElem?_eq_some_iff.1 hj).1; simpa using this
  subst h0
  simp at hj
  subst hj
  exact ⟨b, off, rfl, hb, by simpa using h⟩
theorem setV_pre (g : Nat → O) (k : Nat) : setV (first (pre g k)) (g k) = first (pre g (k + 1)) := by rw [pre_next, first_snoc]; rfl

theorem sh0 : tyOf Try.prog 20 22 = some ty0 := by kernel_rfl

/-! ### The walk: the law answers true, and writes nothing that was there. -/
set_option maxRecDepth 100000
set_option maxHeartbeats 8000000
theorem walk (w : World) (ao0 : Option Addr) (ln0 cp0 : Nat) (f0 : Fits w ty0 [.slice ao0 ln0 cp0]) :
    Calls Try.prog 3 #[.slice ao0 ln0 cp0] w fun e w' => e = .returned (.bool true) ∧ Below w.heap.size w w' := by
  by_cases hs : 60 < (ln0 : Int)
  · go_enter Try.func3, Try.ntmps3
    go_wp2_with (go_at_call 6; refine (once_any _).mono ?_; rintro e w2 ⟨rfl, hn⟩)
    go_ret
    exact ⟨rfl, hn⟩
  · obtain ⟨hnil, hlc, hcp, g, hg⟩ := outs_fits f0
    clear f0
    have HG := Lib.hid hg
    clear hg
    obtain ⟨d, hd, hdr⟩ := row_out
    replace hd := Lib.hid hd
    have hpre : ∀ k, k ≤ ln0 → OutsAt w ao0 (pre g k) := fun k hk j o hj => by
      have hjk : j < k := by have := (List.getElem?_eq_some_iff.1 hj).1; rwa [pre_len] at this
      have e : o = g j := by simp [pre, hjk] at hj; exact hj.symm
      obtain ⟨b, off, h1, h2, h3, _⟩ := HG.out j (by omega)
      exact ⟨b, off, h1, h2, e ▸ h3⟩
    replace hpre := Lib.hid hpre
    go_enter Try.func3, Try.ntmps3
    go_wp2_with fail
    refine (new_any w).mono ?_
    rintro e w1 ⟨p, rfl, S1, hp, B1⟩
    go_wp2_with fail
    go_loopg [4] (ln0 + 1) (fun gg i wr => ∃ k : Nat, gg = ln0 + 1 - k ∧ k ≤ ln0 ∧ i = .int .i64 (k : Int) ∧ SAt wr p (first (pre g k)) ∧ Below w.heap.size w wr)
    case atStart => exact ⟨0, rfl, Nat.zero_le _, rfl, S1, B1⟩
    case round =>
      obtain ⟨k, hgk, hk, rfl, S, hBr⟩ := hrel
      clear S1 B1
      replace hgk := Lib.hid hgk
      have hkk : (k : Int) ≤ (ln0 : Int) := by omega
      have hao : ∀ b off, ao0 = some ⟨b, off, none⟩ → 0 < ln0 → b < w.heap.size := fun b off e h0 => by
        obtain ⟨b', off', e', h, _⟩ := HG.out 0 h0
        rw [e] at e'
        simp at e'
        omega
      have FA := first_any wr ao0 cp0 (pre g k) (fun j o hj => by
        obtain ⟨b, off, e, h1, h2⟩ := hpre.out k hk j o hj
        exact ⟨b, off, e, Nat.lt_of_lt_of_le h1 hBr.size, rangeAt_below h2 hBr (fun _ => h1)⟩) (by rw [pre_len]; omega)
      rw [pre_len] at FA
      replace FA := Lib.hid FA
      go_wp2_with fail
      refine FA.out.mono ?_
      rintro e w2 ⟨rfl, B2⟩
      have S2 := S.below B2
      have hB2 := hBr.trans (B2.mono hBr.size)
      clear S hBr
      go_wp2_with (first
        | ((with_reducible show wpList _ _ _ (⟨some 5, .alloc _, _, _, _, _⟩ :: _) _ _); refine wpList_alloc_blk rfl TO rfl _ zero_out ?_; intro W3 B3 K3 S3; clear S3)
        | ((with_reducible show wpList _ _ _ (⟨none, .store TO (.tmp 5) _, _, _, _, _⟩ :: _) _ _); refine wpList_store_blk rfl TO _ _ rfl w2.heap.size TO zeroO.cells ((first (pre g k)).getD zeroO).cells 6 rfl rfl K3 rfl ((first (pre g k)).getD zeroO).cellsN info_out ?_; intro W4 T4 K4 S4; clear S4)
        | ((with_reducible show wpList _ _ _ (⟨_, .load TO (.tmp 5), _, _, _, _⟩ :: _) _ _); refine wpList_load_blk rfl TO _ rfl w2.heap.size TO ((first (pre g k)).getD zeroO).cells d rfl K4 hd.out hdr info_out ?_))
      have s2 := S2.lt
      have S4 : SAt W4 p (first (pre g k)) := (S2.below B3).keep T4 (by simp; omega)
      have hB4 := (hB2.trans (B3.mono hB2.size)).trans (T4.below (by have := B3.size; have := hB2.size; omega) (by simp; exact hB2.size))
      clear S2 K3 B3 T4 K4 hB2
      refine (same_yes W4 p _ S4).mono ?_
      rintro e w5 ⟨rfl, B5⟩
      have S5 := S4.below B5
      have hB5 := hB4.trans (B5.mono hB4.size)
      clear S4 hB4 B5 B2
      by_cases hlt : k < ln0
      · obtain ⟨b, off, rfl, hb, hr, hvs⟩ := HG.out k hlt
        have hr5 : w5.rangeAt b (off + k * 6) (g k).cells := rangeAt_below hr hB5 (fun _ => hb)
        have cv := range_val hr5
        have hkl : (k : Int) < (ln0 : Int) := by omega
        have hkn : ((k : Int) == (ln0 : Int)) = false := beq_eq_false_iff_ne.2 (by omega)
        unfold maxLen at hvs
        by_cases h200 : 200 < ((g k).val.size : Int)
        · clear hpre FA HG
          go_wp2_with (go_at_call 6; refine (once_any _).mono ?_; rintro e w6 ⟨rfl, hn⟩)
          go_ret
          exact ⟨rfl, hB5.trans (hn.mono hB5.size)⟩
        · have h200' : decide (200 < ((g k).val.size : Int)) = false := decide_eq_false h200
          have FB := first_any w5 (some ⟨b, off + k * 6, none⟩) (cp0 - k) [g k] (outs_one (Nat.lt_of_lt_of_le hb hB5.size) hr5) (by simp)
          unfold FirstP at FB
          rw [one_isSome] at FB
          replace FB := Lib.hid FB
          have hset := sets_eq (first (pre g k)) (g k)
          have hnext := setV_pre g k
          have hset2 := fun w S => set_at w p (first (pre g k)) S (g k)
          rw [hset, hnext] at hset2
          replace hset2 := Lib.hid hset2
          clear hset hnext FA
          generalize hO : ((first [g k]).getD zeroO) = o1 at *
          replace hO := Lib.hid hO
          have okn := o1.cellsN
          generalize (g k).ok = OK at *
          generalize hV : (first (pre g k)).isSome = VS at *
          replace hV := Lib.hid hV
          go_wp2_with fail
          refine FB.out.mono ?_
          rintro e w6 ⟨rfl, B6⟩
          have S6 := S5.below B6
          have hB6 := hB5.trans (B6.mono hB5.size)
          have s6 := S6.lt
          go_wp2_with (first
            | ((with_reducible show wpList _ _ _ (⟨some 7, .alloc _, _, _, _, _⟩ :: _) _ _); refine wpList_alloc_blk rfl TO rfl _ zero_out ?_; intro W7 B7 K7 S7; clear S7)
            | ((with_reducible show wpList _ _ _ (⟨none, .store TO (.tmp 7) _, _, _, _, _⟩ :: _) _ _); refine wpList_store_blk rfl TO _ _ rfl w6.heap.size TO zeroO.cells o1.cells 6 rfl rfl K7 rfl okn info_out ?_; intro W8 T8 K8 S8; clear S8; have S8 : SAt W8 p (first (pre g k)) := (S6.below B7).keep T8 (by simp; omega); have hB8 := (hB6.trans (B7.mono hB6.size)).trans (T8.below (by have := B7.size; have := hB6.size; omega) (by simp; exact hB6.size)); have hr8 : W8.rangeAt b (off + k * 6) (g k).cells := rangeAt_below hr hB8 (fun _ => hb); clear K7 K8 B7 T8 S6 hB6)
            | ((with_reducible show wpList _ _ _ (⟨_, .load TO _, _, _, _, _⟩ :: _) _ _); refine wpList_load_mid rfl TO _ rfl b (off + k * 6) rfl (g k).cells d hr8 hd.out hdr info_out ?_))
          refine (hset2.out W8 S8).mono ?_
          rintro e w9 ⟨rfl, S9, T9⟩
          have hB9 := hB8.trans (T9.below hB8.size (by simpa using hp))
          cases OK <;> cases VS
          all_goals go_wp2_with fail
          all_goals (go_roundg (ln0 + 1 - (k + 1)))
          all_goals first | exact ⟨k + 1, rfl, by omega, by go_num, S9, hB9⟩ | (have := hgk.out; omega)
      · have hkk : k = ln0 := by omega
        subst hkk
        have hkn : ((k : Int) == (k : Int)) = true := by simp
        clear hpre FA HG
        go_wp2_with (go_at_call 6; refine (once_any _).mono ?_; rintro e w6 ⟨rfl, hn⟩)
        go_ret
        exact ⟨rfl, hB5.trans (hn.mono hB5.size)⟩

/-! ### The row. -/
set_option maxRecDepth 100000 in
theorem lifted (os : Os) (started : os.Started) (H : Type) (enc : TypeId × Value → H) :
    ReturnsInHanded {} Try.checked os 3 .any (Rows.slotsSetSpec.pre6 enc Try.prog Try.f3 Rows.slotsSetRow.domain false) (Rows.slotsSetSpec.post enc Try.prog Try.f3 false true false false) := by
  refine returnsInHanded_of_change (C := Try.checked) own started (by kernel_rfl) Try.func3
    (ChangeSpec.witness6 (enc := enc) (C := Try.checked) false ⟨#[], #[.slice none 0 0], []⟩ 8 (by kernel_rfl) (by kernel_rfl) (by kernel_rfl) (by kernel_rfl)) ?_
  intro W base args ds gs before hval0 hW hcnd _
  have hval : ∀ (j : Nat) t v, Try.f3.params[j]? = some t → args[j]? = some v → Value.okWide Try.prog W .any base t v := hval0
  have hW' := hW
  obtain ⟨p, q, hA0, hV, rfl, hfz, hnd⟩ := hW
  have hA : DataW.TrodAll enc Try.prog W 0 (fun _ => true) true Try.f3.params.toList args.toList ds p := hA0
  rw [Try.params3] at hA hval
  obtain ⟨v0, vs0, d0, ds0, p0, q0, hargs, rfl, rfl, h0, r0⟩ := trodAll_cons hA
  obtain ⟨rfl, rfl, rfl⟩ := trodAll_nil r0
  obtain rfl : args = #[v0] := by cases args; simp_all
  obtain ⟨rfl, rfl⟩ := trodVars_none hV
  have k0 := h0
  have lt0 : ∀ x ∈ p0, x.block < W.heap.size := by obtain ⟨m, hm⟩ := k0; exact DataW.trod_lt m _ _ _ hm
  have f0 := fits_of_Trod sh0 h0; obtain ⟨ao0, ln0, cp0, rfl⟩ := okWide_slice Try.underlying22 (hval 0 22 v0 rfl rfl)
  clear hA0 hval0
  refine (walk W ao0 ln0 cp0 f0).mono fun e W' ⟨he, bel⟩ => ?_
  subst he
  exact ⟨_, rfl, _, _, _, [], _, [], hW', trodAll_mk1 (shut_bool Try.underlying4 _), (trodAll_cons_mk (Below.trod laidOut (by kernel_rfl) (of_decide_eq_true (by kernel_rfl)) k0 bel lt0) trodAll_mk0), rfl, bel.frame _, fun h => by cases h⟩

theorem over : Rows.slotsSetRow.holds Try.pinned (OpenSpec.ofChange Rows.slotsSetSpec) :=
  OpenClaim.holds_of_wide 3 Try.f3 rfl rfl rfl rfl rfl rfl rfl ⟨rfl, rfl, rfl, rfl, rfl⟩ rfl rfl rfl rfl rfl (by kernel_rfl) Try.func3 (by kernel_rfl)
    (of_decide_eq_true (by kernel_rfl)) (by unfold Func.isWrapper; first | (rw [if_pos (by decide +kernel)]; kernel_rfl) | (rw [if_neg (by decide +kernel)]; exact ⟨rfl, rfl⟩))
    (fun os started H enc _ => lifted os started H enc)

/-- THE STATEMENT. -/
theorem proved : Rows.SlotsSetSaid := over
#print axioms proved
end Go.Proofs.Ytidfgighpdkfaaa.slotsSet
