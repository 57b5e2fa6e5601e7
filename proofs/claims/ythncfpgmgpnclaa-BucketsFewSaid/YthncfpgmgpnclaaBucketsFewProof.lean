/-
  Law BucketsFew answers true for every capacity, refill and list of ticks, and leaves them as they were: in any ticks at most the capacity, and a token for each refill ticks of these, are taken; one that is left alone for capacity times refill ticks is full. Conditions: none.
-/
import Derived.Test.YthncfpgmgpnclaaRows
import Derived.WalkKit
import Derived.ProofKit
import Derived.OpenShut
import Derived.ShutString
import Derived.ChangeOld
import Derived.Below
import Derived.Test.YthncfpgmgpnclaaTyped
import Derived.Test.YthncfpgmgpnclaaBucD
import Derived.Deep.DeepCutAuto
import Derived.Deep.LoopGhost
open Go.Proofs.Ythncfpgmgpnclaa.Mem Go.Proofs.Ythncfpgmgpnclaa.Buc
namespace Go.Proofs.Ythncfpgmgpnclaa.bucketsFew
open Go.ChangeShapes Go.WideShapes Go.ChangeAt Go.RowKit
open Go.ChangeMaps (open_string shut_string)
open Go.Proofs.Ythncfpgmgpnclaa.Mem
set_option linter.unusedVariables false

theorem own : ownKnob Try.prog.godebug = none := by kernel_rfl
theorem laidOut : laidOutB Try.prog = true := by kernel_rfl

def ty2 : Ty := .slice (.int .u8)
theorem info_int : (Try.prog.info? 3).map (fun i => (i.zero, i.size, i.bytes)) = some (some (.int .i64 0), 1, 8) := by kernel_rfl
/-- The byte number i, in memory. -/
theorem byte_at {w : World} {ao : Option Addr} {ln cp : Nat} (f : Fits w ty2 [.slice ao ln cp]) (i : Nat) (hi : i < ln) :
    ∃ (b o : Nat) (x : Int), ao = some ⟨b, o, none⟩ ∧ w.cell? ⟨b, o + i, none⟩ = some (.int .u8 x) ∧ (0 ≤ x ∧ x ≤ 255) ∧ b < w.heap.size := by
  rcases f with f | ⟨a, len, cap, f, h1, h2, h3⟩
  · simp at f; omega
  · simp at f
    obtain ⟨rfl, rfl, rfl⟩ := f
    obtain ⟨b, o, sp⟩ := a
    obtain ⟨hs, es, hl, hr, x, rfl, hx⟩ := h3 i hi
    simp only at hs hr
    subst hs
    have := hr 0 _ rfl
    simp [Ty.size] at this
    exact ⟨b, o, x, rfl, this, by have := bounds_u8 hx; omega, World.block_lt_of_cell? w _ this⟩

theorem sh2 : tyOf Try.prog 20 39 = some ty2 := by kernel_rfl

/-! ### The walk: the law answers true, and writes nothing that was there. -/
set_option maxRecDepth 100000
set_option maxHeartbeats 8000000
theorem walk (w : World) (a0 : Int) (a1 : Int) (ao2 : Option Addr) (ln2 cp2 : Nat) (w0 : (Lit.int .u8 a0).wf = true) (w1 : (Lit.int .u8 a1).wf = true) (f2 : Fits w ty2 [.slice ao2 ln2 cp2]) :
    Calls Try.prog 5 #[.int .u8 a0, .int .u8 a1, .slice ao2 ln2 cp2] w fun e w' => e = .returned (.bool true) ∧ Below w.heap.size w w' := by
  have hB := Below.refl w.heap.size w
  have hl := len_le f2
  obtain ⟨m0, m1⟩ := bounds_u8 w0
  obtain ⟨m2, m3⟩ := bounds_u8 w1
  by_cases hs : 150 < (ln2 : Int)
  · go_enter Try.func5, Try.ntmps5
    go_wp2_with (go_at_call 6; refine (filled_any _).mono ?_; rintro e w2 ⟨rfl, hn⟩)
    go_ret
    exact ⟨rfl, hn⟩
  · have HA := Lib.hid (fun i hi => byte_at f2 i hi)
    clear f2
    obtain ⟨i0, hi, hz0, hz1, hz2⟩ := info_parts info_int
    replace hi := Lib.hid hi
    replace hz0 := Lib.hid hz0
    replace hz1 := Lib.hid hz1
    replace hz2 := Lib.hid hz2
    go_enter Try.func5, Try.ntmps5
    go_wp2_with fail
    obtain ⟨n, hn, n1, n2⟩ : ∃ n : Int, a0 % 17 = n ∧ 0 ≤ n ∧ n ≤ 16 := ⟨_, rfl, by omega, by omega⟩
    obtain ⟨r, hr, r1, r2⟩ : ∃ r : Int, 1 + a1 % 64 = r ∧ 1 ≤ r ∧ r ≤ 64 := ⟨_, rfl, by omega, by omega⟩
    rw [hn, hr]
    clear hn hr
    refine (new_good w n r (good_iff.2 ⟨by omega, by omega, by omega, by omega⟩)).mono ?_
    rintro e w1 ⟨p, rfl, W1, hp, B1⟩
    have hpl := W1.lt
    have hs1 := B1.size
    go_wp2_with fail
    go_loopg [11, 12, 13] ln2 (fun g nowS tk i wr => ∃ (q : Nat) (v : V) (l : List Int), g = ln2 - q ∧ q ≤ ln2 ∧ i = .int .i64 (q : Int) ∧ nowS = .int .i64 v.t ∧ BAt wr p v ∧ Hid (v.c = n) ∧ Hid (v.r = r) ∧ v.t ≤ 255 * (q : Int) ∧ v.Now ∧ Hid (Few v l) ∧
      wr.ownsRow w1.heap.size 3 1 tk l.length (intsC l) ∧ l.length ≤ q ∧ Below w.heap.size w wr ∧ w1.heap.size ≤ wr.heap.size)
    case atStart => exact ⟨0, _, [], rfl, Nat.zero_le _, rfl, rfl, W1, Lib.hid rfl, Lib.hid rfl, by simp [v0], now_v0 _ _, Lib.hid (few_nil _), World.ownsRow_nil _ _ _ _, Nat.le_refl _, B1, Nat.le_refl _⟩
    case round =>
      obtain ⟨q, v, l, hg, hq, rfl, rfl, W, hc, hr, ht, hnow, hfew, hown, hll, hBr, hwz⟩ := hrel
      clear W1 B1 hB
      by_cases hlt : q < ln2
      · obtain ⟨b, o, x, rfl, hx, ⟨x0, x1⟩, hbw⟩ := HA.out q hlt
        have hx' : wr.cell? ⟨b, o + q, none⟩ = some (.int .u8 x) := (hBr.cell hbw).trans hx
        replace hg := Lib.hid hg
        have ok := W.ok
        have t0 : 0 ≤ v.t := by have := ok.s0; have := ok.st; omega
        have hq2 : (q : Int) < ln2 := by omega
        clear hx HA
        go_wp2_with fail
        refine (left_at _ p v W (v.t + x)).mono ?_
        rintro e w2 ⟨rfl, W2, T2⟩
        obtain ⟨v1, hv1⟩ : ∃ y, y = v.bring (v.t + x) := ⟨_, rfl⟩
        rw [← hv1] at W2
        rw [← hv1]
        have e1 : v1.t = v.t + x := by rw [hv1]; show v.tick _ = _; unfold V.tick; omega
        have ec : Hid (v1.c = n) := Lib.hid (by rw [hv1]; exact hc.out)
        have er : Hid (v1.r = r) := Lib.hid (by rw [hv1]; exact hr.out)
        have nw1 : v1.Now := hv1 ▸ V.now_bring ok _
        have fw : Hid (Few v1 l) := Lib.hid (hv1 ▸ few_bring hfew.out ok _)
        have ok1 := W2.ok
        have hown2 := owns_turned hown T2 (by simp; omega)
        have hB2 := hBr.trans (T2.below hBr.size (by simpa using hp))
        have hw2 := T2.size
        have t1 : 0 ≤ v1.t := by omega
        have t2 : v1.t ≤ 255 * ((q + 1 : Nat) : Int) := by omega
        have m0' := ok1.m0
        have m1' := ok1.m1
        rw [ec.out] at m1'
        have es := V.bring_same ok1 nw1 v1.t (Int.le_refl _)
        simp only [← e1]
        replace e1 := Lib.hid e1
        clear hv1 W T2 hown hBr hx' hfew hnow
        by_cases hz : v1.m = 0
        · have tks : v1.takes v1.t = false := by unfold V.takes; rw [es]; simp [hz]
          have tk : v1.take v1.t = v1 := by unfold V.take; rw [es, if_pos hz]
          have z1 : decide (n < 0) = false := decide_eq_false (by omega)
          replace es := Lib.hid es
          have T := take_at _ p v1 W2 v1.t
          rw [tks, tk] at T
          replace T := Lib.hid T
          clear tks tk
          go_wp2_with (go_at_call 12; refine T.out.mono ?_; rintro e w3 ⟨rfl, W3, T3⟩)
          go_roundg (ln2 - (q + 1))
          case measure => have := hg.out; omega
          case rel => exact ⟨q + 1, v1, l, rfl, by omega, by go_num, rfl, W3, ec, er, t2, nw1, fw, owns_turned hown2 T3 (by simp; omega), by omega, hB2.trans (T3.below hB2.size (by simpa using hp)), by have := T3.size; omega⟩
        · have tks : v1.takes v1.t = true := by unfold V.takes; rw [es]; simp [hz]
          have tk : v1.take v1.t = v1.less := by unfold V.take; rw [es, if_neg hz]
          have z1 : decide (v1.m < 0) = false := decide_eq_false (by omega)
          have z2 : decide (n < v1.m) = false := decide_eq_false (by omega)
          have z3 : decide (0 < v1.m) = true := decide_eq_true (by omega)
          have z4 : (v1.m - 1 != v1.m - 1) = false := by simp
          replace es := Lib.hid es
          have T := take_at _ p v1 W2 v1.t
          rw [tks, tk] at T
          replace T := Lib.hid T
          clear tks tk
          have fw3 := Lib.hid (few_take fw.out ok1 nw1 hz t1)
          have el : v1.less.bring v1.t = v1.less := V.less_same ok1 nw1 hz v1.t (Int.le_refl _)
          replace el := Lib.hid el
          have lnow : v1.less.Now := by have := V.now_bring (V.ok_less ok1 hz) v1.t; rw [el.out] at this; exact this
          replace hz := Lib.hid hz
          have hll' : (l.length : Int) ≤ 150 := by omega
          go_wp2_with (first
            | (go_at_call 12; refine T.out.mono ?_; rintro e w3 ⟨rfl, W3, T3⟩; have L := left_at _ p v1.less W3 v1.t; rw [el.out, show v1.less.m = v1.m - 1 from rfl] at L; replace L := Lib.hid L; have hown3 := owns_turned hown2 T3 (by simp; omega); have hB3 := hB2.trans (T3.below hB2.size (by simpa using hp)); have s3 := T3.size)
            | (go_at_call 9; refine L.out.mono ?_; rintro e w4 ⟨rfl, W4, T4⟩; have hown4 := owns_turned hown3 T4 (by simp; omega); have hB4 := hB3.trans (T4.below hB3.size (by simpa using hp)); have s4 := T4.size; clear W2 hown2 hown3 hB2 hB3 W3; have hown4a := hown4.alloc (.cells #[.int .i64 v1.t] 3))
            | (at_builtin; refine wpList_append_own _ rfl (.tmp 81) (.tmp 83) 40 rfl w1.heap.size 3 i0 (.int .i64 0) 1 8 Try.underlying40 hi.out hz0.out hz1.out hz2.out rfl (by decide) _ _ _ rfl hown4a ⟨w4.heap.size, 0, none⟩ 1 1 [.int .i64 v1.t] rfl rfl ?c1 ?c2 ?c3 ?c4 ?c5 ?_))
          case c1 =>
            intro i u hu
            match i, hu with
            | 0, hu => simp at hu; subst hu; simp [Addr.add]
          case c2 => intro u hu; simp at hu; subst hu; rfl
          case c3 => unfold maxLen; omega
          case c4 => omega
          case c5 => simp; omega
          intro v' w5 hown5 hgrow _
          have hlt5 := fun k hk => (hown4.lt k hk).1
          have hB4' : Below w.heap.size w (w4.alloc (.cells #[.int .i64 v1.t] 3)) := hB4.alloc hB4.size _
          have hB5 : Below w.heap.size w w5 := hB4'.grown hgrow (by simp; have := hB4.size; omega) (fun k hk => by have := hlt5 k hk; omega)
          have W5 : BAt w5 p v1.less := ⟨Blk.of_same (Blk.alloc W4.blk _) (hgrow.block p (by have := W4.lt; simp; omega) (fun e => by have := hlt5 p e.symm; omega)), W4.ok⟩
          have s5 := hgrow.size
          simp only [World.size_alloc] at s5
          have hown6 : w5.ownsRow w1.heap.size 3 1 v' (l ++ [v1.t]).length (intsC (l ++ [v1.t])) := by
            rw [List.length_append, List.length_singleton]
            simpa [intsC, nI] using hown5
          clear hown5 hgrow W4 hown4 hown4a hB4 hB4'
          replace hown6 := Lib.hid hown6
          go_wp2_with fail
          go_roundg (ln2 - (q + 1))
          case measure => have := hg.out; omega
          case rel => exact ⟨q + 1, v1.less, l ++ [v1.t], rfl, by omega, by go_num, rfl, W5, ec, er, t2, lnow, fw3, hown6.out, by simp; omega, hB5, by omega⟩
      · have hqq : q = ln2 := by omega
        subst hqq
        obtain ⟨hll2, hsl⟩ := owns_ints hown
        clear HA hnow hg
        have ok := W.ok
        have hll' : (l.length : Int) ≤ 150 := by omega
        have t0 : 0 ≤ v.t := by have := ok.s0; have := ok.st; omega
        have hq150 : (q : Int) ≤ 150 := by omega
        have hC := Lib.hid (fun i j T U => few_quot hfew.out ok (i := i) (j := j) (T := T) (U := U))
        have hR := Lib.hid hfew.out.c
        obtain ⟨ao, cap, hslv, hcell⟩ : ∃ ao cap, u12 = .slice ao l.length cap ∧ ∀ (i : Nat) T, l[i]? = some T → ∃ g, ao = some ⟨g, 0, none⟩ ∧ wr.cell? ⟨g, i, none⟩ = some (.int .i64 T) := by
          rcases hsl with ⟨h1, h2⟩ | ⟨g, cap, h1, _, _, _, h2⟩
          · exact ⟨none, 0, by rw [h1, h2], fun i T hi => by rw [List.getElem?_eq_none (by omega)] at hi; cases hi⟩
          · exact ⟨_, cap, h1, fun i T hi => ⟨g, rfl, h2 i T hi⟩⟩
        subst hslv
        replace hcell := Lib.hid hcell
        clear hsl hown hfew hll2
        obtain ⟨wo, rfl⟩ : ∃ wo : World, wo = wr := ⟨_, rfl⟩
        go_wp2_with fail
        go_loopg [15] l.length (fun g i wx => ∃ (a d : Nat), g = l.length - a ∧ a ≤ l.length ∧ i = .int .i64 (a : Int) ∧ wx = wo.drewN d)
        case atStart => exact ⟨0, 0, rfl, Nat.zero_le _, rfl, rfl⟩
        case round =>
          obtain ⟨a, d, hg, ha, rfl, rfl⟩ := hrel
          replace hg := Lib.hid hg
          by_cases halt : a < l.length
          · obtain ⟨T, hT⟩ : ∃ T, l[a]? = some T := ⟨_, List.getElem?_eq_getElem halt⟩
            obtain ⟨g, rfl, cT⟩ := hcell.out a T hT
            have rT := hR.out a T hT
            go_wp2_with fail
            go_loopg [16] (l.length - a) (fun g j wx => ∃ (b d : Nat), g = l.length - b ∧ a ≤ b ∧ b ≤ l.length ∧ j = .int .i64 (b : Int) ∧ wx = wo.drewN d)
            case atStart => exact ⟨a, d, rfl, Nat.le_refl _, ha, rfl, rfl⟩
            case round =>
              obtain ⟨b, d, hg2, hab, hbl, rfl, rfl⟩ := hrel
              replace hg2 := Lib.hid hg2
              by_cases hblt : b < l.length
              · obtain ⟨U, hU⟩ : ∃ U, l[b]? = some U := ⟨_, List.getElem?_eq_getElem hblt⟩
                obtain ⟨g', hg', cU⟩ := hcell.out b U hU
                obtain rfl : g = g' := by simpa using hg'
                have rU := hR.out b U hU
                obtain ⟨hq1, hTU⟩ := hC.out a b T U hab hT hU
                rw [hc.out, hr.out] at hq1
                have rz : (r == 0) = false := beq_eq_false_iff_ne.2 (by omega)
                have hdn : 0 ≤ (U - T) / r := Int.ediv_nonneg (by omega) (by omega)
                have hdl : (U - T) / r ≤ U - T := Int.ediv_le_self _ (by omega)
                have hab' : (a : Int) ≤ (b : Int) := by omega
                have hbb' : (b : Int) < (l.length : Int) := by omega
                have ht := Int.tdiv_eq_ediv_of_nonneg (a := U - T) (b := r) (by omega)
                have t1 : decide (n + (U - T) / r < (b : Int) - a + 1) = false := decide_eq_false (by omega)
                replace hT := Lib.hid hT
                replace hU := Lib.hid hU
                go_wp2_with fail
                go_quiet (fail)
                go_wp2_with fail
                go_roundg (l.length - (b + 1))
                case measure => have := hg2.out; omega
                case rel => exact ⟨b + 1, d + nq, rfl, by omega, by omega, by go_num, rfl⟩
              · have hbb : b = l.length := by omega
                subst hbb
                go_wp2_with fail
                go_roundg (l.length - (a + 1))
                case measure => have := hg.out; omega
                case rel => exact ⟨a + 1, d, rfl, by omega, by go_num, rfl⟩
          · have haa : a = l.length := by omega
            subst haa
            have hnr : 0 ≤ n * r ∧ n * r ≤ 1024 := ⟨Int.mul_nonneg n1 (by omega), by have := Int.mul_le_mul n2 r2 (by omega) (by omega); omega⟩
            have hfull := V.full ok v.t (Int.le_refl _) (by rw [hc.out, hr.out]; omega)
            rw [hc.out, hr.out] at hfull
            have L := left_at _ p v (W.drewN d) (v.t + n * r)
            rw [hfull] at L
            replace L := Lib.hid L
            replace hfull := Lib.hid hfull
            go_wp2_with (first
              | (go_at_call 9; refine L.out.mono ?_; rintro e w6 ⟨rfl, W6, T6⟩; have hB6 := (below_drewN hBr d).trans (T6.below hBr.size (by simpa using hp)))
              | (go_at_call 6; refine (filled_any _).mono ?_; rintro e w9 ⟨rfl, hn⟩))
            go_ret
            exact ⟨rfl, hB6.trans (hn.mono hB6.size)⟩

/-! ### The row. -/
set_option maxRecDepth 100000 in
theorem lifted (os : Os) (started : os.Started) (H : Type) (enc : TypeId × Value → H) :
    ReturnsInHanded {} Try.checked os 5 .any (Rows.bucketsFewSpec.pre6 enc Try.prog Try.f5 Rows.bucketsFewRow.domain false) (Rows.bucketsFewSpec.post enc Try.prog Try.f5 false true false false) := by
  refine returnsInHanded_of_change (C := Try.checked) own started (by kernel_rfl) Try.func5
    (ChangeSpec.witness6 (enc := enc) (C := Try.checked) false ⟨#[], #[.int .u8 0, .int .u8 0, .slice none 0 0], []⟩ 8 (by kernel_rfl) (by kernel_rfl) (by kernel_rfl) (by kernel_rfl)) ?_
  intro W base args ds gs before hval0 hW hcnd _
  have hval : ∀ (j : Nat) t v, Try.f5.params[j]? = some t → args[j]? = some v → Value.okWide Try.prog W .any base t v := hval0
  have hW' := hW
  obtain ⟨p, q, hA0, hV, rfl, hfz, hnd⟩ := hW
  have hA : DataW.TrodAll enc Try.prog W 0 (fun _ => true) true Try.f5.params.toList args.toList ds p := hA0
  rw [Try.params5] at hA hval
  obtain ⟨v0, vs0, d0, ds0, p0, q0, hargs, rfl, rfl, h0, r0⟩ := trodAll_cons hA
  obtain ⟨v1, vs1, d1, ds1, p1, q1, rfl, rfl, rfl, h1, r1⟩ := trodAll_cons r0
  obtain ⟨v2, vs2, d2, ds2, p2, q2, rfl, rfl, rfl, h2, r2⟩ := trodAll_cons r1
  obtain ⟨rfl, rfl, rfl⟩ := trodAll_nil r2
  obtain rfl : args = #[v0, v1, v2] := by cases args; simp_all
  obtain ⟨rfl, rfl⟩ := trodVars_none hV
  have k0 := h0
  have lt0 : ∀ x ∈ p0, x.block < W.heap.size := by obtain ⟨m, hm⟩ := k0; exact DataW.trod_lt m _ _ _ hm
  obtain ⟨a0, rfl, rfl, rfl, w0⟩ := open_int Try.underlying5 (hval 0 5 v0 rfl rfl) h0
  have k1 := h1
  have lt1 : ∀ x ∈ p1, x.block < W.heap.size := by obtain ⟨m, hm⟩ := k1; exact DataW.trod_lt m _ _ _ hm
  obtain ⟨a1, rfl, rfl, rfl, w1⟩ := open_int Try.underlying5 (hval 1 5 v1 rfl rfl) h1
  have k2 := h2
  have lt2 : ∀ x ∈ p2, x.block < W.heap.size := by obtain ⟨m, hm⟩ := k2; exact DataW.trod_lt m _ _ _ hm
  have f2 := fits_of_Trod sh2 h2; obtain ⟨ao2, ln2, cp2, rfl⟩ := okWide_slice Try.underlying39 (hval 2 39 v2 rfl rfl)
  clear hA0 hval0
  refine (walk W a0 a1 ao2 ln2 cp2 w0 w1 f2).mono fun e W' ⟨he, bel⟩ => ?_
  subst he
  exact ⟨_, rfl, _, _, _, [], _, [], hW', trodAll_mk1 (shut_bool Try.underlying4 _), (trodAll_cons_mk (Below.trod laidOut (by kernel_rfl) (of_decide_eq_true (by kernel_rfl)) k0 bel lt0) (trodAll_cons_mk (Below.trod laidOut (by kernel_rfl) (of_decide_eq_true (by kernel_rfl)) k1 bel lt1) (trodAll_cons_mk (Below.trod laidOut (by kernel_rfl) (of_decide_eq_true (by kernel_rfl)) k2 bel lt2) trodAll_mk0))), rfl, bel.frame _, fun h => by cases h⟩

theorem over : Rows.bucketsFewRow.holds Try.pinned (OpenSpec.ofChange Rows.bucketsFewSpec) :=
  OpenClaim.holds_of_wide 5 Try.f5 rfl rfl rfl rfl rfl rfl rfl ⟨rfl, rfl, rfl, rfl, rfl⟩ rfl rfl rfl rfl rfl (by kernel_rfl) Try.func5 (by kernel_rfl)
    (of_decide_eq_true (by kernel_rfl)) (by unfold Func.isWrapper; first | (rw [if_pos (by decide +kernel)]; kernel_rfl) | (rw [if_neg (by decide +kernel)]; exact ⟨rfl, rfl⟩))
    (fun os started H enc _ => lifted os started H enc)

/-- THE STATEMENT. -/
theorem proved : Rows.BucketsFewSaid := over
#print axioms proved
end Go.Proofs.Ythncfpgmgpnclaa.bucketsFew
