/-
  Law RingsPlay answers true for every capacity and every list of acts, and leaves them as they were: whatever is done with a ring, each answer, and all frames, are the document's. Conditions: none.
-/
import Derived.Test.YtgboealiclcgkaaRows
import Derived.WalkKit
import Derived.ProofKit
import Derived.OpenShut
import Derived.ShutString
import Derived.ChangeOld
import Derived.Below
import Derived.Test.YtgboealiclcgkaaTyped
import Derived.Test.YtgboealiclcgkaaRingsU
import Derived.Test.YtgboealiclcgkaaRingsG
import Derived.Deep.DeepCutAuto
open Go.Proofs.Ytgboealiclcgkaa.Mem Go.Proofs.Ytgboealiclcgkaa.Rings
attribute [local go_sem ↓] execLoadF
attribute [local go_sem] loadF
namespace Go.Proofs.Ytgboealiclcgkaa.ringsPlay
open Go.ChangeShapes Go.WideShapes Go.ChangeAt Go.RowKit
open Go.ChangeMaps (open_string shut_string)
open Go.Proofs.Ytgboealiclcgkaa.Mem
set_option linter.unusedVariables false

theorem own : ownKnob Try.prog.godebug = none := by kernel_rfl
theorem laidOut : laidOutB Try.prog = true := by kernel_rfl

def ty1 : Ty := .slice actTy
def actZ : List Value := .int .u8 0 :: (zeroC ++ [.int .i64 0])
theorem size_act : (Try.prog.info? 44).map (·.size) = some 31 := by kernel_rfl
theorem row_act : ∃ d, Try.prog.underlying 44 = some d ∧ d.isRow = true := ⟨_, Try.underlying44, rfl⟩
theorem zero_act : ∀ w, (zeroValue 44).run Try.prog w = .ok (.agg actZ.toArray) w := fun w => by kernel_rfl
theorem ring_keep1 {w w' : World} {p q n b : Nat} {l : List Fr} {I : List Nat} (h : RingAt w p q n l I) (hT : Turned [b] w w') (hp : b ≠ p) (hq : b ≠ q) (hI : b ∉ I) : RingAt w' p q n l I := by
  have hl := h.lt
  refine h.same (fun c hc => hT.block c (hc.elim (fun e => e ▸ hl.1) fun hc => hc.elim (fun e => e ▸ hl.2.1) (hl.2.2 c)) ?_) hT.size
  simp only [List.mem_singleton]
  rintro rfl
  rcases hc with e | e | e
  · exact hp e
  · exact hq e
  · exact hI e
theorem ref_keep1 {w w' : World} {p n b : Nat} {l : List Fr} {I : List Nat} (h : RefAt w p n l I) (hT : Turned [b] w w') (hp : b ≠ p) (hI : b ∉ I) : RefAt w' p n l I := by
  refine h.same (fun c hc => hT.block c (hc.elim (fun e => e ▸ h.plt) (h.lt c)) ?_) hT.size
  simp only [List.mem_singleton]
  rintro rfl
  rcases hc with e | e
  · exact hp e
  · exact hI e
theorem ref_keep2 {w w' : World} {p n a b : Nat} {l : List Fr} {I : List Nat} (h : RefAt w p n l I) (hT : Turned [a, b] w w') (ha : a ≠ p) (hb : b ≠ p) (haI : a ∉ I) (hbI : b ∉ I) : RefAt w' p n l I := by
  refine h.same (fun c hc => hT.block c (hc.elim (fun e => e ▸ h.plt) (h.lt c)) ?_) hT.size
  simp only [List.mem_cons, List.not_mem_nil, or_false]
  rintro (rfl | rfl)
  · rcases hc with e | e
    · exact ha e
    · exact haI e
  · rcases hc with e | e
    · exact hb e
    · exact hbI e
theorem fr_keep1 {w w' : World} {cs : List Value} {x : Fr} {n b : Nat} {J : List Nat} (h : FrAt w cs x n J) (ok : FrOk x n) (hT : Turned [b] w w') (hJ : ∀ c ∈ J, c < w.heap.size ∧ c ≠ b) : FrAt w' cs x n J :=
  h.same ok (fun c hc => hT.block c (hJ c hc).1 (by simpa using (hJ c hc).2))
theorem below_turned1 {w a c : World} {b : Nat} (h : Below w.heap.size w a) (hT : Turned [b] a c) (hb : w.heap.size ≤ b) : Below w.heap.size w c := h.trans (hT.below h.size (by simpa using hb))
theorem below_turned2 {w a c : World} {b b' : Nat} (h : Below w.heap.size w a) (hT : Turned [b, b'] a c) (hb : w.heap.size ≤ b) (hb' : w.heap.size ≤ b') : Below w.heap.size w c := h.trans (hT.below h.size (by simpa using ⟨hb, hb'⟩))
theorem few_snoc {l : List Fr} (h : Few l) (x : FrV) (hx : x.ms.length ≤ 10) : Few (l ++ [x.fr]) := fun y hy => (List.mem_append.1 hy).elim (h y) (fun h => by simp at h; exact ⟨x, h, hx⟩)
theorem ref_nil {w : World} {p n : Nat} {l : List Fr} {I : List Nat} (h : RefAt w p n l I) : ∃ L, w.cell? ⟨p, 1, none⟩ = some L ∧ w.frozen? ⟨p, 1, none⟩ = false ∧ RefAt (w.setCell ⟨p, 1, none⟩ (.slice none 0 0)) p n [] [] ∧ Turned [p] w (w.setCell ⟨p, 1, none⟩ (.slice none 0 0)) := by
  obtain ⟨⟨L, cs, h1, _⟩, _⟩ := h
  exact ⟨L, h1.cell 1, h1.free 1, ⟨⟨.slice none 0 0, [], h1.set 1 _, ⟨none, 0, rfl, Nat.le_refl _, by simp [maxLen], fun _ => ⟨rfl, rfl, rfl⟩, fun _ h => by cases h⟩, rfl, by simp, fun j x hx => by simp at hx⟩, by simp, by simp⟩, (⟨rfl, rfl, rfl, Nat.le_refl _, fun _ _ _ => rfl⟩ : Turned [p] w w).setCell (.inl (by simp)) _⟩
def PushQ (w : World) (p n : Nat) (l : List Fr) (I : List Nat) (x : Fr) (e : Ending) (w' : World) : Prop :=
  e = .returned (.bool (decide (l.length < n))) ∧ ∃ I', RefAt w' p n (if l.length < n then l ++ [x] else l) I' ∧ (∀ b ∈ I', b ∈ I ∨ w.heap.size ≤ b) ∧ Turned [p] w w'
theorem rpush_any (w : World) (p n : Nat) (l : List Fr) (I : List Nat) (h : RefAt w p n l I) (hl : l.length ≤ n) (hn : n ≤ 64) (fc : List Value) (x : Fr) (J : List Nat) (hx : FrAt w fc x x.n J) (ok : FrOk x x.n) (hJ : ∀ b ∈ J, b < w.heap.size) :
    Calls Try.prog 18 #[.pointer (some ⟨p, 0, none⟩), .agg fc.toArray] w (PushQ w p n l I x) := by
  by_cases h1 : l.length < n
  · refine (rpush_room w p n l I h h1 hn fc x J hx ok hJ).mono ?_
    rintro e w' ⟨rfl, I', h2, h3, h4⟩
    rw [if_neg (by omega)] at h2
    refine ⟨ret_bool (by rw [decide_eq_decide]; omega), I', ?_, h3, h4⟩
    rw [if_pos h1]; exact h2
  · refine (rpush_full w p n l I h (by omega) fc x).mono ?_
    rintro e w' ⟨rfl, I', h2, h3, h4⟩
    rw [if_pos (by omega)] at h2
    refine ⟨ret_bool (by rw [decide_eq_decide]; omega), I', ?_, h3, h4⟩
    rw [if_neg h1]; exact h2

theorem sh1 : tyOf Try.prog 20 22 = some ty1 := by kernel_rfl

/-! ### The walk: the law answers true, and writes nothing that was there. -/
set_option maxRecDepth 100000
set_option maxHeartbeats 8000000
theorem walk (w : World) (a0 : Int) (ao1 : Option Addr) (ln1 cp1 : Nat) (w0 : (Lit.int .i64 a0).wf = true) (f1 : Fits w ty1 [.slice ao1 ln1 cp1]) :
    Calls Try.prog 3 #[.int .i64 a0, .slice ao1 ln1 cp1] w fun e w' => e = .returned (.bool true) ∧ Below w.heap.size w w' := by
  have hB := Below.refl w.heap.size w
  have hl : (ln1 : Int) ≤ 9223372036854775807 := by
    rcases f1 with f | ⟨a, len, cap, f, h1, h2, _⟩
    · simp at f; omega
    · simp at f; unfold maxLen at h2; omega
  have HA := Lib.hid (fun i hi => act_at f1 i hi)
  go_enter Try.func3, Try.ntmps3
  go_wp2_with fail
  refine (great_any w ao1 ln1 cp1 200 f1).mono ?_
  rintro e w1 ⟨g, rfl, hgf, B1⟩
  replace hB := bel hB B1
  clear f1
  cases g with
  | true =>
    go_wp2_with (go_at_call 7; refine (ringed_any _).mono ?_; rintro e w9 ⟨rfl, hn⟩)
    go_ret
    exact ⟨rfl, bel hB hn⟩
  | false =>
    obtain ⟨h200, hfew⟩ := hgf rfl
    replace hfew := Lib.hid hfew
    by_cases hcap : a0 < 1 ∨ 64 < a0
    · go_wp2_with (first
        | (go_at_call 8; refine (new_bad a0 _ hcap).mono ?_; rintro e w2 ⟨rfl, rfl⟩)
        | (go_at_call 9; refine (rnew_bad a0 _ hcap).mono ?_; rintro e w3 ⟨rfl, rfl⟩)
        | (go_at_call 7; refine (ringed_any _).mono ?_; rintro e w9 ⟨rfl, hn⟩))
      go_ret
      exact ⟨rfl, bel hB hn⟩
    · obtain ⟨n, rfl⟩ := Int.eq_ofNat_of_zero_le (show 0 ≤ a0 by omega)
      have n1 : 1 ≤ n := by omega
      have n2 : n ≤ 64 := by omega
      clear hcap
      go_wp2_with fail
      refine (new_good n w1 n1 n2).mono ?_
      rintro e w2 ⟨p, q, rfl, R, hp, hq, B2⟩
      go_wp2_with fail
      refine (rnew_good n w2 n1 n2).mono ?_
      rintro e w3 ⟨p2, rfl, Q, hp2, B3⟩
      have hB3 : Below w.heap.size w w3 := (hB.trans (B2.mono hB.size)).trans (B3.mono (by have := hB.size; have := B2.size; omega))
      have hRl := R.lt
      have R3 := R.below B3
      have hbp : w.heap.size ≤ p ∧ w.heap.size ≤ q ∧ w.heap.size ≤ p2 ∧ p ≠ p2 ∧ q ≠ p2 := by have := hB.size; have := B2.size; omega
      go_wp2_with fail
      go_loopw [9] (fun i wr => ∃ (k : Nat) (l : List Fr) (I I2 : List Nat), k ≤ ln1 ∧ i = .int .i64 (k : Int) ∧ RingAt wr p q n l I ∧ RefAt wr p2 n l I2 ∧ Few l ∧ (p2 ∉ I ∧ p ∉ I2 ∧ q ∉ I2) ∧ Below w.heap.size w wr) (fun i _ => ln1 - (intOf i).toNat)
      case atStart => exact ⟨0, [], [], [], Nat.zero_le _, rfl, R3, Q, (fun x hx => by simp at hx), by simp, hB3⟩
      case round =>
        obtain ⟨k, l, I, I2, hk, rfl, R, Q, hfl, hsep, hBr⟩ := hrel
        clear R3 hB3 B3 B2 B1 hRl hB hp hq hp2
        obtain ⟨bp, bq, bp2, np, nq⟩ := hbp
        by_cases hlt : k < ln1
        · obtain ⟨b, o, kk, nn, fc, x, IA, rfl, hr, hkw, hnw, hx, hIA, hml, hbw⟩ := HA.out k hlt
          have hx10 : x.ms.length ≤ 10 := by have := hfew.out k hlt; omega
          have hkb := bounds_u8 hkw
          have hfcl := FrOk.of_at hx
          have okX := x.ok (by omega)
          have hal : (Value.int .u8 kk :: (fc ++ [nI nn])).length = 31 := by simp [hfcl]
          have hone : ∀ u ∈ (Value.int .u8 kk :: (fc ++ [nI nn])), u.oneCell' = true := fun u hu => by
            have := (fr_cells hx okX).2 u
            simp at hu
            rcases hu with rfl | hu | rfl
            · rfl
            · exact this hu
            · rfl
          have hcA : CellsN 31 (Value.int .u8 kk :: (fc ++ [nI nn])).toArray := ⟨by simpa using hal, all_oneCell_toArray hone⟩
          have hrA : wr.rangeAt b (o + k * 31) (Value.int .u8 kk :: (fc ++ [nI nn])) := rangeAt_below hr hBr (fun _ => hbw)
          have a30 : (Value.int .u8 kk :: (fc ++ [nI nn]))[30]? = some (.int .i64 nn) := by rw [List.getElem?_cons_succ, List.getElem?_append_right (by omega), hfcl]; rfl
          have afc : ∀ j u, fc[j]? = some u → (Value.int .u8 kk :: (fc ++ [nI nn]))[1 + j]? = some u := fun j u hu => by
            rw [show 1 + j = j + 1 by omega, List.getElem?_cons_succ, List.getElem?_append_left (List.getElem?_eq_some_iff.1 hu).1]; exact hu
          have a0' : (Value.int .u8 kk :: (fc ++ [nI nn]))[0]? = some (.int .u8 kk) := rfl
          generalize (Value.int .u8 kk :: (fc ++ [nI nn])) = acs at *
          obtain ⟨d', hd', hdr'⟩ := row_act
          obtain ⟨d, hd, hdr⟩ := row_frame
          replace hd := Lib.hid hd
          replace hd' := Lib.hid hd'
          replace hrA := Lib.hid hrA
          replace hcA := Lib.hid hcA
          replace afc := Lib.hid afc
          replace a0' := Lib.hid a0'
          replace a30 := Lib.hid a30
          replace hml := Lib.hid hml
          have hIlt := R.lt
          have hQlt := Q.lt
          have hQp := Q.plt
          have hln := R.len
          have hcZ : CellsN 29 zeroC.toArray := fr_cellsN (zero_at w) zero_ok
          replace hcZ := Lib.hid hcZ
          clear hr hone hkw hnw
          go_upto_region 13 with (first
            | ((with_reducible show wpList _ _ _ (⟨_, .load 44 _, _, _, _, _⟩ :: _) _ _); refine wpList_load_mid rfl 44 _ rfl b (o + k * 31) rfl acs d' hrA.out hd'.out hdr' (by rw [hal]; exact size_act) ?_)
            | ((with_reducible show wpList _ _ _ (⟨some 10, .alloc _, _, _, _, _⟩ :: _) _ _); refine wpList_alloc_blk rfl 44 rfl actZ zero_act ?_; intro W10 B10 K10 S10; clear S10; have l10 := K10.lt)
            | ((with_reducible show wpList _ _ _ (⟨none, .store 44 (.tmp 10) _, _, _, _, _⟩ :: _) _ _); refine wpList_store_blk rfl 44 _ _ rfl wr.heap.size 44 actZ acs 31 rfl rfl K10 rfl hcA.out size_act ?_; intro W11 T11 K11 S11; clear S11)
            | ((with_reducible show wpList _ _ _ (⟨some 11, .alloc _, _, _, _, _⟩ :: _) _ _); refine wpList_alloc_blk rfl 42 rfl zeroC zero_val ?_; intro W12 B12 K12 S12; clear S12; have l12 := K12.lt)
            | ((with_reducible show wpList _ _ _ (⟨some 12, .alloc _, _, _, _, _⟩ :: _) _ _); refine wpList_alloc_blk rfl 42 rfl zeroC zero_val ?_; intro W13 B13 K13 S13; clear S13; have l13 := K13.lt)
            | ((with_reducible show wpList _ _ _ (⟨none, .store 42 (.tmp 11) _, _, _, _, _⟩ :: _) _ _); refine wpList_store_blk rfl 42 _ _ rfl W11.heap.size 42 zeroC zeroC 29 rfl rfl (K12.below B13 l12) rfl hcZ.out info_frame ?_; intro W14 T14 K14 S14; clear S14)
            | ((with_reducible show wpList _ _ _ (⟨none, .store 42 (.tmp 12) _, _, _, _, _⟩ :: _) _ _); refine wpList_store_blk rfl 42 _ _ rfl W12.heap.size 42 zeroC zeroC 29 rfl rfl (T14.blk K13 (by simp; omega)) rfl hcZ.out info_frame ?_; intro W15 T15 K15 S15; clear S15))
          have t10 := B10.size
          have t11 := T11.size
          have t12 := B12.size
          have t13 := B13.size
          have t14 := T14.size
          have t15 := T15.size
          have lb := K11.lt
          have KA : Blk W15 wr.heap.size 44 acs := T15.blk (T14.blk ((K11.below B12 lb).below B13 (by omega)) (by simp; omega)) (by simp; omega)
          have KB : Blk W15 W11.heap.size 42 zeroC := T15.blk K14 (by simp; omega)
          have BS : Below wr.heap.size wr W15 := ((((B10.trans (T11.below t10 (by simp))).trans (B12.mono (by omega))).trans (B13.mono (by omega))).trans (T14.below (by omega) (by simp; omega))).trans (T15.below (by omega) (by simp; omega))
          have l15 := K15.lt
          have R15 := R.below BS
          have Q15 := Q.below BS
          have hBW : Below w.heap.size w W15 := hBr.trans (BS.mono hBr.size)
          have c0 : W15.cell? ⟨wr.heap.size, 0, none⟩ = some (.int .u8 kk) := (KA.cell 0).trans a0'.out
          have hnum : ∀ W, Blk W wr.heap.size 44 acs → W.cell? ⟨wr.heap.size, 30, none⟩ = some (.int .i64 nn) := fun W h => (h.cell 30).trans a30.out
          have hrow : ∀ W, Blk W wr.heap.size 44 acs → W.rangeAt wr.heap.size 1 fc := fun W h j u hu => (h.cell _).trans (afc.out j u hu)
          have l12' : W11.heap.size < W12.heap.size := l12
          have nI : ∀ b, wr.heap.size ≤ b → b ∉ I := fun b hb hm => by have := hIlt.2.2 b hm; omega
          have nQ : ∀ b, wr.heap.size ≤ b → b ∉ I2 := fun b hb hm => by have := hQlt b hm; omega
          replace hnum := Lib.hid hnum
          replace hrow := Lib.hid hrow
          replace nI := Lib.hid nI
          replace nQ := Lib.hid nQ
          obtain ⟨hip, hiq, hiI⟩ := hIlt
          have wsz := hBr.size
          have hx15 : FrAt W15 fc x.fr x.fr.n IA := hx.same okX (fun b hb => hBW.block b (hIA b hb))
          obtain ⟨sp2, spp, spq⟩ := hsep
          clear K10 K11 K12 K13 K14 B10 B12 B13 T11 T14 T15 R Q HA hfew hrA hcA afc a0' a30 hml l10 l13 t10 t11 t12 t13 t14 t15 BS l12
          generalize W11.heap.size = b11 at *
          generalize W12.heap.size = b12 at *
          clear W10 W11 W12 W13 W14
          have hks : kk % 10 = 4 ∨ kk % 10 = 5 ∨ kk % 10 = 6 ∨ kk % 10 = 7 ∨ kk % 10 = 8 ∨ kk % 10 = 9 ∨ kk % 10 ≤ 3 := by omega
          rcases hks with ek | ek | ek | ek | ek | ek | ek
          · go_wp2_with fail
            refine (pop_at W15 p q n l I R15).mono ?_
            rintro e V1 ⟨c1, J1, rfl, F1, hJ1, R1, T1⟩
            obtain ⟨y, hy, hy10⟩ := few_at hfl 0
            have okY := y.ok (by omega)
            rw [hy] at F1
            generalize hSe : (atS l 0).isSome = S at *
            replace hSe := Lib.hid hSe
            replace hy := Lib.hid hy
            have hc1 := Lib.hid (fr_cellsN F1 okY)
            have hl1 := (fr_cells F1 okY).1
            have s1 := T1.size
            have KB1 := T1.blk KB (by simp; omega)
            have KC1 := T1.blk K15 (by simp; omega)
            have Q1 := ref_keep2 Q15 T1 np nq spp spq
            go_wp2_with ((with_reducible show wpList _ _ _ (⟨none, .store 42 (.tmp 11) _, _, _, _, _⟩ :: _) _ _); refine wpList_store_blk rfl 42 _ _ rfl b11 42 zeroC c1 29 rfl rfl KB1 rfl hc1.out info_frame ?_; intro V2 T2 KV2 SV2; clear SV2)
            have s2 := T2.size
            have KC2 := T2.blk KC1 (by simp; omega)
            refine (rpop_any V2 p2 n l I2 (ref_keep1 Q1 T2 (by omega) (nQ.out _ (by omega)))).mono ?_
            rintro e V3 ⟨c2, J2, rfl, F2, hJ2, Q3, T3⟩
            rw [hy.out] at F2
            rw [hSe.out]
            have s3 := T3.size
            have hc2 := Lib.hid (fr_cellsN F2 okY)
            have hl2 := (fr_cells F2 okY).1
            have KC3 := T3.blk KC2 (by simp; omega)
            have KB3 := T3.blk KV2 (by simp; omega)
            go_wp2_with ((with_reducible show wpList _ _ _ (⟨none, .store 42 (.tmp 12) _, _, _, _, _⟩ :: _) _ _); refine wpList_store_blk rfl 42 _ _ rfl b12 42 zeroC c2 29 rfl rfl KC3 rfl hc2.out info_frame ?_; intro V4 T4 KV4 SV4; clear SV4)
            have s4 := T4.size
            have KBV := T4.blk KB3 (by simp; omega)
            have KCV := KV4
            have RV := ring_keep1 (ring_keep1 (ring_keep1 R1 T2 (by omega) (by omega) (nI.out _ (by omega))) T3 (Ne.symm np) (Ne.symm nq) sp2) T4 (by omega) (by omega) (nI.out _ (by omega))
            have QV := ref_keep1 Q3 T4 (by omega) (nQ.out _ (by omega))
            have j2' : ∀ b ∈ J2, b < wr.heap.size := fun b hb => hQlt b (hJ2 b hb)
            have FV1 := fr_keep1 (fr_keep1 (fr_keep1 F1 okY T2 (fun b hb => by have := hJ1 b hb; omega)) okY T3 (fun b hb => by have := hJ1 b hb; omega)) okY T4 (fun b hb => by have := hJ1 b hb; omega)
            have FV2 := fr_keep1 F2 okY T4 (fun b hb => by have := j2' b hb; omega)
            have j1 : ∀ b ∈ J1, b < V4.heap.size := fun b hb => by have := hJ1 b hb; omega
            have j2 : ∀ b ∈ J2, b < V4.heap.size := fun b hb => by have := j2' b hb; omega
            have hV : Below w.heap.size w V4 := below_turned1 (below_turned1 (below_turned1 (below_turned2 hBW T1 bp bq) T2 (by omega)) T3 bp2) T4 (by omega)
            have fV : Few l.tail := fun z hz => hfl z (List.mem_of_mem_tail hz)
            have sV : p2 ∉ I ∧ p ∉ I2 ∧ q ∉ I2 := ⟨sp2, spp, spq⟩
            have r1 := loadF V4 b11 0 (KBV.rows hl1).1
            have r2 := loadF V4 b12 0 (KCV.rows hl2).1
            rw [(KBV.rows hl1).2] at r1
            rw [(KCV.rows hl2).2] at r2
            go_wp2_with fail
            try (rw [r1]; go_wp2_with fail)
            refine (same_yes V4 c1 c2 y J1 J2 FV1 FV2 j1 j2 (by omega)).mono ?_
            rintro e X1 ⟨rfl, BX1⟩
            go_wp2_with fail
            refine (alike_yes X1 p q n p2 l.tail I I2 (RV.below BX1) (QV.below BX1) fV n2).mono ?_
            rintro e X2 ⟨rfl, BX2⟩
            go_wp2_with fail
            go_roundw
            case rel => exact ⟨k + 1, l.tail, I, I2, by omega, by go_num, (RV.below BX1).below BX2, (QV.below BX1).below BX2, fV, sV, (hV.trans (BX1.mono hV.size)).trans (BX2.mono (by have := hV.size; have := BX1.size; omega))⟩
            case measure => simp [intOf]; omega
          · go_wp2_with fail
            refine (pop_at W15 p q n l I R15).mono ?_
            rintro e V1 ⟨c1, J1, rfl, F1, hJ1, R1, T1⟩
            obtain ⟨y, hy, hy10⟩ := few_at hfl 0
            have okY := y.ok (by omega)
            rw [hy] at F1
            generalize hSe : (atS l 0).isSome = S at *
            replace hSe := Lib.hid hSe
            replace hy := Lib.hid hy
            have hc1 := Lib.hid (fr_cellsN F1 okY)
            have hl1 := (fr_cells F1 okY).1
            have s1 := T1.size
            have KB1 := T1.blk KB (by simp; omega)
            have KC1 := T1.blk K15 (by simp; omega)
            have Q1 := ref_keep2 Q15 T1 np nq spp spq
            go_wp2_with ((with_reducible show wpList _ _ _ (⟨none, .store 42 (.tmp 11) _, _, _, _, _⟩ :: _) _ _); refine wpList_store_blk rfl 42 _ _ rfl b11 42 zeroC c1 29 rfl rfl KB1 rfl hc1.out info_frame ?_; intro V2 T2 KV2 SV2; clear SV2)
            have s2 := T2.size
            have KC2 := T2.blk KC1 (by simp; omega)
            refine (rpop_any V2 p2 n l I2 (ref_keep1 Q1 T2 (by omega) (nQ.out _ (by omega)))).mono ?_
            rintro e V3 ⟨c2, J2, rfl, F2, hJ2, Q3, T3⟩
            rw [hy.out] at F2
            rw [hSe.out]
            have s3 := T3.size
            have hc2 := Lib.hid (fr_cellsN F2 okY)
            have hl2 := (fr_cells F2 okY).1
            have KC3 := T3.blk KC2 (by simp; omega)
            have KB3 := T3.blk KV2 (by simp; omega)
            go_wp2_with ((with_reducible show wpList _ _ _ (⟨none, .store 42 (.tmp 12) _, _, _, _, _⟩ :: _) _ _); refine wpList_store_blk rfl 42 _ _ rfl b12 42 zeroC c2 29 rfl rfl KC3 rfl hc2.out info_frame ?_; intro V4 T4 KV4 SV4; clear SV4)
            have s4 := T4.size
            have KBV := T4.blk KB3 (by simp; omega)
            have KCV := KV4
            have RV := ring_keep1 (ring_keep1 (ring_keep1 R1 T2 (by omega) (by omega) (nI.out _ (by omega))) T3 (Ne.symm np) (Ne.symm nq) sp2) T4 (by omega) (by omega) (nI.out _ (by omega))
            have QV := ref_keep1 Q3 T4 (by omega) (nQ.out _ (by omega))
            have j2' : ∀ b ∈ J2, b < wr.heap.size := fun b hb => hQlt b (hJ2 b hb)
            have FV1 := fr_keep1 (fr_keep1 (fr_keep1 F1 okY T2 (fun b hb => by have := hJ1 b hb; omega)) okY T3 (fun b hb => by have := hJ1 b hb; omega)) okY T4 (fun b hb => by have := hJ1 b hb; omega)
            have FV2 := fr_keep1 F2 okY T4 (fun b hb => by have := j2' b hb; omega)
            have j1 : ∀ b ∈ J1, b < V4.heap.size := fun b hb => by have := hJ1 b hb; omega
            have j2 : ∀ b ∈ J2, b < V4.heap.size := fun b hb => by have := j2' b hb; omega
            have hV : Below w.heap.size w V4 := below_turned1 (below_turned1 (below_turned1 (below_turned2 hBW T1 bp bq) T2 (by omega)) T3 bp2) T4 (by omega)
            have fV : Few l.tail := fun z hz => hfl z (List.mem_of_mem_tail hz)
            have sV : p2 ∉ I ∧ p ∉ I2 ∧ q ∉ I2 := ⟨sp2, spp, spq⟩
            have r1 := loadF V4 b11 0 (KBV.rows hl1).1
            have r2 := loadF V4 b12 0 (KCV.rows hl2).1
            rw [(KBV.rows hl1).2] at r1
            rw [(KCV.rows hl2).2] at r2
            go_wp2_with fail
            try (rw [r1]; go_wp2_with fail)
            refine (same_yes V4 c1 c2 y J1 J2 FV1 FV2 j1 j2 (by omega)).mono ?_
            rintro e X1 ⟨rfl, BX1⟩
            go_wp2_with fail
            refine (alike_yes X1 p q n p2 l.tail I I2 (RV.below BX1) (QV.below BX1) fV n2).mono ?_
            rintro e X2 ⟨rfl, BX2⟩
            go_wp2_with fail
            go_roundw
            case rel => exact ⟨k + 1, l.tail, I, I2, by omega, by go_num, (RV.below BX1).below BX2, (QV.below BX1).below BX2, fV, sV, (hV.trans (BX1.mono hV.size)).trans (BX2.mono (by have := hV.size; have := BX1.size; omega))⟩
            case measure => simp [intOf]; omega
          · go_wp2_with fail
            refine (front_at W15 p q n l I R15).mono ?_
            rintro e V1 ⟨c1, J1, rfl, F1, hJ1, B1'⟩
            obtain ⟨y, hy, hy10⟩ := few_at hfl (0)
            have okY := y.ok (by omega)
            rw [hy] at F1
            generalize hSe : (atS l (0)).isSome = S at *
            replace hSe := Lib.hid hSe
            replace hy := Lib.hid hy
            have hc1 := Lib.hid (fr_cellsN F1 okY)
            have hl1 := (fr_cells F1 okY).1
            have s1 := B1'.size
            have KA1 := KA.below B1' (by omega)
            have KB1 := KB.below B1' (by omega)
            have KC1 := K15.below B1' (by omega)
            have Q1 := Q15.below B1'
            have R1 := R15.below B1'
            have lA1 := KA1.lt
            go_wp2_with ((with_reducible show wpList _ _ _ (⟨none, .store 42 (.tmp 11) _, _, _, _, _⟩ :: _) _ _); refine wpList_store_blk rfl 42 _ _ rfl b11 42 zeroC c1 29 rfl rfl KB1 rfl hc1.out info_frame ?_; intro V2 T2 KV2 SV2; clear SV2; have n30 := hnum.out V2 (T2.blk KA1 (by simp; omega)))
            have s2 := T2.size
            have KC2 := T2.blk KC1 (by simp; omega)
            refine (rat_any V2 p2 n l I2 (ref_keep1 Q1 T2 (by omega) (nQ.out _ (by omega))) (0)).mono ?_
            rintro e V3 ⟨c2, J2, rfl, F2, hJ2, B3'⟩
            rw [hy.out] at F2
            rw [hSe.out]
            have s3 := B3'.size
            have hc2 := Lib.hid (fr_cellsN F2 okY)
            have hl2 := (fr_cells F2 okY).1
            have KC3 := KC2.below B3' (by omega)
            have KB3 := KV2.below B3' (by omega)
            go_wp2_with ((with_reducible show wpList _ _ _ (⟨none, .store 42 (.tmp 12) _, _, _, _, _⟩ :: _) _ _); refine wpList_store_blk rfl 42 _ _ rfl b12 42 zeroC c2 29 rfl rfl KC3 rfl hc2.out info_frame ?_; intro V4 T4 KV4 SV4; clear SV4)
            have s4 := T4.size
            have KBV := T4.blk KB3 (by simp; omega)
            have KCV := KV4
            have RV := ring_keep1 ((ring_keep1 R1 T2 (by omega) (by omega) (nI.out _ (by omega))).below B3') T4 (by omega) (by omega) (nI.out _ (by omega))
            have QV := ref_keep1 ((ref_keep1 Q1 T2 (by omega) (nQ.out _ (by omega))).below B3') T4 (by omega) (nQ.out _ (by omega))
            have j2' : ∀ b ∈ J2, b < wr.heap.size := fun b hb => hQlt b (hJ2 b hb)
            have FV1 := fr_keep1 ((fr_keep1 F1 okY T2 (fun b hb => by have := hJ1 b hb; omega)).same okY (fun b hb => B3'.block b (by have := hJ1 b hb; omega))) okY T4 (fun b hb => by have := hJ1 b hb; omega)
            have FV2 := fr_keep1 F2 okY T4 (fun b hb => by have := j2' b hb; omega)
            have j1 : ∀ b ∈ J1, b < V4.heap.size := fun b hb => by have := hJ1 b hb; omega
            have j2 : ∀ b ∈ J2, b < V4.heap.size := fun b hb => by have := j2' b hb; omega
            have hV : Below w.heap.size w V4 := below_turned1 ((below_turned1 (hBW.trans (B1'.mono (by omega))) T2 (by omega)).trans (B3'.mono (by omega))) T4 (by omega)
            have fV := hfl
            have sV : p2 ∉ I ∧ p ∉ I2 ∧ q ∉ I2 := ⟨sp2, spp, spq⟩
            have r1 := loadF V4 b11 0 (KBV.rows hl1).1
            have r2 := loadF V4 b12 0 (KCV.rows hl2).1
            rw [(KBV.rows hl1).2] at r1
            rw [(KCV.rows hl2).2] at r2
            go_wp2_with fail
            try (rw [r1]; go_wp2_with fail)
            refine (same_yes V4 c1 c2 y J1 J2 FV1 FV2 j1 j2 (by omega)).mono ?_
            rintro e X1 ⟨rfl, BX1⟩
            go_wp2_with fail
            refine (alike_yes X1 p q n p2 l I I2 (RV.below BX1) (QV.below BX1) fV n2).mono ?_
            rintro e X2 ⟨rfl, BX2⟩
            go_wp2_with fail
            go_roundw
            case rel => exact ⟨k + 1, l, I, I2, by omega, by go_num, (RV.below BX1).below BX2, (QV.below BX1).below BX2, fV, sV, (hV.trans (BX1.mono hV.size)).trans (BX2.mono (by have := hV.size; have := BX1.size; omega))⟩
            case measure => simp [intOf]; omega
          · have n30 := hnum.out W15 KA
            go_wp2_with fail
            refine (at_at W15 p q n l I R15 nn).mono ?_
            rintro e V1 ⟨c1, J1, rfl, F1, hJ1, B1'⟩
            obtain ⟨y, hy, hy10⟩ := few_at hfl (nn)
            have okY := y.ok (by omega)
            rw [hy] at F1
            generalize hSe : (atS l (nn)).isSome = S at *
            replace hSe := Lib.hid hSe
            replace hy := Lib.hid hy
            have hc1 := Lib.hid (fr_cellsN F1 okY)
            have hl1 := (fr_cells F1 okY).1
            have s1 := B1'.size
            have KA1 := KA.below B1' (by omega)
            have KB1 := KB.below B1' (by omega)
            have KC1 := K15.below B1' (by omega)
            have Q1 := Q15.below B1'
            have R1 := R15.below B1'
            have lA1 := KA1.lt
            go_wp2_with ((with_reducible show wpList _ _ _ (⟨none, .store 42 (.tmp 11) _, _, _, _, _⟩ :: _) _ _); refine wpList_store_blk rfl 42 _ _ rfl b11 42 zeroC c1 29 rfl rfl KB1 rfl hc1.out info_frame ?_; intro V2 T2 KV2 SV2; clear SV2; have n30 := hnum.out V2 (T2.blk KA1 (by simp; omega)))
            have s2 := T2.size
            have KC2 := T2.blk KC1 (by simp; omega)
            refine (rat_any V2 p2 n l I2 (ref_keep1 Q1 T2 (by omega) (nQ.out _ (by omega))) (nn)).mono ?_
            rintro e V3 ⟨c2, J2, rfl, F2, hJ2, B3'⟩
            rw [hy.out] at F2
            rw [hSe.out]
            have s3 := B3'.size
            have hc2 := Lib.hid (fr_cellsN F2 okY)
            have hl2 := (fr_cells F2 okY).1
            have KC3 := KC2.below B3' (by omega)
            have KB3 := KV2.below B3' (by omega)
            go_wp2_with ((with_reducible show wpList _ _ _ (⟨none, .store 42 (.tmp 12) _, _, _, _, _⟩ :: _) _ _); refine wpList_store_blk rfl 42 _ _ rfl b12 42 zeroC c2 29 rfl rfl KC3 rfl hc2.out info_frame ?_; intro V4 T4 KV4 SV4; clear SV4)
            have s4 := T4.size
            have KBV := T4.blk KB3 (by simp; omega)
            have KCV := KV4
            have RV := ring_keep1 ((ring_keep1 R1 T2 (by omega) (by omega) (nI.out _ (by omega))).below B3') T4 (by omega) (by omega) (nI.out _ (by omega))
            have QV := ref_keep1 ((ref_keep1 Q1 T2 (by omega) (nQ.out _ (by omega))).below B3') T4 (by omega) (nQ.out _ (by omega))
            have j2' : ∀ b ∈ J2, b < wr.heap.size := fun b hb => hQlt b (hJ2 b hb)
            have FV1 := fr_keep1 ((fr_keep1 F1 okY T2 (fun b hb => by have := hJ1 b hb; omega)).same okY (fun b hb => B3'.block b (by have := hJ1 b hb; omega))) okY T4 (fun b hb => by have := hJ1 b hb; omega)
            have FV2 := fr_keep1 F2 okY T4 (fun b hb => by have := j2' b hb; omega)
            have j1 : ∀ b ∈ J1, b < V4.heap.size := fun b hb => by have := hJ1 b hb; omega
            have j2 : ∀ b ∈ J2, b < V4.heap.size := fun b hb => by have := j2' b hb; omega
            have hV : Below w.heap.size w V4 := below_turned1 ((below_turned1 (hBW.trans (B1'.mono (by omega))) T2 (by omega)).trans (B3'.mono (by omega))) T4 (by omega)
            have fV := hfl
            have sV : p2 ∉ I ∧ p ∉ I2 ∧ q ∉ I2 := ⟨sp2, spp, spq⟩
            have r1 := loadF V4 b11 0 (KBV.rows hl1).1
            have r2 := loadF V4 b12 0 (KCV.rows hl2).1
            rw [(KBV.rows hl1).2] at r1
            rw [(KCV.rows hl2).2] at r2
            go_wp2_with fail
            try (rw [r1]; go_wp2_with fail)
            refine (same_yes V4 c1 c2 y J1 J2 FV1 FV2 j1 j2 (by omega)).mono ?_
            rintro e X1 ⟨rfl, BX1⟩
            go_wp2_with fail
            refine (alike_yes X1 p q n p2 l I I2 (RV.below BX1) (QV.below BX1) fV n2).mono ?_
            rintro e X2 ⟨rfl, BX2⟩
            go_wp2_with fail
            go_roundw
            case rel => exact ⟨k + 1, l, I, I2, by omega, by go_num, (RV.below BX1).below BX2, (QV.below BX1).below BX2, fV, sV, (hV.trans (BX1.mono hV.size)).trans (BX2.mono (by have := hV.size; have := BX1.size; omega))⟩
            case measure => simp [intOf]; omega
          · go_wp2_with fail
            refine (clear_at W15 p q n l I R15).mono ?_
            rintro e V1 ⟨rfl, R1, T1⟩
            have s1 := T1.size
            have KB1 := T1.blk KB (by simp; omega)
            have KC1 := T1.blk K15 (by simp; omega)
            have Q1 := ref_keep2 Q15 T1 np nq spp spq
            obtain ⟨L, hL1, hL2, QN, TN⟩ := ref_nil Q1
            have hTs := TN.size
            have KBV := TN.blk KB1 (by simp; omega)
            have KCV := TN.blk KC1 (by simp; omega)
            have RV := ring_keep1 R1 TN (Ne.symm np) (Ne.symm nq) (by simp)
            have hV := below_turned1 (below_turned2 hBW T1 bp bq) TN bp2
            have QV := QN
            replace QN := Lib.hid QN
            replace KBV := Lib.hid KBV
            replace KCV := Lib.hid KCV
            replace RV := Lib.hid RV
            replace hV := Lib.hid hV
            replace QV := Lib.hid QV
            replace hTs := Lib.hid hTs
            replace TN := Lib.hid TN
            go_wp2_with fail
            generalize V1.setCell { block := p2, off := 1 } (Value.slice none 0 0) = V4 at *
            replace KBV := KBV.out
            replace KCV := KCV.out
            replace RV := RV.out
            replace QV := QV.out
            replace hV := hV.out
            replace hTs := hTs.out
            have hl1 : zeroC.length = 29 := rfl
            have hl2 : zeroC.length = 29 := rfl
            obtain ⟨y, hy, hy10⟩ := few_at (l := []) (fun z hz => by simp at hz) 0
            have hy' : zeroFr = y.fr := hy
            have FV1 : FrAt V4 zeroC y.fr y.fr.n [] := by rw [← hy']; exact zero_at V4
            have FV2 : FrAt V4 zeroC y.fr y.fr.n [] := FV1
            have j1 : ∀ b ∈ ([] : List Nat), b < V4.heap.size := by simp
            have j2 : ∀ b ∈ ([] : List Nat), b < V4.heap.size := by simp
            have fV : Few [] := fun z hz => by simp at hz
            have sV : p2 ∉ ([] : List Nat) ∧ p ∉ ([] : List Nat) ∧ q ∉ ([] : List Nat) := by simp
            have r1 := loadF V4 b11 0 (KBV.rows hl1).1
            have r2 := loadF V4 b12 0 (KCV.rows hl2).1
            rw [(KBV.rows hl1).2] at r1
            rw [(KCV.rows hl2).2] at r2
            go_wp2_with fail
            try (rw [r1]; go_wp2_with fail)
            refine (same_yes V4 zeroC zeroC y [] [] FV1 FV2 j1 j2 (by omega)).mono ?_
            rintro e X1 ⟨rfl, BX1⟩
            go_wp2_with fail
            refine (alike_yes X1 p q n p2 ([] : List Fr) ([] : List Nat) ([] : List Nat) (RV.below BX1) (QV.below BX1) fV n2).mono ?_
            rintro e X2 ⟨rfl, BX2⟩
            go_wp2_with fail
            go_roundw
            case rel => exact ⟨k + 1, ([] : List Fr), ([] : List Nat), ([] : List Nat), by omega, by go_num, (RV.below BX1).below BX2, (QV.below BX1).below BX2, fV, sV, (hV.trans (BX1.mono hV.size)).trans (BX2.mono (by have := hV.size; have := BX1.size; omega))⟩
            case measure => simp [intOf]; omega

          · go_wp2_with fail
            refine (copy_at W15 p q n l I R15).mono ?_
            rintro e V1 ⟨p', q', rfl, R1, hp', hq', B1'⟩
            have s1 := B1'.size
            have KA1 := KA.below B1' (by omega)
            have hx1 := hx15.same okX (fun b hb => B1'.block b (by have := hIA b hb; omega))
            have lR := R1.lt
            obtain ⟨lR1, lR2, -⟩ := lR
            have hrw := hrow.out V1 KA1
            replace hrw := Lib.hid hrw
            go_wp2_with ((with_reducible show wpList _ _ _ (⟨_, .load 42 _, _, _, _, _⟩ :: _) _ _); refine wpList_load_mid rfl 42 _ rfl wr.heap.size 1 rfl fc d hrw.out hd.out hdr (by rw [hfcl]; exact info_frame) ?_)
            refine (push_at V1 p' q' n l I R1 fc x.fr IA hx1 okX (fun b hb => by have := hIA b hb; omega) (fun b hb => by have := hIA b hb; omega)).mono ?_
            rintro e V2 ⟨rfl, I', R2, hI', T2⟩
            have s2 := T2.size
            generalize (if l.length < n then l ++ [x.fr] else l) = lx at R2
            go_wp2_with fail
            refine (pop_at V2 p' q' n lx I' R2).mono ?_
            rintro e V3 ⟨cq, Jq, rfl, Fq, hJq, R3, T3⟩
            have s3 := T3.size
            go_wp2_with fail
            refine (clear_at V3 p' q' n lx.tail I' R3).mono ?_
            rintro e V4 ⟨rfl, R4, T4⟩
            have s4 := T4.size
            have BV : Below W15.heap.size W15 V4 := ((B1'.trans (T2.below s1 (by simp; omega))).trans (T3.below (by omega) (by simp; omega))).trans (T4.below (by omega) (by simp; omega))
            have KBV := KB.below BV (by omega)
            have KCV := K15.below BV (by omega)
            have RV := R15.below BV
            have QV := Q15.below BV
            have hV := hBW.trans (BV.mono (by omega))
            clear R1 R2 R3 R4 Fq hJq KA1 hx1 hrw
            have hl1 : zeroC.length = 29 := rfl
            have hl2 : zeroC.length = 29 := rfl
            obtain ⟨y, hy, hy10⟩ := few_at (l := []) (fun z hz => by simp at hz) 0
            have hy' : zeroFr = y.fr := hy
            have FV1 : FrAt V4 zeroC y.fr y.fr.n [] := by rw [← hy']; exact zero_at V4
            have FV2 : FrAt V4 zeroC y.fr y.fr.n [] := FV1
            have j1 : ∀ b ∈ ([] : List Nat), b < V4.heap.size := by simp
            have j2 : ∀ b ∈ ([] : List Nat), b < V4.heap.size := by simp
            have fV := hfl
            have sV : p2 ∉ I ∧ p ∉ I2 ∧ q ∉ I2 := ⟨sp2, spp, spq⟩
            have r1 := loadF V4 b11 0 (KBV.rows hl1).1
            have r2 := loadF V4 b12 0 (KCV.rows hl2).1
            rw [(KBV.rows hl1).2] at r1
            rw [(KCV.rows hl2).2] at r2
            go_wp2_with fail
            try (rw [r1]; go_wp2_with fail)
            refine (same_yes V4 zeroC zeroC y [] [] FV1 FV2 j1 j2 (by omega)).mono ?_
            rintro e X1 ⟨rfl, BX1⟩
            go_wp2_with fail
            refine (alike_yes X1 p q n p2 l I I2 (RV.below BX1) (QV.below BX1) fV n2).mono ?_
            rintro e X2 ⟨rfl, BX2⟩
            go_wp2_with fail
            go_roundw
            case rel => exact ⟨k + 1, l, I, I2, by omega, by go_num, (RV.below BX1).below BX2, (QV.below BX1).below BX2, fV, sV, (hV.trans (BX1.mono hV.size)).trans (BX2.mono (by have := hV.size; have := BX1.size; omega))⟩
            case measure => simp [intOf]; omega

          · have e4 : (kk % 10 == 4) = false := by simp; omega
            have e5 : (kk % 10 == 5) = false := by simp; omega
            have e6 : (kk % 10 == 6) = false := by simp; omega
            have e7 : (kk % 10 == 7) = false := by simp; omega
            have e8 : (kk % 10 == 8) = false := by simp; omega
            have e9 : (kk % 10 == 9) = false := by simp; omega
            have hm10 : x.fr.n ≤ 10 := by rw [FrV.n_eq]; exact hx10
            obtain ⟨v, ef, hsl⟩ := id hx15
            have hm24 : fc[24]? = some v := by rw [ef, List.getElem?_append_right (by rw [okX.pre]; exact Nat.le_refl _), okX.pre]; rfl
            obtain ⟨ao', cap', rfl, -⟩ := id hsl
            have hcF := Lib.hid (fr_cellsN hx15 okX)
            replace ef := Lib.hid ef
            replace hm24 := Lib.hid hm24
            replace hsl := Lib.hid hsl
            obtain ⟨i0, hi, hz0, hz1, hz2⟩ := info_parts info_mem
            replace hi := Lib.hid hi
            have hrw := Lib.hid (hrow.out W15 KA)
            go_upto_region 16 with (first
              | ((with_reducible show wpList _ _ _ (⟨some 65, .load 42 _, _, _, _, _⟩ :: _) _ _); refine wpList_load_mid rfl 42 _ rfl wr.heap.size 1 rfl fc d hrw.out hd.out hdr (by rw [hfcl]; exact info_frame) ?_)
              | ((with_reducible show wpList _ _ _ (⟨some 16, .alloc _, _, _, _, _⟩ :: _) _ _); refine wpList_alloc_blk rfl 42 rfl zeroC zero_val ?_; intro W16 B16 K16 S16; clear S16)
              | ((with_reducible show wpList _ _ _ (⟨none, .store 42 (.tmp 16) _, _, _, _, _⟩ :: _) _ _); refine wpList_store_blk rfl 42 _ _ rfl W15.heap.size 42 zeroC fc 29 rfl rfl K16 rfl hcF.out info_frame ?_; intro W17 T17 K17 S17; clear S17; have B17 : Below W15.heap.size W15 W17 := B16.trans (T17.below B16.size (by simp)); have KA17 := KA.below B17 (by omega); have c25 : W17.cell? ⟨wr.heap.size, 25, none⟩ = some (.slice ao' x.fr.n cap') := hrow.out W17 KA17 24 _ hm24.out; have sl17 := Lib.hid (hsl.out.same (w' := W17) (fun e => List.length_eq_zero_iff.1 (by rw [okX.mem, e])) (fun b hb => B17.block b (by have := hIA b hb; omega))); replace KA17 := Lib.hid KA17)
              | ((with_reducible show wpList _ _ _ (⟨some 70, .call _, _, _, _, _⟩ :: _) _ _); refine wpList_append_sl rfl _ _ 38 rfl W17.heap.size 54 i0 _ 2 16 Try.underlying38 hi.out hz0 hz1 hz2 rfl (by decide) _ 0 [] rfl (World.ownsRow_nil _ _ _ _) _ x.fr.n x.fr.mem IA rfl sl17.out okX.mem okX.oneM (by unfold maxLen; omega) (by omega) (Nat.le_refl _) ?_; intro v' W18 hown hgrow; simp only [Nat.zero_add, List.nil_append] at hown; have B18 : Below W17.heap.size W17 W18 := (Below.refl _ _).grown hgrow (Nat.le_refl _) (fun k hk => by cases hk); have K18 := K17.below B18 K17.lt; have e24 := (K18.cell 24).trans hm24.out; have f24 := K18.free 24; obtain ⟨K, hKs, hKI⟩ := SlAt.of_own hown; obtain ⟨ao2, cap2, rfl, m1, m2, m3, m4⟩ := id hKs; replace hKs := Lib.hid hKs; replace hKI := Lib.hid hKI; clear hown hgrow m1 m2; replace m3 := Lib.hid m3; replace m4 := Lib.hid m4))
            have lK17 := K17.lt
            have s17 := B17.size
            have s18 := B18.size
            have B19 : Below W15.heap.size W15 (W18.setCell ⟨W15.heap.size, 24, none⟩ (.slice ao2 x.fr.n cap2)) := (B17.trans (B18.mono s17)).setCell (Nat.le_refl _) _
            have K19 := K18.set 24 (.slice ao2 x.fr.n cap2)
            have hf2 : fc.set 24 (.slice ao2 x.fr.n cap2) = x.fr.pre ++ .slice ao2 x.fr.n cap2 :: x.fr.post := by
              rw [ef.out, List.set_append_right _ _ (by rw [okX.pre]; exact Nat.le_refl _), okX.pre]; rfl
            have X19 : FrAt (W18.setCell ⟨W15.heap.size, 24, none⟩ (.slice ao2 x.fr.n cap2)) (fc.set 24 (.slice ao2 x.fr.n cap2)) x.fr x.fr.n K := ⟨_, hf2, hKs.out.same (fun e => List.length_eq_zero_iff.1 (by rw [okX.mem, e])) (fun b hb => Below.heap_setCell _ _ _ b (by have := (hKI.out b hb).1; show b ≠ W15.heap.size; omega))⟩
            have hKI3 : ∀ b ∈ K, W17.heap.size ≤ b ∧ b < (W18.setCell ⟨W15.heap.size, 24, none⟩ (.slice ao2 x.fr.n cap2)).heap.size ∧ ∀ o, (W18.setCell ⟨W15.heap.size, 24, none⟩ (.slice ao2 x.fr.n cap2)).frozen? ⟨b, o, none⟩ = false := fun b hb => ⟨(hKI.out b hb).1, by simpa [World.setCell] using (hKI.out b hb).2.1, fun o => by rw [World.frozen?_setCell]; exact (hKI.out b hb).2.2 o⟩
            have s19 : W17.heap.size ≤ (W18.setCell ⟨W15.heap.size, 24, none⟩ (.slice ao2 x.fr.n cap2)).heap.size := by simpa [World.setCell] using s18
            clear hKs hKI e24 f24 K18 B18 sl17 c25 m3 m4 hf2 hi hz0 hz1 hz2 hrw hcF K16 B16 T17 KA17 s18
            replace hKI3 := Lib.hid hKI3
            generalize W18.setCell { block := W15.heap.size, off := 24 } (Value.slice ao2 x.fr.n cap2) = W19 at *
            generalize fc.set 24 (.slice ao2 x.fr.n cap2) = gc at *
            obtain ⟨hgl, -⟩ := fr_cells X19 okX
            have KA19 := KA.below B19 (by omega)
            have KB19 := KB.below B19 (by omega)
            have KC19 := K15.below B19 (by omega)
            have R19 := R15.below B19
            have Q19 := Q15.below B19
            have hx19 := hx15.same okX (fun b hb => B19.block b (by have := hIA b hb; omega))
            have hB19 := Lib.hid (hBW.trans (B19.mono (by omega)))
            go_wp2_with ((with_reducible show wpList _ _ _ (⟨some 74, .load 42 _, _, _, _, _⟩ :: _) _ _); refine wpList_load_blk rfl 42 _ rfl W15.heap.size 42 gc d rfl K19 hd.out hdr (by rw [hgl]; exact info_frame) ?_)
            refine (push_at W19 p q n l I R19 gc x.fr K X19 okX (fun b hb => (hKI3.out b hb).2.1) (fun b hb => by have := (hKI3.out b hb).1; omega)).mono ?_
            rintro e V1 ⟨rfl, I1, R1, hI1, T1⟩
            have s1 := T1.size
            have KA1 := T1.blk KA19 (by simp; omega)
            have KB1 := T1.blk KB19 (by simp; omega)
            have KC1 := T1.blk KC19 (by simp; omega)
            have K1 := T1.blk K19 (by simp; omega)
            have Q1 := ref_keep2 Q19 T1 np nq spp spq
            have hxV1 := hx19.same okX (fun b hb => T1.block b (by have := hIA b hb; omega) (by have := hIA b hb; simp; omega))
            have hrw1 := Lib.hid (hrow.out V1 KA1)
            go_wp2_with ((with_reducible show wpList _ _ _ (⟨some 78, .load 42 _, _, _, _, _⟩ :: _) _ _); refine wpList_load_mid rfl 42 _ rfl wr.heap.size 1 rfl fc d hrw1.out hd.out hdr (by rw [hfcl]; exact info_frame) ?_)
            refine (rpush_any V1 p2 n l I2 Q1 hln n2 fc x.fr IA hxV1 okX (fun b hb => by have := hIA b hb; omega)).mono ?_
            rintro e V2 ⟨rfl, I3, Q2, hI3, T2⟩
            have s2 := T2.size
            have KB2 := T2.blk KB1 (by simp; omega)
            have KC2 := T2.blk KC1 (by simp; omega)
            have K2 := T2.blk K1 (by simp; omega)
            have hp1 : p2 ∉ I1 := fun hm => (hI1 _ hm).elim sp2 (fun h => by omega)
            have R2 := ring_keep1 R1 T2 (Ne.symm np) (Ne.symm nq) hp1
            have bK : ∀ b ∈ K, V2.heap[b]? = W19.heap[b]? := fun b hb => by
              obtain ⟨g1, g2, -⟩ := hKI3.out b hb
              exact (T2.block b (by omega) (by simp; omega)).trans (T1.block b g2 (by simp; omega))
            have XV2 := X19.same okX bK
            have KI2 : ∀ b ∈ K, W17.heap.size ≤ b ∧ b < W19.heap.size ∧ ∀ o, V2.frozen? ⟨b, o, none⟩ = false := fun b hb => by
              obtain ⟨g1, g2, g3⟩ := hKI3.out b hb
              refine ⟨g1, g2, fun o => ?_⟩
              have := g3 o
              simp only [World.frozen?] at this ⊢
              rw [bK b hb]; exact this
            have hV2 := Lib.hid (below_turned1 (below_turned2 hB19.out T1 bp bq) T2 bp2)
            have sV : p2 ∉ I1 ∧ p ∉ I3 ∧ q ∉ I3 := ⟨hp1, fun hm => (hI3 _ hm).elim spp (fun h => by omega), fun hm => (hI3 _ hm).elim spq (fun h => by omega)⟩
            have lR2 := R2.lt
            have dR : ∀ c, c = p ∨ c = q ∨ c ∈ I1 → c < V2.heap.size ∧ c ∉ K := fun c hc => by
              refine ⟨hc.elim (fun e => e ▸ lR2.1) fun hc => hc.elim (fun e => e ▸ lR2.2.1) (lR2.2.2 c), fun hm => ?_⟩
              obtain ⟨g1, g2, -⟩ := KI2 c hm
              rcases hc with e | e | e
              · omega
              · omega
              · rcases hI1 c e with h | h
                · have := hiI c h; omega
                · omega
            have dQ : ∀ c, c = p2 ∨ c ∈ I3 → c < V2.heap.size ∧ c ∉ K := fun c hc => by
              refine ⟨hc.elim (fun e => e ▸ Q2.plt) (Q2.lt c), fun hm => ?_⟩
              obtain ⟨g1, g2, -⟩ := KI2 c hm
              rcases hc with e | e
              · omega
              · rcases hI3 c e with h | h
                · have := hQlt c h; omega
                · omega
            generalize hlx : (if l.length < n then l ++ [x.fr] else l) = lx at *
            have fV : Few lx := by
              rw [← hlx]
              split
              · exact few_snoc hfl x hx10
              · exact hfl
            clear hlx
            generalize decide (l.length < n) = S at *
            obtain ⟨v2, ev, ao1, cap1, rfl, m1, m2, m3, m4⟩ := XV2
            have q24 : V2.cell? ⟨W15.heap.size, 24, none⟩ = some (.slice ao1 x.fr.n cap1) := (K2.cell 24).trans (by rw [ev, List.getElem?_append_right (by rw [okX.pre]; exact Nat.le_refl _), okX.pre]; rfl)
            have hthere : 0 < x.fr.n → ∃ bb oo, ao1 = some ⟨bb, oo, none⟩ ∧ bb ∈ K ∧ V2.there bb oo (x.fr.n * 2) := by
              intro h0
              cases ao1 with
              | none => have := (m3 rfl).1; omega
              | some a =>
                obtain ⟨bb, oo, sp⟩ := a
                obtain ⟨g1, g2⟩ := m4 _ rfl
                obtain ⟨rfl, g3⟩ := g1 h0
                exact ⟨bb, oo, rfl, g3, fun j hj => ⟨by rw [g2 j _ (List.getElem?_eq_getElem (by rw [okX.mem]; omega))]; rfl, (KI2 bb g3).2.2 _⟩⟩
            replace hthere := Lib.hid hthere
            replace dR := Lib.hid dR
            replace dQ := Lib.hid dQ
            replace KI2 := Lib.hid KI2
            have hmn : (x.fr.n : Int) ≤ 10 := by omega
            have l16 : W15.heap.size < W17.heap.size := lK17
            have g11 : b11 < W17.heap.size := by omega
            have g12 : b12 < W17.heap.size := by omega
            have gw : w.heap.size ≤ W17.heap.size := by omega
            clear hIA hiI hQlt nI nQ hI1 hI3 m1 m2 m3 m4 ev hKI3 bK X19 K1 K19 KA1 KA19 KB1 KB19 KC1 KC19 Q1 Q19 R1 R19 hx19 hxV1 hrw1 T1 T2 hB19 hrow hnum hx15 R15 Q15 KA KB K15 c0 hBW B19 B17 K17 hsl ef hm24 e4 e5 e6 e7 e8 e9
            go_wp2_with fail
            obtain ⟨wo, rfl⟩ : ∃ wo : World, wo = wr := ⟨_, rfl⟩
            go_loopw [17] (fun kk wx => ∃ j : Nat, j ≤ x.fr.n ∧ kk = .int .i64 (j : Int) ∧ Held K V2 wx) (fun kk _ => x.fr.n - (intOf kk).toNat)
            case atStart => exact ⟨0, Nat.zero_le _, rfl, Held.refl _ _⟩
            case round =>
              obtain ⟨j, hj, rfl, hH⟩ := hrel
              have q24' : wr.cell? ⟨W15.heap.size, 24, none⟩ = some (.slice ao1 x.fr.n cap1) := hH.cell q24 (fun hm => by have := (KI2.out _ hm).1; omega)
              by_cases hlt2 : j < x.fr.n
              · obtain ⟨bb, oo, rfl, hbJ, hth⟩ := hthere.out (by omega)
                have hth' := hH.there hth
                obtain ⟨x1, y1⟩ := hth' (j * 2) (by omega)
                obtain ⟨x2, y2⟩ := hth' (j * 2 + 1) (by omega)
                obtain ⟨g1, x1⟩ := Option.isSome_iff_exists.1 x1
                obtain ⟨g2, x2⟩ := Option.isSome_iff_exists.1 x2
                rw [show oo + (j * 2 + 1) = oo + j * 2 + 1 by omega] at x2 y2
                have hH2 : Held K V2 ((wr.setCell ⟨bb, oo + j * 2, none⟩ (.int .i64 98)).setCell ⟨bb, oo + j * 2 + 1, none⟩ (.int .i64 0)) := (hH.setCell (p := ⟨bb, oo + j * 2, none⟩) hbJ _).setCell (p := ⟨bb, oo + j * 2 + 1, none⟩) hbJ _
                replace hH2 := Lib.hid hH2
                have j0 : (0 : Int) ≤ (j : Int) := by omega
                have j1 : (j : Int) < (x.fr.n : Int) := by omega
                go_wp2
                go_roundw
                case rel => exact ⟨j + 1, by omega, by go_num, hH2.out⟩
                case measure => simp [intOf]; omega
              · have hjj : j = x.fr.n := by omega
                subst hjj
                have hT := hH.turned
                have hTs := hT.size
                have KBV := hH.blk KB2 (fun hm => by have := (KI2.out _ hm).1; omega)
                have KCV := hH.blk KC2 (fun hm => by have := (KI2.out _ hm).1; omega)
                have RV := R2.same (fun c hc => hT.block c (dR.out c hc).1 (dR.out c hc).2) hTs
                have QV := Q2.same (fun c hc => hT.block c (dQ.out c hc).1 (dQ.out c hc).2) hTs
                have hV := hV2.out.trans (hT.below hV2.out.size (fun b hb => by have := (KI2.out b hb).1; omega))
                have hl1 : zeroC.length = 29 := rfl
                have hl2 : zeroC.length = 29 := rfl
                obtain ⟨y, hy, hy10⟩ := few_at (l := []) (fun z hz => by simp at hz) 0
                have hy' : zeroFr = y.fr := hy
                have FV1 : FrAt wr zeroC y.fr y.fr.n [] := by rw [← hy']; exact zero_at wr
                have FV2 : FrAt wr zeroC y.fr y.fr.n [] := FV1
                have j1 : ∀ b ∈ ([] : List Nat), b < wr.heap.size := by simp
                have j2 : ∀ b ∈ ([] : List Nat), b < wr.heap.size := by simp
                clear hH hT R2 Q2 dR dQ
                have r1 := loadF wr b11 0 (KBV.rows hl1).1
                have r2 := loadF wr b12 0 (KCV.rows hl2).1
                rw [(KBV.rows hl1).2] at r1
                rw [(KCV.rows hl2).2] at r2
                go_wp2_with fail
                try (rw [r1]; go_wp2_with fail)
                refine (same_yes wr zeroC zeroC y [] [] FV1 FV2 j1 j2 (by omega)).mono ?_
                rintro e X1 ⟨rfl, BX1⟩
                go_wp2_with fail
                refine (alike_yes X1 p q n p2 lx I1 I3 (RV.below BX1) (QV.below BX1) fV n2).mono ?_
                rintro e X2 ⟨rfl, BX2⟩
                go_wp2_with fail
                go_roundw
                case rel => exact ⟨k + 1, lx, I1, I3, by omega, by go_num, (RV.below BX1).below BX2, (QV.below BX1).below BX2, fV, sV, (hV.trans (BX1.mono hV.size)).trans (BX2.mono (by have := hV.size; have := BX1.size; omega))⟩
                case measure => simp [intOf]; omega

        · have hkk : k = ln1 := by omega
          subst hkk
          go_wp2_with fail
          refine (copy_at wr p q n l I R).mono ?_
          rintro e w4 ⟨p', q', rfl, R4, hp', hq', B4⟩
          go_wp2_with fail
          refine (alike_yes w4 p' q' n p2 l I I2 R4 (Q.below B4) hfl n2).mono ?_
          rintro e w5 ⟨rfl, B5⟩
          go_wp2_with (go_at_call 7; refine (ringed_any _).mono ?_; rintro e w6 ⟨rfl, B6⟩)
          go_ret
          exact ⟨rfl, ((hBr.trans (B4.mono hBr.size)).trans (B5.mono (by have := hBr.size; have := B4.size; omega))).trans (B6.mono (by have := hBr.size; have := B4.size; have := B5.size; omega))⟩

/-! ### The row. -/
set_option maxRecDepth 100000 in
theorem lifted (os : Os) (started : os.Started) (H : Type) (enc : TypeId × Value → H) :
    ReturnsInHanded {} Try.checked os 3 .any (Rows.ringsPlaySpec.pre6 enc Try.prog Try.f3 Rows.ringsPlayRow.domain false) (Rows.ringsPlaySpec.post enc Try.prog Try.f3 false true false false) := by
  refine returnsInHanded_of_change (C := Try.checked) own started (by kernel_rfl) Try.func3
    (ChangeSpec.witness6 (enc := enc) (C := Try.checked) false ⟨#[], #[.int .i64 0, .slice none 0 0], []⟩ 8 (by kernel_rfl) (by kernel_rfl) (by kernel_rfl) (by kernel_rfl)) ?_
  intro W base args ds gs before hval0 hW hcnd _
  have hval : ∀ (j : Nat) t v, Try.f3.params[j]? = some t → args[j]? = some v → Value.okWide Try.prog W .any base t v := hval0
  have hW' := hW
  obtain ⟨p, q, hA0, hV, rfl, hfz, hnd⟩ := hW
  have hA : DataW.TrodAll enc Try.prog W 0 (fun _ => true) true Try.f3.params.toList args.toList ds p := hA0
  rw [Try.params3] at hA hval
  obtain ⟨v0, vs0, d0, ds0, p0, q0, hargs, rfl, rfl, h0, r0⟩ := trodAll_cons hA
  obtain ⟨v1, vs1, d1, ds1, p1, q1, rfl, rfl, rfl, h1, r1⟩ := trodAll_cons r0
  obtain ⟨rfl, rfl, rfl⟩ := trodAll_nil r1
  obtain rfl : args = #[v0, v1] := by cases args; simp_all
  obtain ⟨rfl, rfl⟩ := trodVars_none hV
  have k0 := h0
  have lt0 : ∀ x ∈ p0, x.block < W.heap.size := by obtain ⟨m, hm⟩ := k0; exact DataW.trod_lt m _ _ _ hm
  obtain ⟨a0, rfl, rfl, rfl, w0⟩ := open_int Try.underlying3 (hval 0 3 v0 rfl rfl) h0
  have k1 := h1
  have lt1 : ∀ x ∈ p1, x.block < W.heap.size := by obtain ⟨m, hm⟩ := k1; exact DataW.trod_lt m _ _ _ hm
  have f1 := fits_of_Trod sh1 h1; obtain ⟨ao1, ln1, cp1, rfl⟩ := okWide_slice Try.underlying22 (hval 1 22 v1 rfl rfl)
  clear hA0 hval0
  refine (walk W a0 ao1 ln1 cp1 w0 f1).mono fun e W' ⟨he, bel⟩ => ?_
  subst he
  exact ⟨_, rfl, _, _, _, [], _, [], hW', trodAll_mk1 (shut_bool Try.underlying4 _), (trodAll_cons_mk (Below.trod laidOut (by kernel_rfl) (of_decide_eq_true (by kernel_rfl)) k0 bel lt0) (trodAll_cons_mk (Below.trod laidOut (by kernel_rfl) (of_decide_eq_true (by kernel_rfl)) k1 bel lt1) trodAll_mk0)), rfl, bel.frame _, fun h => by cases h⟩

theorem over : Rows.ringsPlayRow.holds Try.pinned (OpenSpec.ofChange Rows.ringsPlaySpec) :=
  OpenClaim.holds_of_wide 3 Try.f3 rfl rfl rfl rfl rfl rfl rfl ⟨rfl, rfl, rfl, rfl, rfl⟩ rfl rfl rfl rfl rfl (by kernel_rfl) Try.func3 (by kernel_rfl)
    (of_decide_eq_true (by kernel_rfl)) (by unfold Func.isWrapper; first | (rw [if_pos (by decide +kernel)]; kernel_rfl) | (rw [if_neg (by decide +kernel)]; exact ⟨rfl, rfl⟩))
    (fun os started H enc _ => lifted os started H enc)

/-- THE STATEMENT. -/
theorem proved : Rows.RingsPlaySaid := over
#print axioms proved
end Go.Proofs.Ytgboealiclcgkaa.ringsPlay
