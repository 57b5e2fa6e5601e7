/-
  'alike' of fairwaylaw03: of a ring and the document's one with the same frames.
-/
import Derived.Test.YtgboealiclcgkaaRingsI
import Derived.Test.YtgboealiclcgkaaRingsS
import Derived.Test.YtgboealiclcgkaaRingsT
namespace Go.Proofs.Ytgboealiclcgkaa.Rings
open Go.RowKit Go.Proofs.Ytgboealiclcgkaa.Mem
attribute [local go_sem ↓] execLoadF
attribute [local go_sem] loadF

def zeroV : FrV := ⟨0, 0, 0, 0, 0, 0, 0, 0, ⟨#[]⟩, ⟨#[]⟩, 0, 0, ⟨#[]⟩, 0, 0, 0, 0, 0, 0, 0, ⟨#[]⟩, ⟨#[]⟩, 0, 0, 0, 0, 0, 0, []⟩
theorem zeroV_fr : zeroFr = zeroV.fr := rfl
/-- Frames with few members. -/
def Few (l : List Fr) : Prop := ∀ x ∈ l, ∃ y : FrV, x = y.fr ∧ y.ms.length ≤ 10
theorem few_at {l : List Fr} (h : Few l) (i : Int) : ∃ y : FrV, (atS l i).getD zeroFr = y.fr ∧ y.ms.length ≤ 10 := by
  cases ha : atS l i with
  | none => exact ⟨zeroV, zeroV_fr, by simp [zeroV]⟩
  | some x =>
    refine h x ?_
    unfold atS at ha
    split at ha
    · cases ha
    · exact List.mem_of_getElem? ha

set_option maxRecDepth 100000 in
set_option maxHeartbeats 4000000 in
theorem alike_yes (w : World) (p q n p2 : Nat) (l : List Fr) (I I2 : List Nat) (h : RingAt w p q n l I) (h2 : RefAt w p2 n l I2) (hf : Few l) (hn : n ≤ 64) :
    Calls Try.prog 20 #[.pointer (some ⟨p, 0, none⟩), .pointer (some ⟨p2, 0, none⟩)] w fun e w' => e = .returned (.bool true) ∧ Below w.heap.size w w' := by
  have hlen := h.len
  obtain ⟨⟨L, cs, h1, ⟨ao, cap, rfl, hc, hcm, -⟩, -⟩, -, -⟩ := id h2
  have hq : ∀ W, Below w.heap.size w W → W.cell? ⟨p2, 0, none⟩ = some (.int .i64 n) ∧ W.cell? ⟨p2, 1, none⟩ = some (.slice ao l.length cap) := fun W hW => ⟨(hW.cell h1.lt).trans (h1.cell 0), (hW.cell h1.lt).trans (h1.cell 1)⟩
  obtain ⟨q0, q1⟩ := hq w (Below.refl _ _)
  replace hq := Lib.hid hq
  unfold maxLen at hcm
  have lz : ((l.length : Int) != (l.length : Int)) = false := by simp
  have nz : ((n : Int) != (n : Int)) = false := by simp
  have HL := fun k => len_at (w.drewN k) p q n l I (h.below (below_drewN (Below.refl _ _) k))
  have HC := fun k => cap_at (w.drewN k) p q n l I (h.below (below_drewN (Below.refl _ _) k))
  replace HL := Lib.hid HL
  replace HC := Lib.hid HC
  obtain ⟨d, hd, hdr⟩ := row_frame
  replace hd := Lib.hid hd
  replace h1 := Lib.hid h1
  go_enter Try.func20, Try.ntmps20
  go_wp2_with fail
  go_quiet ((first
    | (go_at_call 21; exact Calls.quiet_of_same (HL.out _))
    | (go_at_call 22; exact Calls.quiet_of_same (HC.out _))))
  go_wp2_with fail
  have hB0 : Below w.heap.size w (w.drewN nq) := below_drewN (Below.refl _ _) _
  generalize w.drewN nq = w0 at *
  clear HL HC
  go_loopw [5] (fun i wr => ∃ k : Nat, k ≤ l.length + 2 ∧ i = .int .i64 ((k : Int) - 1) ∧ Below w.heap.size w wr) (fun i _ => (l.length + 1 - intOf i).toNat)
  case atStart => exact ⟨0, by omega, rfl, hB0⟩
  case round =>
    obtain ⟨k, hk, rfl, hBr⟩ := hrel
    clear hB0 q0 q1
    obtain ⟨q0, q1⟩ := hq.out _ hBr
    by_cases hlt : k < l.length + 2
    · go_wp2_with fail
      refine (at_at wr p q n l I (h.same (fun b hb => hBr.block b (by
        have := h.lt
        exact hb.elim (fun e => e ▸ this.1) fun hb => hb.elim (fun e => e ▸ this.2.1) (this.2.2 b))) hBr.size) ((k : Int) - 1)).mono ?_
      rintro e w1 ⟨c1, J1, rfl, F1, hJ1, B1⟩
      obtain ⟨y, hy, hy10⟩ := few_at hf ((k : Int) - 1)
      generalize hS : (atS l ((k : Int) - 1)).isSome = S at *
      have HS := Lib.hid hS
      clear hS
      rw [hy] at F1
      have ok1 := y.ok (by omega)
      have hc1 := Lib.hid (fr_cellsN F1 ok1)
      have hl1 := (fr_cells F1 ok1).1
      have hB1 : Below w.heap.size w w1 := hBr.trans (B1.mono hBr.size)
      have hyy := Lib.hid hy
      clear hy
      replace F1 := Lib.hid F1
      go_wp2_with (first
        | ((with_reducible show wpList _ _ _ (⟨some 6, .alloc _, _, _, _, _⟩ :: _) _ _); refine wpList_alloc_blk rfl 42 rfl zeroC zero_val ?_; intro W3 BW3 K3 S3; clear S3; have l3 := K3.lt)
        | ((with_reducible show wpList _ _ _ (⟨none, .store 42 (.tmp 6) _, _, _, _, _⟩ :: _) _ _); refine wpList_store_blk rfl 42 _ _ rfl w1.heap.size 42 zeroC c1 29 rfl rfl K3 rfl hc1.out info_frame ?_; intro w2 T2 K2 S2; clear S2))
      have hB2' : Below w1.heap.size w1 w2 := BW3.trans (T2.below (Nat.le_of_lt l3) (by simp))
      have hB2 : Below w.heap.size w w2 := hB1.trans (hB2'.mono hB1.size)
      have l2 := K2.lt
      clear K3 T2 BW3 l3
      refine (rat_any w2 p2 n l I2 (h2.same (fun b hb => hB2.block b (hb.elim (fun e => e ▸ h1.out.lt) (h2.lt b))) hB2.size) ((k : Int) - 1)).mono ?_
      rintro e w3 ⟨c2, J2, rfl, F2, hJ2, B3⟩
      rw [HS.out, hyy.out] at *
      have hc2 := Lib.hid (fr_cellsN F2 ok1)
      have hl2 := (fr_cells F2 ok1).1
      have hB3 : Below w.heap.size w w3 := hB2.trans (B3.mono hB2.size)
      have K2' := K2.below B3 l2
      replace F2 := Lib.hid F2
      go_wp2_with (first
        | ((with_reducible show wpList _ _ _ (⟨some 8, .alloc _, _, _, _, _⟩ :: _) _ _); refine wpList_alloc_blk rfl 42 rfl zeroC zero_val ?_; intro W4 BW4 K4 S4; clear S4; have l4 := K4.lt)
        | ((with_reducible show wpList _ _ _ (⟨none, .store 42 (.tmp 8) _, _, _, _, _⟩ :: _) _ _); refine wpList_store_blk rfl 42 _ _ rfl w3.heap.size 42 zeroC c2 29 rfl rfl K4 rfl hc2.out info_frame ?_; intro w4 T4 K5 S5; clear S5; have hB4' : Below w3.heap.size w3 w4 := BW4.trans (T4.below (Nat.le_of_lt l4) (by simp)); have K6 := K2'.below hB4' K2'.lt; obtain ⟨r1, r2⟩ := K6.rows hl1; obtain ⟨r3, r4⟩ := K5.rows hl2))
      have hB4 : Below w.heap.size w w4 := hB3.trans (hB4'.mono hB3.size)
      have hB14 : Below w1.heap.size w1 w4 := (hB2'.trans (B3.mono hB2'.size)).trans (hB4'.mono (by have := hB2'.size; have := B3.size; omega))
      have F1' := F1.out.same ok1 (w' := w4) (fun b hb => hB14.block b (hJ1 b hb).2.1)
      have F2' := F2.out.same ok1 (w' := w4) (fun b hb => hB4'.block b (by have := h2.lt b (hJ2 b hb); have := hB2.size; have := B3.size; omega))
      refine (same_yes w4 c1 c2 y J1 J2 F1' F2' (fun b hb => by have := (hJ1 b hb).2.1; have := hB14.size; omega) (fun b hb => by have := h2.lt b (hJ2 b hb); have := hB4.size; omega) (by omega)).mono ?_
      rintro e w5 ⟨rfl, B5⟩
      have hB5 : Below w.heap.size w w5 := hB4.trans (B5.mono hB4.size)
      have K7 := K6.below B5 K6.lt
      obtain ⟨v1, ev, ao1, cap1, rfl, m1, m2, m3, m4⟩ := F1'
      rw [FrV.n_eq] at ev m1 m3 m4
      have e24 : c1[24]? = some (.slice ao1 y.ms.length cap1) := by rw [ev]; rfl
      have q24 : w5.cell? ⟨w1.heap.size, 24, none⟩ = some (.slice ao1 y.ms.length cap1) := (K7.cell 24).trans e24
      have hml : y.fr.mem.length = y.ms.length * 2 := memC_len y.ms
      have hthere : 0 < y.ms.length → ∃ b o, ao1 = some ⟨b, o, none⟩ ∧ b ∈ J1 ∧ w5.there b o (y.ms.length * 2) := by
        intro h0
        cases ao1 with
        | none => have := (m3 rfl).1; omega
        | some a =>
          obtain ⟨b, o, sp⟩ := a
          obtain ⟨g1, g2⟩ := m4 _ rfl
          obtain ⟨rfl, g3⟩ := g1 h0
          refine ⟨b, o, rfl, g3, fun j hj => ?_⟩
          have hb := (hJ1 b g3).2.1
          have hb4 : b < w4.heap.size := by have := hB14.size; omega
          exact ⟨by rw [B5.cell (p := ⟨b, o + j, none⟩) hb4, g2 j _ (List.getElem?_eq_getElem (by omega))]; rfl, by rw [B5.frozen (p := ⟨b, o + j, none⟩) hb4, hB14.frozen (p := ⟨b, o + j, none⟩) hb]; exact (hJ1 b g3).2.2 _⟩
      have hJw : ∀ b ∈ J1, w.heap.size ≤ b ∧ b ≠ w1.heap.size := fun b hb => by have := hJ1 b hb; have := hBr.size; omega
      replace hthere := Lib.hid hthere
      replace ev := Lib.hid ev
      clear e24 m1 m2 m3 m4 r1 r2 r3 r4 hml
      go_wp2_with fail
      have hm10 : (y.ms.length : Int) ≤ 10 := by omega
      obtain ⟨wo, rfl⟩ : ∃ wo : World, wo = wr := ⟨_, rfl⟩
      go_loopw [10] (fun kk wx => ∃ j : Nat, j ≤ y.ms.length ∧ kk = .int .i64 (j : Int) ∧ Held J1 w5 wx) (fun kk _ => y.ms.length - (intOf kk).toNat)
      case atStart => exact ⟨0, Nat.zero_le _, rfl, Held.refl _ _⟩
      case round =>
        obtain ⟨j, hj, rfl, hH⟩ := hrel
        have q24' : wr.cell? ⟨w1.heap.size, 24, none⟩ = some (.slice ao1 y.ms.length cap1) := hH.cell q24 (fun hm => (hJw _ hm).2 rfl)
        by_cases hlt2 : j < y.ms.length
        · obtain ⟨b, o, rfl, hbJ, hth⟩ := hthere.out (by omega)
          have hth' := hH.there hth
          obtain ⟨x1, y1⟩ := hth' (j * 2) (by omega)
          obtain ⟨x2, y2⟩ := hth' (j * 2 + 1) (by omega)
          obtain ⟨g1, x1⟩ := Option.isSome_iff_exists.1 x1
          obtain ⟨g2, x2⟩ := Option.isSome_iff_exists.1 x2
          rw [show o + (j * 2 + 1) = o + j * 2 + 1 by omega] at x2 y2
          have hH2 : Held J1 w5 ((wr.setCell ⟨b, o + j * 2, none⟩ (.int .i64 99)).setCell ⟨b, o + j * 2 + 1, none⟩ (.int .i64 0)) := (hH.setCell (p := ⟨b, o + j * 2, none⟩) hbJ _).setCell (p := ⟨b, o + j * 2 + 1, none⟩) hbJ _
          replace hH2 := Lib.hid hH2
          have j0 : (0 : Int) ≤ (j : Int) := by omega
          have j1 : (j : Int) < (y.ms.length : Int) := by omega
          go_wp2
          go_roundw
          case rel => exact ⟨j + 1, by omega, by go_num, hH2.out⟩
          case measure => simp [intOf]; omega
        · have hjj : j = y.ms.length := by omega
          subst hjj
          go_wp2
          go_roundw
          case rel => exact ⟨k + 1, by omega, by go_num, hB5.trans (hH.turned.below hB5.size (fun b hb => (hJw b hb).1))⟩
          case measure => simp [intOf]; omega
    · go_wp2
      go_ret
      exact ⟨rfl, hBr⟩
end Go.Proofs.Ytgboealiclcgkaa.Rings
