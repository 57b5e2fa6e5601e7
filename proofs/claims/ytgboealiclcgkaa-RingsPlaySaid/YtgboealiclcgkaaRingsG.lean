/-
  'Great' of fairwaylaw03: what it lets pass has few members.
-/
import Derived.Test.YtgboealiclcgkaaRingsF
namespace Go.Proofs.Ytgboealiclcgkaa.Rings
open Go.RowKit Go.Proofs.Ytgboealiclcgkaa.Mem
attribute [local go_sem ↓] execLoadF
attribute [local go_sem] loadF

/-- How many members the frame of the act number i has. -/
def memLen (w : World) (ao : Option Addr) (i : Nat) : Nat :=
  match ao with
  | some a => (match w.cell? ⟨a.block, a.off + i * 31 + 25, none⟩ with | some (.slice _ n _) => n | _ => 0)
  | none => 0
def GreatP (w : World) (ao : Option Addr) (ln : Nat) (most : Int) (e : Ending) (w' : World) : Prop :=
  ∃ b, e = .returned (.bool b) ∧ (b = false → (ln : Int) ≤ most ∧ ∀ i, i < ln → memLen w ao i ≤ 10) ∧ Below w.heap.size w w'

/-- The act number i, in memory. -/
theorem act_at {w : World} {ao : Option Addr} {ln cp : Nat} (f : Fits w (.slice actTy) [.slice ao ln cp]) (i : Nat) (hi : i < ln) :
    ∃ (b o : Nat) (k n : Int) (fc : List Value) (x : FrV) (I : List Nat), ao = some ⟨b, o, none⟩ ∧ w.rangeAt b (o + i * 31) (.int .u8 k :: (fc ++ [nI n])) ∧ (Lit.int .u8 k).wf = true ∧ (Lit.int .i64 n).wf = true ∧ FrAt w fc x.fr x.fr.n I ∧
      (∀ b ∈ I, b < w.heap.size) ∧ memLen w ao i = x.ms.length ∧ b < w.heap.size := by
  rcases f with f | ⟨a, len, cap, f, h1, h2, h3⟩
  · simp at f; omega
  · simp at f
    obtain ⟨rfl, rfl, rfl⟩ := f
    obtain ⟨b, o, sp⟩ := a
    obtain ⟨hs, es, hl, hr, hf⟩ := h3 i hi
    simp only at hs hr
    subst hs
    obtain ⟨k, n, fc, x, I, rfl, hk, hn, hx, hI⟩ := fits_act hf
    refine ⟨b, o, k, n, fc, x, I, rfl, hr, hk, hn, hx, hI, ?_, World.block_lt_of_cell? w _ (hr 0 _ rfl)⟩
    obtain ⟨v, rfl, ao', cap', rfl, _⟩ := hx
    have := hr 25 (.slice ao' x.fr.n cap') rfl
    simp only [memLen]
    rw [show o + i * 31 + 25 = o + i * actTy.size + 25 from rfl, this]
    exact FrV.n_eq x

set_option maxRecDepth 100000 in
set_option maxHeartbeats 1000000 in
theorem great_any (w : World) (ao : Option Addr) (ln cp : Nat) (most : Int) (f : Fits w (.slice actTy) [.slice ao ln cp]) :
    Calls Try.prog 6 #[.slice ao ln cp, .int .i64 most] w (GreatP w ao ln most) := by
  have hl : (ln : Int) ≤ 9223372036854775807 := by
    rcases f with f | ⟨a, len, cap, f, h1, h2, _⟩
    · simp at f; omega
    · simp at f; unfold maxLen at h2; omega
  have hA := fun i hi => act_at f i hi
  have HA := Lib.hid hA
  clear hA f
  obtain ⟨d, hd, hdr⟩ := row_frame
  replace hd := Lib.hid hd
  go_enter Try.func6, Try.ntmps6
  go_wp2
  go_loopw [5] (fun i wr => ∃ k : Nat, k ≤ ln ∧ i = .int .i64 (k : Int) ∧ Below w.heap.size w wr ∧ Hid (∀ j, j < k → memLen w ao j ≤ 10)) (fun i _ => ln - (intOf i).toNat)
  case atStart => exact ⟨0, Nat.zero_le _, rfl, Below.refl _ _, Lib.hid (by simp)⟩
  case round =>
    obtain ⟨k, hk, rfl, hB, hF⟩ := hrel
    by_cases hlt : k < ln
    · obtain ⟨b, o, kk, nn, fc, x, I, rfl, hr, -, -, hx, hI, hm, hb⟩ := HA.out k hlt
      obtain ⟨v, e, ao', cap', rfl, -⟩ := hx
      have hfl : fc.length = 29 := by rw [e]; rfl
      have hone : ∀ u ∈ fc, u.oneCell' = true := by rw [e]; simp [FrV.fr, nI, Value.oneCell']
      have hcN : CellsN 29 fc.toArray := ⟨by simpa using hfl, all_oneCell_toArray hone⟩
      have hrf : wr.rangeAt b (o + k * 31 + 1) fc := rangeAt_below (fun j u hu => by
        have := hr (j + 1) u (by simp; rw [List.getElem?_append_left (List.getElem?_eq_some_iff.1 hu).1]; exact hu)
        rw [show o + k * 31 + 1 + j = o + k * 31 + (j + 1) by omega]; exact this) hB (fun _ => hb)
      have c8 : fc[8]? = some (.string x.o1) := by rw [e]; rfl
      have c9 : fc[9]? = some (.string x.o2) := by rw [e]; rfl
      have c12 : fc[12]? = some (.string x.r1) := by rw [e]; rfl
      have c20 : fc[20]? = some (.string x.p1) := by rw [e]; rfl
      have c21 : fc[21]? = some (.string x.p2) := by rw [e]; rfl
      have c24 : fc[24]? = some (.slice ao' x.ms.length cap') := by rw [e, ← FrV.n_eq]; rfl
      replace hrf := Lib.hid hrf
      replace hcN := Lib.hid hcN
      have HC := Lib.hid (⟨c8, c9, c12, c20, c21, c24⟩ : _ ∧ _ ∧ _ ∧ _ ∧ _ ∧ _)
      clear c8 c9 c12 c20 c21 c24 hr e hone HA
      replace hm := Lib.hid hm
      go_wp2_with (first
        | ((with_reducible show wpList _ _ _ (⟨_, .load 42 _, _, _, _, _⟩ :: _) _ _); refine wpList_load_mid rfl 42 _ rfl b (o + k * 31 + 1) rfl fc d hrf.out hd.out hdr (by rw [hfl]; exact info_frame) ?_)
        | ((with_reducible show wpList _ _ _ (⟨_, .alloc _, _, _, _, _⟩ :: _) _ _); refine wpList_alloc_blk rfl 42 rfl zeroC zero_val ?_; intro W3 BW3 K3 S3; clear S3; have l3 := K3.lt)
        | ((with_reducible show wpList _ _ _ (⟨none, .store 42 _ _, _, _, _, _⟩ :: _) _ _); refine wpList_store_blk rfl 42 _ _ rfl wr.heap.size 42 zeroC fc 29 rfl rfl K3 rfl hcN.out info_frame ?_; intro w4 T4 K4 S4; clear S4; have c8 := (K4.cell 8).trans HC.out.1; have c9 := (K4.cell 9).trans HC.out.2.1; have c12 := (K4.cell 12).trans HC.out.2.2.1; have c20 := (K4.cell 20).trans HC.out.2.2.2.1; have c21 := (K4.cell 21).trans HC.out.2.2.2.2.1; have c24 := (K4.cell 24).trans HC.out.2.2.2.2.2))
      all_goals have hB4 : Below w.heap.size w w4 := hB.trans ((BW3.mono hB.size).trans (T4.below (by have := hB.size; omega) (by have := hB.size; simp; omega)))
      all_goals first
        | (go_ret; exact ⟨true, rfl, by simp, hB4⟩)
        | (go_roundw
           case rel => exact ⟨k + 1, by omega, by go_num, hB4, Lib.hid (fun j hj => by
             rcases Nat.lt_or_ge j k with h | h
             · exact hF.out j h
             · obtain rfl : j = k := by omega
               rw [hm.out]; omega)⟩
           case measure => simp [intOf]; omega)
    · have hkk : k = ln := by omega
      subst hkk
      by_cases hmost : most < (k : Int)
      · go_wp2
        go_ret
        exact ⟨true, rfl, by simp, hB⟩
      · have t1 : decide (most < (k : Int)) = false := decide_eq_false hmost
        go_wp2
        go_ret
        exact ⟨false, by simp, fun _ => ⟨by omega, hF.out⟩, hB⟩
end Go.Proofs.Ytgboealiclcgkaa.Rings
