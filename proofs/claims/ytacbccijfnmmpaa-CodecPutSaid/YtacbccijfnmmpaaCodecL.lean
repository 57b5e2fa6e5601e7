/-
  Contracts of the small functions of package fairwaylaw02: no, coded.
-/
import Derived.Test.YtacbccijfnmmpaaCodecC
namespace Go.Proofs.Ytacbccijfnmmpaa.Codec
open Go.RowKit Go.Proofs.Ytacbccijfnmmpaa.Mem

set_option maxRecDepth 100000 in
theorem no_any (s : ByteArray) (w : World) (hs : s.size ≤ 4294967296) (h : readS s.data.toList = none) :
    Calls Try.prog 20 #[.string s] w fun e w' => e = .returned (.bool true) ∧ Below w.heap.size w w' := by
  have h0 := read_any s w hs
  rw [h] at h0
  have H0 := Lib.hid h0
  clear h h0
  go_enter Try.func20, Try.ntmps20
  go_wp2_with (go_at_call 14; refine H0.out.mono ?_; rintro e w' ⟨rfl, hbel⟩; unfold readV)
  go_ret
  exact ⟨rfl, hbel⟩

set_option maxRecDepth 100000 in
set_option maxHeartbeats 2000000 in
theorem coded_any (w : World) : Calls Try.prog 7 #[] w fun e w' => e = .returned (.bool true) ∧ Below w.heap.size w w' := by
  have n0 : numB 0 = [0] := by decide
  have n1 : numB 247 = [247] := by decide
  have n2 : numB 248 = [248, 248] := by decide
  have n3 : numB 300 = [249, 1, 44] := by decide
  have i0 : intB (-1) = [0] := by decide
  have i1 : intB 246 = [247] := by decide
  have i2 : intB 247 = [248, 248] := by decide
  have t0 : textB [97, 98] = [2, 97, 98] := by decide
  have r0 : readV (readS [249, 1, 44, 120]) = .tuple #[.int .u64 300, .string ⟨#[120]⟩, .bool true] := by rw [show readS [249, 1, 44, 120] = some (300, [120]) by decide]; rfl
  have h0 := read_any ⟨#[249, 1, 44, 120]⟩ w (by decide)
  rw [show (⟨#[249, 1, 44, 120]⟩ : ByteArray).data.toList = [249, 1, 44, 120] from rfl, r0] at h0
  have H0 := Lib.hid h0
  clear h0 r0
  have ht := fun w' => text_any [97, 98] w' (by decide)
  rw [show (⟨([97, 98] : List UInt8).toArray⟩ : ByteArray) = ⟨#[97, 98]⟩ from rfl] at ht
  have HT := Lib.hid ht
  clear ht
  have hB := Below.refl w.heap.size w
  go_enter Try.func7, Try.ntmps7
  go_wp2_with (first
    | (go_at_call 14; refine H0.out.mono ?_; rintro e w2 ⟨rfl, hn⟩; replace hB := bel hB hn; clear hn)
    | (go_at_call 8; refine (num_any _ _ (by omega) (by omega)).mono ?_; rintro e w2 ⟨rfl, hn⟩; replace hB := bel hB hn; clear hn)
    | (go_at_call 10; refine (int_any _ _ (by omega) (by omega)).mono ?_; rintro e w2 ⟨rfl, hn⟩; replace hB := bel hB hn; clear hn)
    | (go_at_call 12; refine (HT.out _).mono ?_; rintro e w2 ⟨rfl, hn⟩; replace hB := bel hB hn; clear hn)
    | (go_at_call 20; refine (no_any _ _ (by decide) (by decide)).mono ?_; rintro e w2 ⟨rfl, hn⟩; replace hB := bel hB hn; clear hn))
  go_ret
  exact ⟨rfl, hB⟩
end Go.Proofs.Ytacbccijfnmmpaa.Codec
