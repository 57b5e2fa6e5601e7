/-
  Contracts of package codec (layer 2).
-/
import Derived.Test.YtpljlncolkecpaaProg
import Derived.Test.YtpljlncolkecpaaMem
import Derived.Test.YtpljlncolkecpaaCodecMath
import Derived.Test.YtpljlncolkecpaaShelf
namespace Go.Proofs.Ytpljlncolkecpaa.Codec
open Go.RowKit Go.Proofs.Ytpljlncolkecpaa.Mem

theorem info_u8 : (Try.prog.info? 5).map (fun i => (i.zero, i.size, i.bytes)) = some (some (.int .u8 0), 1, 1) := by kernel_rfl

theorem byteV_ofNat (n : Nat) (h : n < 256) : byteV (UInt8.ofNat n) = .int .u8 (n : Int) := by
  unfold byteV
  rw [toNat_ofNat_lt n h]

/-- The one-byte slice of a number below 256 as a string. -/
theorem conv_one (w : World) (n : Int) (h0 : 0 ≤ n) (h1 : n < 256) :
    (convert 48 9 (.slice (some ⟨w.heap.size, 0, none⟩) 1 1)).run Try.prog (w.alloc (.cells #[.int .u8 n] 5)) = .ok (.string ⟨#[UInt8.ofNat n.toNat]⟩) (w.alloc (.cells #[.int .u8 n] 5)) := by
  have h := owns_new w 5 [byteV (UInt8.ofNat n.toNat)] 1 rfl (by simp [maxLen])
  rw [byteV_ofNat _ (by omega), Int.toNat_of_nonneg h0] at h
  refine run_string_own (l := [UInt8.ofNat n.toNat]) 48 5 9 Try.underlying48 Try.underlying5 Try.underlying9 (base := w.heap.size) (n := 1) ?_ (by omega)
  rw [List.map_cons, List.map_nil, byteV_ofNat _ (by omega), Int.toNat_of_nonneg h0]
  exact h

theorem num_one (n : Int) (w : World) (h0 : 0 ≤ n) (h1 : n < 248) :
    Calls Try.prog 27 #[.int .u64 n] w fun e w' => e = .returned (.string ⟨(numB n.toNat).toArray⟩) ∧ Below w.heap.size w w' := by
  have hconv := conv_one w n h0 (by omega)
  have HN : Hid (numB n.toNat = [UInt8.ofNat n.toNat]) := Lib.hid (by unfold numB; rw [if_pos (by omega)])
  go_enter Try.func27, Try.ntmps27
  go_wp2
  go_ret
  exact ⟨ret_str HN.out.symm, (Below.refl _ _).alloc (Nat.le_refl _) _⟩

theorem bitLen_sz : ∀ (f n : Nat), n < 256 ^ (f + 1) → n < 18446744073709551616 → 0 < n → (Lib.bitLen n + 7) / 8 = szF f n := by
  intro f
  induction f with
  | zero =>
    intro n h h' h0
    have e : ∀ m : Fin 256, 0 < m.val → (Lib.bitLen m.val + 7) / 8 = 1 := by decide +kernel
    exact e ⟨n, by simpa using h⟩ h0
  | succ f ih =>
    intro n h h' h0
    simp only [szF]
    split
    · have e : ∀ m : Fin 256, 0 < m.val → (Lib.bitLen m.val + 7) / 8 = 1 := by decide +kernel
      exact e ⟨n, by assumption⟩ h0
    · rw [Lib.bitLen_shift8 n (by omega) h', ← ih (n / 256) (by rw [Nat.div_lt_iff_lt_mul (by omega)]; rw [Nat.pow_succ] at h; exact h) (by omega) (by omega)]
      omega

theorem shift_byte (n k : Nat) : n / 2 ^ (8 * k) = n / 256 ^ k := by rw [Nat.pow_mul]

theorem bitLen_le (n : Nat) (h : n < 18446744073709551616) (h0 : 0 < n) : Lib.bitLen n ≤ 64 := by
  have a := bitLen_sz 7 n (by omega) h h0
  have b := szF_bd 7 n
  omega

/-- The loop's round: one byte more. -/
theorem be_step (n s k : Nat) (hk : k < s) : be (s - (k + 1)) (n / 256 ^ (k + 1)) ++ [UInt8.ofNat (n / 256 ^ k)] = be (s - k) (n / 256 ^ k) := by
  rw [show s - k = (s - (k + 1)) + 1 by omega, be, Nat.div_div_eq_div_mul, ← Nat.pow_succ]

theorem byteV_byte (n j : Nat) : byteV (UInt8.ofNat (n / 256 ^ j)) = .int .u8 ((n : Int) / 2 ^ (8 * j) % 256) := by
  unfold byteV
  rw [← shift_byte]
  simp

set_option maxHeartbeats 1000000 in
theorem num_many (n : Nat) (w : World) (h0 : 248 ≤ n) (h1 : n < 18446744073709551616) :
    Calls Try.prog 27 #[.int .u64 (n : Int)] w fun e w' => e = .returned (.string ⟨(numB n).toArray⟩) ∧ Below w.heap.size w w' := by
  obtain ⟨i0, hi, hz0, hz1, hz2⟩ := info_parts info_u8
  obtain ⟨hs0, hs8⟩ := sz_bd n
  have HN : Hid (numB n = UInt8.ofNat (247 + sz n) :: be (sz n) n) := Lib.hid (by unfold numB; rw [if_neg (by omega)])
  have hL := bitLen_le n h1 (by omega)
  have hB : ((Lib.bitLen n : Int) + 7) / 8 = (sz n : Int) := by have := bitLen_sz 7 n (by omega) h1 (by omega); unfold sz; omega
  generalize hk : sz n = s at *
  clear hk
  have hb0 := byteV_ofNat (247 + s) (by omega)
  generalize UInt8.ofNat (247 + s) = b0 at *
  have HB0 := Lib.hid hb0
  clear hb0
  generalize hkL : Lib.bitLen n = L at *
  have HL := Lib.hid hkL
  clear hkL
  go_enter Try.func27, Try.ntmps27
  go_wp2_with fail
  refine (Try.bits_Len64 _ _ (by omega) (by omega)).mono ?_
  rintro e w' ⟨rfl, rfl⟩
  rw [Int.toNat_natCast, HL.out]
  go_wp2_with fail
  simp only [hB]
  clear hB
  have hst := owns_new w' 5 [byteV b0] 1 rfl (by simp [maxLen])
  rw [HB0.out] at hst
  go_loopw [4, 5] (fun v i wr => ∃ k : Nat, k ≤ s ∧ i = .int .i64 ((k : Int) - 1) ∧ wr.ownsRow w'.heap.size 5 1 v (1 + (s - k)) ((b0 :: be (s - k) (n / 256 ^ k)).map byteV) ∧ Below w'.heap.size w' wr)
    (fun _ i _ => (intOf i + 1).toNat)
  case atStart =>
    refine ⟨s, Nat.le_refl _, rfl, ?_, (Below.refl _ _).alloc (Nat.le_refl _) _⟩
    rw [Nat.sub_self]
    simp only [be, List.map_cons, List.map_nil]
    rw [HB0.out]
    simpa using hst
  case round =>
    obtain ⟨k, hk, rfl, hown, hbel⟩ := hrel
    clear hst
    rcases k with _ | j
    · have hl : 1 + (s - 0) = 1 + s := by omega
      rw [hl] at hown
      have hconv := run_string_own (P := Try.prog) (l := b0 :: be (s - 0) (n / 256 ^ 0)) 48 5 9 Try.underlying48 Try.underlying5 Try.underlying9 (base := w'.heap.size) hown (by omega)
      clear hl
      go_wp2
      go_ret
      refine ⟨ret_str ?_, hbel⟩
      rw [HN.out]
    · have hbase := hbel.size
      have hbase' : w'.heap.size ≤ (wr.alloc (Obj.cells #[.int .u8 ((n : Int) / 2 ^ (8 * j) % 256)] 5)).heap.size := by simp; omega
      go_wp2_with (at_builtin; refine wpList_append_own _ rfl (.tmp 26) (.tmp 32) 48 rfl w'.heap.size 5 i0 (.int .u8 0) 1 1 Try.underlying48 hi hz0 hz1 hz2 rfl (by decide) _ _ _ rfl (hown.alloc _) ⟨wr.heap.size, 0, none⟩ 1 1 [.int .u8 ((n : Int) / 2 ^ (8 * j) % 256)] rfl rfl ?c1 ?c2 ?c3 ?c4 ?c5 ?_)
      case c1 =>
        intro i u hu
        match i, hu with
        | 0, hu => simp at hu; subst hu; simp [Addr.add]
      case c2 => intro u hu; simp at hu; subst hu; rfl
      case c3 => unfold maxLen; omega
      case c4 => omega
      case c5 => exact hbase'
      intro v' w1 hown' hgrow _
      have hlt := fun k hk => (hown.lt k hk).1
      go_wp2
      go_roundw
      case rel =>
        refine ⟨j, by omega, rfl, ?_, ?_⟩
        · rw [show (1 + (s - j)) = 1 + (s - (j + 1)) + 1 by omega, ← be_step n s j (by omega), ← List.cons_append, List.map_append, List.map_cons (l := []), List.map_nil, byteV_byte n j]
          simpa using hown'
        · exact (hbel.alloc hbase _).grown hgrow hbase' hlt
      case measure => simp [intOf]

/-- Num of any number: its bytes; nothing that was there has turned. -/
theorem num_any (n : Int) (w : World) (h0 : 0 ≤ n) (h1 : n < 18446744073709551616) :
    Calls Try.prog 27 #[.int .u64 n] w fun e w' => e = .returned (.string ⟨(numB n.toNat).toArray⟩) ∧ Below w.heap.size w w' := by
  by_cases h : n < 248
  · exact num_one n w h0 h
  · obtain ⟨m, rfl⟩ := Int.eq_ofNat_of_zero_le h0
    rw [Int.toNat_natCast]
    exact num_many m w (by omega) (by omega)
end Go.Proofs.Ytpljlncolkecpaa.Codec
