/-
  Contracts of package fairwayref02 (the document's answer for layer 2): Read, Int, Text: as their namesakes of package codec.
-/
import Derived.Test.YtpljlncolkecpaaCodecR
import Derived.IntWalk
namespace Go.Proofs.Ytpljlncolkecpaa.Codec
open Go.RowKit Go.Proofs.Ytpljlncolkecpaa.Mem

theorem rint_any (n : Int) (w : World) (h0 : -9223372036854775808 ≤ n) (h1 : n ≤ 9223372036854775807) :
    Calls Try.prog 21 #[.int .i64 n] w fun e w' => e = .returned (.string ⟨(intB n).toArray⟩) ∧ Below w.heap.size w w' := by
  by_cases ha : n < -1
  · have HI : Hid (intB n = []) := Lib.hid (by unfold intB; rw [if_pos (Or.inl ha)])
    go_enter Try.func21, Try.ntmps21
    go_wp2
    go_ret
    exact ⟨ret_str HI.out.symm, Below.refl _ _⟩
  · by_cases hb : 1099511627776 < n
    · have HI : Hid (intB n = []) := Lib.hid (by unfold intB; rw [if_pos (Or.inr hb)])
      go_enter Try.func21, Try.ntmps21
      go_wp2
      go_ret
      exact ⟨ret_str HI.out.symm, Below.refl _ _⟩
    · have HI : Hid (intB n = numB (n + 1).toNat) := Lib.hid (by unfold intB; rw [if_neg (by omega)])
      go_enter Try.func21, Try.ntmps21
      go_wp2_with (go_at_call 28; refine (rnum_any _ _ (by omega) (by omega)).mono ?_; rintro e w' ⟨rfl, hbel⟩)
      go_ret
      exact ⟨ret_str HI.out.symm, hbel⟩

theorem rtext_any (s : List UInt8) (w : World) (hs : s.length ≤ 4294967296) :
    Calls Try.prog 22 #[.string ⟨s.toArray⟩] w fun e w' => e = .returned (.string ⟨(textB s).toArray⟩) ∧ Below w.heap.size w w' := by
  have hl := numB_len s.length
  have HT : Hid (textB s = numB s.length ++ s) := Lib.hid rfl
  go_enter Try.func22, Try.ntmps22
  go_wp2_with (go_at_call 28; refine (rnum_any _ _ (by omega) (by omega)).mono ?_; rintro e w' ⟨rfl, hbel⟩)
  go_ret
  exact ⟨by rw [HT.out, ← concat_of]; rfl, hbel⟩

theorem rread_none (s : ByteArray) (w : World) (h : s.data.toList = []) : Calls Try.prog 31 #[.string s] w fun e w' => e = .returned (.tuple #[.int .u64 0, .string ⟨#[]⟩, .bool false]) ∧ Below w.heap.size w w' := by
  obtain rfl : s = ⟨#[]⟩ := ByteArray.ext (Array.toList_inj.1 h)
  go_enter Try.func31, Try.ntmps31
  go_wp2
  go_ret3
  exact ⟨rfl, Below.refl _ _⟩

set_option maxRecDepth 100000 in
set_option maxHeartbeats 1000000 in
theorem rread_short (s : ByteArray) (b : UInt8) (t : List UInt8) (w : World) (h : s.data.toList = b :: t) (_hs : s.size ≤ 4294967296) (hb : 247 < (b.toNat : Int)) (hl : t.length < b.toNat - 247) :
    Calls Try.prog 31 #[.string s] w fun e w' => e = .returned (.tuple #[.int .u64 0, .string ⟨#[]⟩, .bool false]) ∧ Below w.heap.size w w' := by
  have hz := size_of h
  have h1 : 0 < s.size := by rw [hz]; simp
  have e0 := Lib.hid (at_of h 0 (by simp) h1)
  have hne : ((s.size : Int) == 0) = false := beq_eq_false_iff_ne.2 (by omega)
  have hb' : 247 < (s[0].toNat : Int) := by rw [e0.out]; simpa using hb
  have hb2 : (s[0].toNat : Int) ≤ 255 := by have := s[0].toNat_lt; omega
  have hlt : (s.size : Int) < s[0].toNat - 246 := by rw [e0.out, hz]; simp; omega
  clear h hz hb hl e0
  go_enter Try.func31, Try.ntmps31
  go_wp2
  go_ret3
  exact ⟨rfl, Below.refl _ _⟩

set_option maxRecDepth 100000 in
set_option maxHeartbeats 1000000 in
theorem rread_small (s : ByteArray) (b : UInt8) (t : List UInt8) (w : World) (h : s.data.toList = b :: t) (hs : s.size ≤ 4294967296) (hb : (b.toNat : Int) < 248) :
    Calls Try.prog 31 #[.string s] w fun e w' => e = .returned (.tuple #[.int .u64 (b.toNat : Int), .string ⟨t.toArray⟩, .bool true]) ∧ Below w.heap.size w w' := by
  have hz := size_of h
  have h1 : 0 < s.size := by rw [hz]; simp
  have e0 := Lib.hid (at_of h 0 (by simp) h1)
  have HX1 := Lib.hid (show (s.extract 0 1).toList = [b] by rw [ByteArray.toList_eq, extract_of h]; simp)
  have HX2 := Lib.hid (show s.extract 1 s.size = ⟨t.toArray⟩ by rw [extract_of h, hz]; simp)
  have hcmp : (numB s[0].toNat == (s.extract 0 1).toList) = true := by
    rw [HX1.out, e0.out]; simp; unfold numB; rw [if_pos (by omega)]; simp
  have hne : ((s.size : Int) == 0) = false := beq_eq_false_iff_ne.2 (by omega)
  have hb' : (s[0].toNat : Int) ≤ 247 := by rw [e0.out]; simp; omega
  have hwr : IntKind.i64.wrap 1 = 1 := by decide
  have hs1 : (1 : Int) ≤ (s.size : Int) := by omega
  have hs2 : 1 ≤ s.size := by omega
  clear h hz hb
  go_enter Try.func31, Try.ntmps31
  go_wp2
  refine wp_loop_rounds 1 ?_
  rw [rounds_succ]
  go_wp2
  go_region_with (go_at_call 28; refine (rnum_any _ _ (by omega) (by omega)).mono ?_; rintro e w' ⟨rfl, hbel⟩)
  all_goals go_wp2
  all_goals go_quiet (fail)
  all_goals go_wp2
  all_goals go_ret3
  all_goals
    refine ⟨ret_of ?_, below_drewN (undrew hbel) _⟩
    rw [HX2.out, e0.out]
    rfl

set_option maxRecDepth 100000 in
set_option maxHeartbeats 1000000 in
theorem rread_long (s : ByteArray) (b : UInt8) (t : List UInt8) (w : World) (h : s.data.toList = b :: t) (hs : s.size ≤ 4294967296) (k : Nat) (hb : (b.toNat : Int) = 247 + k) (hk : 1 ≤ k ∧ k ≤ 8) (hl : k ≤ t.length) :
    Calls Try.prog 31 #[.string s] w fun e w' => e = .returned (readV (readS (b :: t))) ∧ Below w.heap.size w w' := by
  have hz := size_of h
  have h1 : 0 < s.size := by rw [hz]; simp
  have e0 := Lib.hid (at_of h 0 (by simp) h1)
  have hne : ((s.size : Int) == 0) = false := beq_eq_false_iff_ne.2 (by omega)
  have hk0 : ((k : Int) == 0) = false := beq_eq_false_iff_ne.2 (by omega)
  have hb' : (s[0].toNat : Int) = 247 + k := by rw [e0.out]; simpa using hb
  have hlt : (k : Int) < s.size := by rw [hz]; simp; omega
  have hrd : readS (b :: t) = if numB (upTo t k) = b :: t.take k then some (upTo t k, t.drop k) else none := by
    simp only [readS]
    rw [if_neg (by omega), show b.toNat - 247 = k by omega, if_neg (by omega)]
    rfl
  have hx1 : (s.extract 0 (1 + k)).toList = b :: t.take k := by rw [ByteArray.toList_eq, extract_of h]; simp [Nat.add_comm 1 k]
  have HX2 := Lib.hid (show s.extract (1 + k) s.size = ⟨(t.drop k).toArray⟩ by
    rw [extract_of h, hz]; simp [Nat.add_comm 1 k]; exact List.take_of_length_le (by simp))
  have hn8 : upTo t k < 18446744073709551616 := by
    have := upTo_lt t k
    have : 256 ^ k ≤ 256 ^ 8 := Nat.pow_le_pow_right (by omega) (by omega)
    omega
  have HB := Lib.hid hb
  have HT := Lib.hid (show ∀ j (h1 : 1 + j < s.size) (h2 : j < t.length), s[1 + j] = t[j] from fun j _ _ => by rw [at_of h (1 + j) (by simp; omega)]; simp [Nat.add_comm 1 j])
  clear h hz hb e0
  go_enter Try.func31, Try.ntmps31
  go_wp2_with fail
  simp only [show (247 + (k : Int) - 247) = k by omega, show decide (247 < 247 + (k : Int)) = true from decide_eq_true (by omega)]
  clear hb'
  go_loop [6, 7] (fun n i => ∃ j : Nat, j ≤ k ∧ i = .int .i64 (1 + (j : Int)) ∧ n = .int .u64 (upTo t j : Int)) (fun _ i => (1 + k - intOf i).toNat)
  case atStart => exact ⟨0, Nat.zero_le _, rfl, rfl⟩
  case round =>
    obtain ⟨j, hj, rfl, rfl⟩ := hrel
    have hu := upTo_lt t j
    by_cases hlt : j < k
    · have HU := Lib.hid (upTo_succ t j (by omega))
      have HS := Lib.hid (HT.out j (by omega) (by omega))
      have hp : 256 ^ (j + 1) ≤ 256 ^ 8 := Nat.pow_le_pow_right (by omega) (by omega)
      rw [Nat.pow_succ] at hp
      have hu2 : upTo t j * 256 + 256 ≤ 18446744073709551616 := by omega
      have hsb : ∀ h, ((s[1 + j]'h).toNat : Int) ≤ 255 := fun h => by have := (s[1 + j]'h).toNat_lt; omega
      clear hp hu
      go_wp2
      go_round
      case rel =>
        refine ⟨j + 1, by omega, by go_num, ?_⟩
        have hb := t[j].toNat_lt
        rw [HS.out, HU.out, wrap_u64 _ (by omega), IntWalk.u64_in _ (by omega)]
        simp
      case measure => simp [intOf]; omega
    · obtain rfl : j = k := by omega
      clear hu
      by_cases hok : numB (upTo t j) = b :: t.take j
      · have hwr : IntKind.i64.wrap (1 + (j : Int)) = 1 + (j : Int) := IntWalk.i64_in _ (by omega)
        have hw0 : 0 ≤ 1 + (j : Int) := by omega
        have hwn : (1 + (j : Int)).toNat = 1 + j := by omega
        have hcmp : (numB (upTo t j) == (s.extract 0 (1 + j)).toList) = true := by rw [hx1, hok]; simp
        have HR := Lib.hid (hrd.trans (if_pos hok))
        clear hrd hok hx1
        go_wp2_with fail
        go_region_with (go_at_call 28; refine (rnum_any _ _ (by omega) (by omega)).mono ?_; rintro e w' ⟨rfl, hbel⟩)
        all_goals go_wp2
        all_goals go_quiet (fail)
        all_goals go_wp2
        all_goals go_ret3
        all_goals
          refine ⟨ret_of ?_, below_drewN (undrew hbel) _⟩
          rw [HR.out, HX2.out]
          rfl
      · have hwr : IntKind.i64.wrap (1 + (j : Int)) = 1 + (j : Int) := IntWalk.i64_in _ (by omega)
        have hw0 : 0 ≤ 1 + (j : Int) := by omega
        have hwn : (1 + (j : Int)).toNat = 1 + j := by omega
        have hcmp : (numB (upTo t j) == (s.extract 0 (1 + j)).toList) = false := by rw [hx1]; simpa using hok
        have HR := Lib.hid (hrd.trans (if_neg hok))
        clear hrd hok hx1
        go_wp2_with fail
        go_region_with (go_at_call 28; refine (rnum_any _ _ (by omega) (by omega)).mono ?_; rintro e w' ⟨rfl, hbel⟩)
        all_goals go_wp2
        all_goals go_ret3
        all_goals exact ⟨ret_of (by rw [HR.out]; rfl), undrew hbel⟩

/-- Read of any bytes: what the document says; nothing that was there has turned. -/
theorem rread_any (s : ByteArray) (w : World) (hs : s.size ≤ 4294967296) :
    Calls Try.prog 31 #[.string s] w fun e w' => e = .returned (readV (readS s.data.toList)) ∧ Below w.heap.size w w' := by
  cases h : s.data.toList with
  | nil => exact rread_none s w h
  | cons b t =>
    have hb := b.toNat_lt
    by_cases h1 : b.toNat < 248
    · rw [show readS (b :: t) = some (b.toNat, t) by simp only [readS]; rw [if_pos h1]]
      exact rread_small s b t w h hs (by omega)
    · by_cases h2 : t.length < b.toNat - 247
      · rw [show readS (b :: t) = none by simp only [readS]; rw [if_neg h1, if_pos h2]]
        exact rread_short s b t w h hs (by omega) h2
      · exact rread_long s b t w h hs (b.toNat - 247) (by omega) (by omega) (by omega)
end Go.Proofs.Ytpljlncolkecpaa.Codec
