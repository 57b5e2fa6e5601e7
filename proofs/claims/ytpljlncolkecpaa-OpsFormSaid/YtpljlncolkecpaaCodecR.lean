/-
  Contracts of package fairwayref02 (the document's answer for layer 2): digits, Num.
-/
import Derived.Test.YtpljlncolkecpaaCodecC
namespace Go.Proofs.Ytpljlncolkecpaa.Codec
open Go.RowKit Go.Proofs.Ytpljlncolkecpaa.Mem

theorem byteV_mod (n : Nat) : byteV (UInt8.ofNat n) = .int .u8 ((n : Int) % 256) := by
  unfold byteV
  simp

set_option maxRecDepth 100000 in
set_option maxHeartbeats 1000000 in
theorem digits_any : ∀ (f n : Nat) (w : World), n < 256 ^ (f + 1) → f ≤ 7 →
    Calls Try.prog 33 #[.int .u64 (n : Int)] w fun e w' => ∃ v, e = .returned v ∧ w'.ownsRow w.heap.size 5 1 v (szF f n) ((be (szF f n) n).map byteV) ∧ Below w.heap.size w w' := by
  have small : ∀ (n : Nat) (w : World), (n : Int) < 256 → Calls Try.prog 33 #[.int .u64 (n : Int)] w fun e w' => ∃ v, e = .returned v ∧ w'.ownsRow w.heap.size 5 1 v 1 ([UInt8.ofNat n].map byteV) ∧ Below w.heap.size w w' := by
    intro n w h
    have hown := owns_new w 5 [byteV (UInt8.ofNat n)] 1 rfl (by simp [maxLen])
    rw [byteV_ofNat _ (by omega)] at hown
    have HO := Lib.hid hown
    have HB := Lib.hid (byteV_ofNat n (by omega))
    clear hown
    go_enter Try.func33, Try.ntmps33
    go_wp2
    go_ret
    refine ⟨_, rfl, ?_, (Below.refl _ _).alloc (Nat.le_refl _) _⟩
    rw [List.map_cons, List.map_nil, HB.out]
    exact HO.out
  intro f
  induction f with
  | zero =>
    intro n w h hf
    exact small n w (by simp at h; omega)
  | succ f ih =>
    intro n w h hf
    by_cases hn : (n : Int) < 256
    · simp only [szF]
      rw [if_pos (by omega)]
      exact small n w hn
    · have hp : 256 ^ (f + 1 + 1) ≤ 256 ^ 8 := Nat.pow_le_pow_right (by omega) (by omega)
      have hd : n / 256 < 256 ^ (f + 1) := by rw [Nat.div_lt_iff_lt_mul (by omega)]; rw [Nat.pow_succ] at h; exact h
      have h0 := ih (n / 256) w hd (by omega)
      rw [show ((n / 256 : Nat) : Int) = (n : Int) / 256 by omega] at h0
      have H0 := Lib.hid h0
      clear h0
      have HS := Lib.hid (show szF (f + 1) n = szF f (n / 256) + 1 by simp only [szF]; rw [if_neg (by omega)])
      have hsz := szF_bd f (n / 256)
      obtain ⟨i0, hi, hz0, hz1, hz2⟩ := info_parts info_u8
      have hn2 : n < 18446744073709551616 := by omega
      have hn3 : 256 ≤ (n : Int) := by omega
      generalize hs : szF f (n / 256) = s at *
      clear ih hs small hp h hd hn
      rw [HS.out]
      go_enter Try.func33, Try.ntmps33
      go_wp2_with fail
      refine H0.out.mono ?_
      rintro e w1 ⟨v, rfl, hown, hbel⟩
      have hbase := hbel.size
      go_wp2_with (at_builtin; refine wpList_append_own _ rfl (.tmp 10) (.tmp 14) 48 rfl w.heap.size 5 i0 (.int .u8 0) 1 1 Try.underlying48 hi hz0 hz1 hz2 rfl (by decide) _ _ _ rfl (hown.alloc _) ⟨w1.heap.size, 0, none⟩ 1 1 [.int .u8 ((n : Int) % 256)] rfl rfl ?c1 ?c2 ?c3 ?c4 ?c5 ?_)
      case c1 =>
        intro i u hu
        match i, hu with
        | 0, hu => simp at hu; subst hu; simp [Addr.add]
      case c2 => intro u hu; simp at hu; subst hu; rfl
      case c3 => unfold maxLen; omega
      case c4 => omega
      case c5 => simp; omega
      intro v' w2 hown' hgrow _
      have hlt := fun k hk => (hown.lt k hk).1
      go_wp2
      go_ret
      refine ⟨_, rfl, ?_, (hbel.alloc hbase _).grown hgrow (by simp; omega) hlt⟩
      rw [be, List.map_append, List.map_cons, List.map_nil, byteV_mod n]
      exact hown'

set_option maxRecDepth 100000 in
set_option maxHeartbeats 1000000 in
theorem rnum_any (n : Int) (w : World) (h0 : 0 ≤ n) (h1 : n < 18446744073709551616) :
    Calls Try.prog 28 #[.int .u64 n] w fun e w' => e = .returned (.string ⟨(numB n.toNat).toArray⟩) ∧ Below w.heap.size w w' := by
  by_cases h : n < 248
  · have hconv := conv_one w n h0 (by omega)
    have HN : Hid (numB n.toNat = [UInt8.ofNat n.toNat]) := Lib.hid (by unfold numB; rw [if_pos (by omega)])
    clear h1
    go_enter Try.func28, Try.ntmps28
    go_wp2
    go_ret
    exact ⟨ret_str HN.out.symm, (Below.refl _ _).alloc (Nat.le_refl _) _⟩
  · obtain ⟨m, rfl⟩ := Int.eq_ofNat_of_zero_le h0
    rw [Int.toNat_natCast]
    have hm : m < 18446744073709551616 := by omega
    have hn3 : 248 ≤ (m : Int) := by omega
    obtain ⟨i0, hi, hz0, hz1, hz2⟩ := info_parts info_u8
    obtain ⟨hs0, hs8⟩ := sz_bd m
    have HN : Hid (numB m = UInt8.ofNat (247 + sz m) :: be (sz m) m) := Lib.hid (by unfold numB; rw [if_neg (by omega)])
    have H0 := Lib.hid (digits_any 7 m w (by omega) (by omega))
    have hb0 := byteV_ofNat (247 + sz m) (by omega)
    rw [show ((247 + sz m : Nat) : Int) = 247 + (sz m : Int) by omega] at hb0
    unfold sz at *
    generalize hk : szF 7 m = s at *
    clear hk h h1 h0
    generalize UInt8.ofNat (247 + s) = b0 at *
    have HB0 := Lib.hid hb0
    clear hb0
    go_enter Try.func28, Try.ntmps28
    go_wp2_with fail
    refine H0.out.mono ?_
    rintro e w1 ⟨v, rfl, hown, hbel⟩
    have hbase := hbel.size
    obtain ⟨g, cap, rfl, hg, hgl⟩ := hown.form (by omega)
    have hcells := hown.cells (g := g) rfl
    have hlen : (be s m).length = s := be_len _ _
    have hst := owns_new w1 5 [byteV b0] 1 rfl (by simp [maxLen])
    rw [HB0.out] at hst
    have hcells' : ∀ j u, ((be s m).map byteV)[j]? = some u → (w1.alloc (Obj.cells #[Value.int IntKind.u8 (247 + (s : Int))] 5)).cell? ((⟨g, 0, none⟩ : Addr).add j) = some u := fun j u hu => by
      have e1 : (⟨g, 0, none⟩ : Addr).add j = ⟨g, j, none⟩ := by unfold Addr.add; split <;> simp_all
      have := hcells j u hu
      rw [e1] at this ⊢
      rw [World.cell?_alloc_past _ _ _ hgl]; exact this
    have HC := Lib.hid hcells'
    clear hcells hcells'
    go_wp2_with (at_builtin; refine wpList_append_own _ rfl (.tmp 16) (.tmp 17) 48 rfl w1.heap.size 5 i0 (.int .u8 0) 1 1 Try.underlying48 hi hz0 hz1 hz2 rfl (by decide) _ _ _ rfl hst ⟨g, 0, none⟩ s cap ((be s m).map byteV) rfl ?c0 HC.out (one_byte _) ?c3 ?c4 ?c5 ?_)
    case c0 => simp [be_len]
    case c3 => unfold maxLen; omega
    case c4 => omega
    case c5 => simp
    intro v' w2 hown' hgrow _
    have hconv := run_string_own (P := Try.prog) (l := b0 :: be s m) 48 5 9 Try.underlying48 Try.underlying5 Try.underlying9 (v := v') (w := w2) (base := w1.heap.size) (n := 1 + s) (by rw [List.map_cons, HB0.out]; exact hown') (by omega)
    clear hown'
    go_wp2
    go_ret
    refine ⟨ret_str HN.out.symm, (hbel.alloc hbase _).grown hgrow (by simp; omega) (fun k hk => ?_)⟩
    simp [Value.ownBlock] at hk
    omega
end Go.Proofs.Ytpljlncolkecpaa.Codec
