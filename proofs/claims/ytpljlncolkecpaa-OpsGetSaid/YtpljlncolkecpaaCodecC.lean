/-
  Contracts of package codec (layer 2): Unint, Cut: of any bytes (fewer than 2^32) what the document says.
-/
import Derived.Test.YtpljlncolkecpaaCodecB
namespace Go.Proofs.Ytpljlncolkecpaa.Codec
open Go.RowKit Go.Proofs.Ytpljlncolkecpaa.Mem

def unintV : Option (Int × List UInt8) → Value
  | none => .tuple #[.int .i64 0, .string ⟨#[]⟩, .bool false]
  | some (n, r) => .tuple #[.int .i64 n, .string ⟨r.toArray⟩, .bool true]
def cutV : Option (List UInt8 × List UInt8) → Value
  | none => .tuple #[.string ⟨#[]⟩, .string ⟨#[]⟩, .bool false]
  | some (t, r) => .tuple #[.string ⟨t.toArray⟩, .string ⟨r.toArray⟩, .bool true]

theorem readS_lt {l : List UInt8} {n : Nat} {r : List UInt8} (h : readS l = some (n, r)) : n < 18446744073709551616 ∧ r.length ≤ l.length := by
  obtain ⟨e, hn⟩ := read_form h
  refine ⟨hn, ?_⟩
  rw [← e]; simp

set_option maxRecDepth 100000 in
theorem unint_any (s : ByteArray) (w : World) (hs : s.size ≤ 4294967296) :
    Calls Try.prog 29 #[.string s] w fun e w' => e = .returned (unintV (unintS s.data.toList)) ∧ Below w.heap.size w w' := by
  have h0 := read_any s w hs
  cases hr : readS s.data.toList with
  | none =>
    rw [hr] at h0
    have HU := Lib.hid (show unintS s.data.toList = none by unfold unintS; rw [hr])
    have H0 := Lib.hid h0
    clear h0 hr
    go_enter Try.func29, Try.ntmps29
    go_wp2_with (go_at_call 34; refine H0.out.mono ?_; rintro e w' ⟨rfl, hbel⟩; unfold readV)
    go_ret3
    exact ⟨ret_of (by rw [HU.out]; rfl), hbel⟩
  | some x =>
    obtain ⟨n, r⟩ := x
    rw [hr] at h0
    obtain ⟨hn, hrl⟩ := readS_lt hr
    have H0 := Lib.hid h0
    by_cases hb : 1099511627777 < (n : Int)
    · have HU := Lib.hid (show unintS s.data.toList = none by unfold unintS; rw [hr]; exact if_pos (by omega))
      clear h0 hr
      go_enter Try.func29, Try.ntmps29
      go_wp2_with (go_at_call 34; refine H0.out.mono ?_; rintro e w' ⟨rfl, hbel⟩; unfold readV)
      go_ret3
      exact ⟨ret_of (by rw [HU.out]; rfl), hbel⟩
    · have HU := Lib.hid (show unintS s.data.toList = some ((n : Int) - 1, r) by unfold unintS; rw [hr]; exact if_neg (by omega))
      have hb' : (n : Int) ≤ 1099511627777 := by omega
      clear h0 hr hb
      go_enter Try.func29, Try.ntmps29
      go_wp2_with (go_at_call 34; refine H0.out.mono ?_; rintro e w' ⟨rfl, hbel⟩; unfold readV)
      go_ret3
      exact ⟨ret_of (by rw [HU.out]; rfl), hbel⟩

set_option maxRecDepth 100000 in
theorem cut_any (s : ByteArray) (w : World) (hs : s.size ≤ 4294967296) :
    Calls Try.prog 30 #[.string s] w fun e w' => e = .returned (cutV (cutS s.data.toList)) ∧ Below w.heap.size w w' := by
  have h0 := read_any s w hs
  cases hr : readS s.data.toList with
  | none =>
    rw [hr] at h0
    have HU := Lib.hid (show cutS s.data.toList = none by unfold cutS; rw [hr])
    have H0 := Lib.hid h0
    clear h0 hr
    go_enter Try.func30, Try.ntmps30
    go_wp2_with (go_at_call 34; refine H0.out.mono ?_; rintro e w' ⟨rfl, hbel⟩; unfold readV)
    go_ret3
    exact ⟨ret_of (by rw [HU.out]; rfl), hbel⟩
  | some x =>
    obtain ⟨n, r⟩ := x
    rw [hr] at h0
    obtain ⟨hn, hrl⟩ := readS_lt hr
    have hrl2 : r.length ≤ 4294967296 := by simpa using Nat.le_trans hrl (by simpa using hs)
    have H0 := Lib.hid h0
    by_cases hb : (r.length : Int) < (n : Int)
    · have HU := Lib.hid (show cutS s.data.toList = none by unfold cutS; rw [hr]; exact if_pos (by omega))
      clear h0 hr hrl
      go_enter Try.func30, Try.ntmps30
      go_wp2_with (go_at_call 34; refine H0.out.mono ?_; rintro e w' ⟨rfl, hbel⟩; unfold readV)
      go_ret3
      exact ⟨ret_of (by rw [HU.out]; rfl), hbel⟩
    · have HU := Lib.hid (show cutS s.data.toList = some (r.take n, r.drop n) by unfold cutS; rw [hr]; exact if_neg (by omega))
      have hb' : (n : Int) ≤ (r.length : Int) := by omega
      have E1 := Lib.hid (show (⟨r.toArray⟩ : ByteArray).extract 0 n = ⟨(r.take n).toArray⟩ by rw [extract_of (l := r) rfl]; simp)
      have E2 := Lib.hid (show (⟨r.toArray⟩ : ByteArray).extract n r.length = ⟨(r.drop n).toArray⟩ by
        rw [extract_of (l := r) rfl]; exact congrArg (fun l : List UInt8 => (⟨l.toArray⟩ : ByteArray)) (List.take_of_length_le (by simp)))
      clear h0 hr hb hrl
      go_enter Try.func30, Try.ntmps30
      go_wp2_with (go_at_call 34; refine H0.out.mono ?_; rintro e w' ⟨rfl, hbel⟩; unfold readV)
      go_quiet (fail)
      go_wp2
      go_ret3
      refine ⟨ret_of ?_, below_drewN hbel _⟩
      rw [HU.out, E1.out, E2.out]
      rfl

end Go.Proofs.Ytpljlncolkecpaa.Codec
