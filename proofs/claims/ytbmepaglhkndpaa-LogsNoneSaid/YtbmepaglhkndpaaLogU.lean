/-
  The landed log in memory (layer 11): its cells, what stays; contracts of none, Len, has, known, At, Result, Last, Look, Entries. Conditions: those that each names.
-/
import Derived.Test.YtbmepaglhkndpaaLogS
import Derived.Test.YtbmepaglhkndpaaKvC
import Derived.Test.YtbmepaglhkndpaaShelf
namespace Go.Proofs.Ytbmepaglhkndpaa.Logs
open Go.RowKit Go.Proofs.Ytbmepaglhkndpaa.Mem Go.Proofs.Ytbmepaglhkndpaa.Ops Go.Proofs.Ytbmepaglhkndpaa.Kv
abbrev TLg : TypeId := 59
/-- Is there an entry i; it; its result. -/
def inL (L : List E) (i : Int) : Bool := decide (1 ≤ i) && decide (i ≤ L.length)
def entAt (L : List E) (i : Int) : E := if inL L i = true then (L[(i - 1).toNat]?).getD zeroE else zeroE
def resAt (L : List E) (i : Int) : Rs := if inL L i = true then ((results L)[(i - 1).toNat]?).getD zeroR else zeroR
theorem inL_yes {L : List E} {i : Int} (h1 : 1 ≤ i) (h2 : i ≤ L.length) : inL L i = true := by unfold inL; simp [h1, h2]
theorem inL_low {L : List E} {i : Int} (h1 : ¬ 1 ≤ i) : inL L i = false := by unfold inL; simp [h1]
theorem inL_high {L : List E} {i : Int} (h1 : 1 ≤ i) (h2 : ¬ i ≤ L.length) : inL L i = false := by unfold inL; simp [h1]; omega
/-- A log's nine cells: both rows, each client's last entry's index, the store. -/
def lgC (ve vr : Value) (s : Nat) (f : Nat → Int) : List Value := [ve, vr, .int .i64 (f 0), .int .i64 (f 1), .int .i64 (f 2), .int .i64 (f 3), .int .i64 (f 4), .int .i64 (f 5), ptr s]
def lasts (L : List E) (k : Nat) : Int := (last L (k : Int)).2
theorem lgC_last (ve vr : Value) (s : Nat) (f : Nat → Int) (k : Nat) (h : k < 6) : (lgC ve vr s f)[2 + k]? = some (.int .i64 (f k)) := by
  have : k = 0 ∨ k = 1 ∨ k = 2 ∨ k = 3 ∨ k = 4 ∨ k = 5 := by omega
  rcases this with rfl | rfl | rfl | rfl | rfl | rfl <;> rfl
/-- Its entries: at each place its index, a client that may be. -/
def Valid (L : List E) : Prop := ∀ (i : Nat) (e : E), L[i]? = some e → e.index = (i : Int) + 1 ∧ 0 ≤ e.client ∧ e.client ≤ 5
structure LgAt1 (w : World) (p : Nat) (ve vr : Value) (s m : Nat) (L : List E) : Prop where
  blk : Blk w p TLg (lgC ve vr s (lasts L))
  ent : kE.Own w 0 ve L
  res : kR.Own w 0 vr (results L)
  st : StAt w s m (store L)
  good : Valid L
  many : L.length ≤ 4096
/-- A log that New made: its block p, all its blocks S, its entries. -/
def LgAt (w : World) (p : Nat) (S : List Nat) (L : List E) : Prop := ∃ ve vr s m, LgAt1 w p ve vr s m L ∧ S = p :: s :: m :: (ve.ownBlock.toList ++ vr.ownBlock.toList)
theorem LgAt1.keep {S' : List Nat} {w w' : World} {p : Nat} {ve vr : Value} {s m : Nat} {L : List E} (h : LgAt1 w p ve vr s m L) (t : Turned S' w w') (hp : p ∉ S') (hs : s ∉ S') (hm : m ∉ S') (he : ∀ k ∈ S', ve.ownBlock ≠ some k) (hr : ∀ k ∈ S', vr.ownBlock ≠ some k) : LgAt1 w' p ve vr s m L :=
  ⟨t.blk h.blk hp, h.ent.turned t he, h.res.turned t hr, h.st.keep t hs hm, h.good, h.many⟩
theorem LgAt1.below {w w' : World} {p : Nat} {ve vr : Value} {s m : Nat} {L : List E} (h : LgAt1 w p ve vr s m L) (hb : Below w.heap.size w w') : LgAt1 w' p ve vr s m L := h.keep (Turned.of_below hb) (by simp) (by simp) (by simp) (by simp) (by simp)
theorem LgAt.mem {w : World} {p : Nat} {S : List Nat} {L : List E} (h : LgAt w p S L) : p ∈ S := by obtain ⟨_, _, _, _, _, rfl⟩ := h; simp
theorem LgAt.lt {w : World} {p : Nat} {S : List Nat} {L : List E} (h : LgAt w p S L) : ∀ b ∈ S, b < w.heap.size := by
  obtain ⟨ve, vr, s, m, h, rfl⟩ := h
  intro b hb
  simp only [List.mem_cons, List.mem_append, Option.mem_toList] at hb
  rcases hb with rfl | rfl | rfl | hb | hb
  · exact h.blk.lt
  · exact h.st.lt.1
  · exact h.st.lt.2
  · exact (h.ent.lt b (by simpa using hb)).2
  · exact (h.res.lt b (by simpa using hb)).2
theorem LgAt.keep {S' : List Nat} {w w' : World} {p : Nat} {S : List Nat} {L : List E} (h : LgAt w p S L) (t : Turned S' w w') (hd : ∀ b ∈ S, b ∉ S') : LgAt w' p S L := by
  obtain ⟨ve, vr, s, m, h, rfl⟩ := h
  refine ⟨ve, vr, s, m, h.keep t (hd _ (by simp)) (hd _ (by simp)) (hd _ (by simp)) (fun k hk e => hd k (by simp [e]) hk) (fun k hk e => hd k (by simp [e]) hk), rfl⟩

set_option maxRecDepth 100000
set_option maxHeartbeats 2000000
section
variable {p s m : Nat} {ve vr : Value} {L : List E} {w : World}
theorem LgAt1.c0 (h : LgAt1 w p ve vr s m L) : w.cell? ⟨p, 0, none⟩ = some ve := h.blk.cell 0
theorem LgAt1.c1 (h : LgAt1 w p ve vr s m L) : w.cell? ⟨p, 1, none⟩ = some vr := h.blk.cell 1
theorem LgAt1.c8 (h : LgAt1 w p ve vr s m L) : w.cell? ⟨p, 8, none⟩ = some (ptr s) := h.blk.cell 8
end
theorem lnone_at (w : World) (p s : Nat) (c8 : w.cell? ⟨p, 8, none⟩ = some (ptr s)) : Calls Try.prog 24 #[ptr p] w fun e w' => e = .returned (.bool false) ∧ w' = w := by
  go_enter Try.func24, Try.ntmps24
  go_wp2_with fail
  go_ret
  exact ⟨rfl, rfl⟩
theorem len_at (w : World) (p : Nat) (ve vr : Value) (s m : Nat) (L : List E) (h : LgAt1 w p ve vr s m L) : Calls Try.prog 13 #[ptr p] w fun e w' => e = .returned (.int .i64 L.length) ∧ w' = w := by
  have c0 := h.c0
  have N := Lib.hid (lnone_at w p s h.c8)
  obtain ⟨ao, cap, rfl, _⟩ := h.ent.form
  clear h
  go_enter Try.func13, Try.ntmps13
  go_wp2_with (go_at_call 24; refine N.out.mono ?_; rintro e w2 ⟨rfl, rfl⟩)
  go_ret
  exact ⟨rfl, rfl⟩
theorem has_at (w : World) (p : Nat) (ve vr : Value) (s m : Nat) (L : List E) (h : LgAt1 w p ve vr s m L) (i : Int) : Calls Try.prog 36 #[ptr p, .int .i64 i] w fun e w' => e = .returned (.bool (inL L i)) ∧ w' = w := by
  have LN := Lib.hid (len_at w p ve vr s m L h)
  clear h
  by_cases h1 : 1 ≤ i
  · by_cases h2 : i ≤ L.length
    · have hi := Lib.hid (inL_yes h1 h2)
      go_enter Try.func36, Try.ntmps36
      go_wp2_with (go_at_call 13; refine LN.out.mono ?_; rintro e w2 ⟨rfl, rfl⟩)
      go_ret
      exact ⟨ret_bool hi.out.symm, rfl⟩
    · have hi := Lib.hid (inL_high h1 h2)
      go_enter Try.func36, Try.ntmps36
      go_wp2_with (go_at_call 13; refine LN.out.mono ?_; rintro e w2 ⟨rfl, rfl⟩)
      go_ret
      exact ⟨ret_bool ((decide_eq_false (by omega)).trans hi.out.symm), rfl⟩
  · have hi := Lib.hid (inL_low (L := L) h1)
    go_enter Try.func36, Try.ntmps36
    go_wp2_with fail
    go_ret
    exact ⟨ret_bool hi.out.symm, rfl⟩
/-- May a client have that number? -/
def kn (c : Int) : Bool := decide (0 ≤ c) && decide (c ≤ 5)
theorem known_any (c : Int) (w : World) : Calls Try.prog 37 #[.int .i64 c] w fun e w' => e = .returned (.bool (kn c)) ∧ w' = w := by
  by_cases h1 : 0 ≤ c
  · by_cases h2 : c < 6
    · have hi := Lib.hid (show kn c = true by unfold kn; simp; omega)
      go_enter Try.func37, Try.ntmps37
      go_wp2_with fail
      go_ret
      exact ⟨ret_bool hi.out.symm, rfl⟩
    · have hi := Lib.hid (show kn c = false by unfold kn; simp; omega)
      go_enter Try.func37, Try.ntmps37
      go_wp2_with fail
      go_ret
      exact ⟨ret_bool hi.out.symm, rfl⟩
  · have hi := Lib.hid (show kn c = false by unfold kn; simp; omega)
    go_enter Try.func37, Try.ntmps37
    go_wp2_with fail
    go_ret
    exact ⟨ret_bool hi.out.symm, rfl⟩
end Go.Proofs.Ytbmepaglhkndpaa.Logs
