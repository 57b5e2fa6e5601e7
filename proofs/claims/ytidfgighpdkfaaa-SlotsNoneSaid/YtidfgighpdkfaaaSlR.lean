/-
  Outcomes in memory and as arguments; contract of the document's answer for slots (fairwayref08): First. Conditions: those that each lemma names.
-/
import Derived.Test.YtidfgighpdkfaaaProg
import Derived.Test.YtidfgighpdkfaaaTyped
import Derived.Deep.LoopGhost
namespace Go.Proofs.Ytidfgighpdkfaaa.Sl
open Go.RowKit Go.Proofs.Ytidfgighpdkfaaa.Mem

abbrev TO : TypeId := 29
/-- An outcome. -/
structure O where
  kind : Int
  reason : Int
  code : Int
  val : ByteArray
  ver : Int
  at_ : Int
def nI (n : Int) : Value := .int .i64 n
def O.cells (o : O) : List Value := [.int .i64 o.kind, .int .i64 o.reason, .int .i64 o.code, .string o.val, .int .i64 o.ver, .int .i64 o.at_]
def zeroO : O := ⟨0, 0, 0, ⟨#[]⟩, 0, 0⟩
theorem O.cellsN (o : O) : CellsN 6 o.cells.toArray := ⟨rfl, all_oneCell_toArray (by simp [O.cells, Value.oneCell'])⟩
theorem zero_out : ∀ w, (zeroValue TO).run Try.prog w = .ok (.agg zeroO.cells.toArray) w := fun w => by kernel_rfl
theorem info_out : (Try.prog.info? TO).map (·.size) = some 6 := by kernel_rfl
theorem row_out : ∃ d, Try.prog.underlying TO = some d ∧ d.isRow = true := ⟨_, Try.underlying29, rfl⟩
/-- May it be set? -/
def O.ok (o : O) : Bool := decide (1 ≤ o.kind ∧ o.kind ≤ 3)
def first (l : List O) : Option O := l.find? (·.ok)
theorem first_snoc (l : List O) (o : O) : first (l ++ [o]) = (first l).or (if o.ok then some o else none) := by
  unfold first
  rw [List.find?_append]
  cases h : o.ok <;> simp [List.find?, h]
theorem first_one (o : O) : first [o] = if o.ok then some o else none := by
  unfold first
  cases h : o.ok <;> simp [List.find?, h]

def outTy : Ty := .pair (.int .i64) (.pair (.int .i64) (.pair (.pair (.int .i64) (.pair .str (.pair (.int .i64) (.pair (.int .i64) .unit)))) .unit))
theorem out_fits {w : World} {cs : List Value} (f : Fits w outTy cs) : ∃ o : O, cs = o.cells ∧ (o.val.size ≤ maxLen) ∧ (-9223372036854775808 ≤ o.kind ∧ o.kind ≤ 9223372036854775807) := by
  obtain ⟨_, _, rfl, ⟨a, rfl, ha⟩, _, _, rfl, ⟨b, rfl, _⟩, _, _, rfl, ⟨_, _, rfl, ⟨c, rfl, _⟩, _, _, rfl, ⟨s, rfl, hs⟩, _, _, rfl, ⟨d, rfl, _⟩, _, _, rfl, ⟨e, rfl, _⟩, rfl⟩, rfl⟩ := f
  exact ⟨⟨a, b, c, s, d, e⟩, rfl, hs, by have := bounds_i64 ha; simp; omega⟩
/-- The outcomes l, in memory. -/
def OutsAt (w : World) (ao : Option Addr) (l : List O) : Prop := ∀ (j : Nat) o, l[j]? = some o → ∃ b off, ao = some ⟨b, off, none⟩ ∧ b < w.heap.size ∧ w.rangeAt b (off + j * 6) o.cells
theorem OutsAt.below {w w' : World} {ao : Option Addr} {l : List O} (h : OutsAt w ao l) {B : Nat} (hb : Below B w w') (hB : ∀ b off, ao = some ⟨b, off, none⟩ → b < B) : OutsAt w' ao l := fun j o hj => by
  obtain ⟨b, off, e, h1, h2⟩ := h j o hj
  exact ⟨b, off, e, Nat.lt_of_lt_of_le h1 hb.size, rangeAt_below h2 hb (fun _ => hB b off e)⟩
theorem outs_fits {w : World} {ao : Option Addr} {ln cp : Nat} (f : Fits w (.slice outTy) [.slice ao ln cp]) : (ao = none → ln = 0) ∧ ln ≤ cp ∧ (cp : Int) ≤ 9223372036854775807 ∧ ∃ g : Nat → O, ∀ i, i < ln → ∃ b off, ao = some ⟨b, off, none⟩ ∧ b < w.heap.size ∧ w.rangeAt b (off + i * 6) (g i).cells ∧ (g i).val.size ≤ maxLen := by
  rcases f with f | ⟨a, len, cap, f, h1, h2, h3⟩
  · simp at f
    obtain ⟨rfl, rfl, rfl⟩ := f
    exact ⟨fun _ => rfl, Nat.le_refl _, by omega, fun _ => zeroO, fun i hi => by omega⟩
  · simp at f
    obtain ⟨rfl, rfl, rfl⟩ := f
    have hex : ∀ i, i < ln → ∃ o : O, ∃ b off, some a = some ⟨b, off, none⟩ ∧ b < w.heap.size ∧ w.rangeAt b (off + i * 6) o.cells ∧ o.val.size ≤ maxLen := by
      intro i hi
      obtain ⟨b, o, sp⟩ := a
      obtain ⟨hs, es, hl, hr, hf⟩ := h3 i hi
      simp only at hs hr
      subst hs
      obtain ⟨x, rfl, hx, _⟩ := out_fits hf
      exact ⟨x, b, o, rfl, World.block_lt_of_cell? w _ (hr 0 _ rfl), hr, hx⟩
    refine ⟨(fun h => by cases h), h1, by unfold maxLen at h2; omega, fun i => if h : i < ln then Classical.choose (hex i h) else zeroO, fun i hi => ?_⟩
    simp only [dif_pos hi]
    exact Classical.choose_spec (hex i hi)
theorem range_kind {w : World} {b off : Nat} {o : O} (h : w.rangeAt b off o.cells) : w.cell? ⟨b, off, none⟩ = some (.int .i64 o.kind) := h 0 _ rfl

def FirstP (w : World) (l : List O) (e : Ending) (w' : World) : Prop := e = .returned (.tuple #[.agg ((first l).getD zeroO).cells.toArray, .bool (first l).isSome]) ∧ Below w.heap.size w w'
set_option maxHeartbeats 1000000 in
theorem first_any (w : World) (ao : Option Addr) (cp : Nat) (l : List O) (h : OutsAt w ao l) (hl : l.length ≤ 1000000) :
    Calls Try.prog 8 #[.slice ao l.length cp] w (FirstP w l) := by
  obtain ⟨d, hd, hdr⟩ := row_out
  replace hd := Lib.hid hd
  have H := Lib.hid h
  have hl2 : (l.length : Int) ≤ 1000000 := by omega
  clear h
  go_enter Try.func8, Try.ntmps8
  go_wp2_with ((with_reducible show wpList _ _ _ (⟨_, .alloc _, _, _, _, _⟩ :: _) _ _); refine wpList_alloc_blk rfl TO rfl _ zero_out ?_; intro W3 B3 K3 S3; clear S3)
  go_loopg [4] l.length (fun g i wr => ∃ k : Nat, g = l.length - k ∧ k ≤ l.length ∧ i = .int .i64 (k : Int) ∧ wr = W3 ∧ Hid (first (l.take k) = none))
  case atStart => exact ⟨0, rfl, Nat.zero_le _, rfl, rfl, Lib.hid rfl⟩
  case round =>
    obtain ⟨k, hg, hk, rfl, rfl, hf⟩ := hrel
    replace hg := Lib.hid hg
    have hw : w.heap.size < wr.heap.size := K3.lt
    by_cases hlt : k < l.length
    · obtain ⟨o, ho⟩ : ∃ o, l[k]? = some o := ⟨_, List.getElem?_eq_getElem hlt⟩
      obtain ⟨b, off, rfl, hb, hr⟩ := H.out k o ho
      have hr2 : wr.rangeAt b (off + k * 6) o.cells := rangeAt_below hr B3 (fun _ => hb)
      have hc := range_kind hr2
      have hkk : (k : Int) < (l.length : Int) := by omega
      have ht : l.take (k + 1) = l.take k ++ [o] := by rw [List.take_add_one, ho]; rfl
      have hs := first_snoc (l.take k) o
      rw [hf.out, ← ht] at hs
      replace hr2 := Lib.hid hr2
      clear hr
      by_cases hok : o.ok = true
      · have hko : 1 ≤ o.kind ∧ o.kind ≤ 3 := by simpa [O.ok] using hok
        obtain ⟨k1, k3⟩ := hko
        have hfl : first l = some o := by
          have e : l = l.take (k + 1) ++ l.drop (k + 1) := (List.take_append_drop _ _).symm
          have : first (l.take (k + 1) ++ l.drop (k + 1)) = (first (l.take (k + 1))).or (first (l.drop (k + 1))) := by unfold first; rw [List.find?_append]
          rw [← e, hs] at this
          simpa [hok] using this
        replace hfl := Lib.hid hfl
        replace hs := Lib.hid hs
        replace ht := Lib.hid ht
        replace ho := Lib.hid ho
        go_wp2_with (first
          | ((with_reducible show wpList _ _ _ (⟨_, .load TO _, _, _, _, _⟩ :: _) _ _); refine wpList_load_mid rfl TO _ rfl b (off + k * 6) rfl o.cells d hr2.out hd.out hdr info_out ?_)
          | ((with_reducible show wpList _ _ _ (⟨none, .store TO _ _, _, _, _, _⟩ :: _) _ _); refine wpList_store_blk rfl TO _ _ rfl w.heap.size TO zeroO.cells o.cells 6 rfl rfl K3 rfl o.cellsN info_out ?_; intro W4 T4 K4 S4; clear S4))
        refine bodyPost_ret (results_cell2 (b := w.heap.size) (o := 0) (cs := o.cells) Try.results8 rfl K4.rangeAll hd.out hdr info_out) rfl ⟨?_, B3.trans (T4.below (Nat.le_of_lt hw) (by simp))⟩
        rw [hfl.out]
        rfl
      · have hko : ¬ (1 ≤ o.kind ∧ o.kind ≤ 3) := by simpa [O.ok] using hok
        have hs' : first (l.take (k + 1)) = none := by simpa [hok] using hs
        replace hs' := Lib.hid hs'
        replace hs := Lib.hid hs
        replace ht := Lib.hid ht
        replace ho := Lib.hid ho
        by_cases k1 : 1 ≤ o.kind
        · have k3 : ¬ o.kind ≤ 3 := fun h => hko ⟨k1, h⟩
          clear hko
          go_wp2_with fail
          go_roundg (l.length - (k + 1))
          case measure => have := hg.out; omega
          case rel => exact ⟨k + 1, rfl, by omega, by go_num, rfl, hs'⟩
        · clear hko
          go_wp2_with fail
          go_roundg (l.length - (k + 1))
          case measure => have := hg.out; omega
          case rel => exact ⟨k + 1, rfl, by omega, by go_num, rfl, hs'⟩
    · have hkk : k = l.length := by omega
      subst hkk
      rw [List.take_length] at hf
      go_wp2_with ((with_reducible show wpList _ _ _ (⟨none, .store TO _ _, _, _, _, _⟩ :: _) _ _); refine wpList_store_blk rfl TO _ _ rfl w.heap.size TO zeroO.cells zeroO.cells 6 rfl rfl K3 rfl zeroO.cellsN info_out ?_; intro W4 T4 K4 S4; clear S4)
      refine bodyPost_ret (results_cell2 (b := w.heap.size) (o := 0) (cs := zeroO.cells) Try.results8 rfl K4.rangeAll hd.out hdr info_out) rfl ⟨?_, B3.trans (T4.below (Nat.le_of_lt hw) (by simp))⟩
      rw [hf.out]
      rfl
end Go.Proofs.Ytidfgighpdkfaaa.Sl
