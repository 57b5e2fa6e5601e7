/-
  Cells of the document's answer in memory (a slice that the call owns); contracts of fairwayref10: Look, without. Conditions: those that each names.
-/
import Derived.Test.YtbmepaglhkndpaaOpsR
import Derived.Test.YtbmepaglhkndpaaKvMath
import Derived.Test.YtbmepaglhkndpaaBuild
import Derived.Deep.LoopGhost
import Derived.StillTailTactics
namespace Go.Proofs.Ytbmepaglhkndpaa.Kv
open Go.RowKit Go.Proofs.Ytbmepaglhkndpaa.Mem Go.Proofs.Ytbmepaglhkndpaa.Ops
set_option maxRecDepth 100000

abbrev TC : TypeId := 86
abbrev TL : TypeId := 67
abbrev TR : TypeId := 38
abbrev ptr (p : Nat) : Value := .pointer (some ⟨p, 0, none⟩)
def str (l : List UInt8) : Value := .string ⟨l.toArray⟩
def C.cells (c : C) : List Value := [.string ⟨c.key.toArray⟩, .string ⟨c.val.toArray⟩, .int .i64 c.ver]
def Rs.cells (r : Rs) : List Value := [.int .i64 r.code, .string ⟨r.val.toArray⟩, .int .i64 r.ver, .int .i64 r.at_]
theorem C.cellsN (c : C) : CellsN 3 c.cells.toArray := ⟨rfl, all_oneCell_toArray (by simp [C.cells, Value.oneCell'])⟩
theorem Rs.cellsN (r : Rs) : CellsN 4 r.cells.toArray := ⟨rfl, all_oneCell_toArray (by simp [Rs.cells, Value.oneCell'])⟩
theorem zero_res : ∀ w, (zeroValue TR).run Try.prog w = .ok (.agg zeroR.cells.toArray) w := fun w => by kernel_rfl
theorem info_res : (Try.prog.info? TR).map (·.size) = some 4 := by kernel_rfl
theorem row_res : ∃ d, Try.prog.underlying TR = some d ∧ d.isRow = true := ⟨_, Try.underlying38, rfl⟩
theorem info_cell : (Try.prog.info? TC).map (fun i => (i.zero, i.size, i.bytes)) = some (some (.agg #[.string ⟨#[]⟩, .string ⟨#[]⟩, .int .i64 0]), 3, 40) := by kernel_rfl
theorem info_cellN : (Try.prog.info? TC).map (·.size) = some 3 := by kernel_rfl
theorem row_cell : ∃ d, Try.prog.underlying TC = some d ∧ d.isRow = true := ⟨_, Try.underlying86, rfl⟩

/-- Cells in a row. -/
def rowC (L : List C) : List Value := L.flatMap C.cells
theorem rowC_len : ∀ L : List C, (rowC L).length = L.length * 3
  | [] => rfl
  | c :: L => by
    have := rowC_len L
    simp only [rowC, List.flatMap_cons, List.length_append, List.length_cons] at *
    rw [this]
    simp [C.cells]
    omega
theorem rowC_app (A B : List C) : rowC (A ++ B) = rowC A ++ rowC B := by simp [rowC]
theorem rowC_one (c : C) : rowC [c] = c.cells := by simp [rowC]
theorem rowC_cell (L : List C) : ∀ u ∈ rowC L, u.oneCell' = true := by
  intro u hu
  simp only [rowC, List.mem_flatMap] at hu
  obtain ⟨c, _, hc⟩ := hu
  simp [C.cells] at hc
  rcases hc with rfl | rfl | rfl <;> rfl
theorem rowC_get : ∀ (L : List C) (i : Nat) (c : C), L[i]? = some c → ∀ j, j < 3 → (rowC L)[i * 3 + j]? = c.cells[j]?
  | [], i, c, h, j, _ => by simp at h
  | a :: L, 0, c, h, j, hj => by
    simp at h
    subst h
    simp only [rowC, List.flatMap_cons, Nat.zero_mul, Nat.zero_add]
    rw [List.getElem?_append_left (by simpa [C.cells] using hj)]
  | a :: L, i + 1, c, h, j, hj => by
    have := rowC_get L i c (by simpa using h) j hj
    simp only [rowC, List.flatMap_cons] at *
    rw [List.getElem?_append_right (by simp [C.cells]; omega), ← this]
    congr 1
    simp [C.cells]
    omega

/-- The cells L lie in a slice that the call owns. -/
def CsO (w : World) (base : Nat) (v : Value) (L : List C) : Prop := w.ownsRow base TC 3 v L.length (rowC L)
theorem CsO.nil (w : World) (base : Nat) : CsO w base (.slice none 0 0) [] := World.ownsRow_nil _ _ _ _
theorem CsO.turned {S : List Nat} {w w' : World} {base : Nat} {v : Value} {L : List C} (h : CsO w base v L) (t : Turned S w w') (hS : ∀ k ∈ S, v.ownBlock ≠ some k) : CsO w' base v L := by
  refine ⟨h.1, h.2.imp id ?_⟩
  rintro ⟨g, cap, cur, h1, h2, h3, h4⟩
  exact ⟨g, cap, cur, h1, h2, (t.block g (lt_of_block h3) (fun hm => by subst h1; exact hS g hm rfl)).trans h3, h4⟩
theorem CsO.below {w w' : World} {base : Nat} {v : Value} {L : List C} (h : CsO w base v L) (b : Below w.heap.size w w') : CsO w' base v L := h.turned (Turned.of_below b) (by simp)
theorem CsO.lower {w : World} {base base' : Nat} {v : Value} {L : List C} (h : CsO w base v L) (hb : base' ≤ base) : CsO w base' v L := by
  refine ⟨h.1, h.2.imp id ?_⟩
  rintro ⟨g, cap, cur, h1, h2, h3⟩
  exact ⟨g, cap, cur, h1, by omega, h3⟩
/-- Its form. -/
theorem CsO.form {w : World} {base : Nat} {v : Value} {L : List C} (h : CsO w base v L) : ∃ ao cap, v = .slice ao L.length cap ∧ L.length ≤ cap ∧ cap ≤ maxLen ∧ (ao = none → L = [] ∧ cap = 0) ∧
    ∀ a, ao = some a → ∃ g, a = ⟨g, 0, none⟩ ∧ base ≤ g ∧ g < w.heap.size ∧ w.rangeAt g 0 (rowC L) := by
  have hx := h
  rcases h.2 with ⟨rfl, h0⟩ | ⟨g, cap, cur, rfl, h1, h2, h3, h4, h5, h6⟩
  · exact ⟨none, 0, by rw [h0], by omega, by simp [maxLen], fun _ => ⟨List.length_eq_zero_iff.1 h0, rfl⟩, fun a e => by cases e⟩
  · refine ⟨_, cap, rfl, h3, h4, (fun e => by cases e), fun a e => ?_⟩
    cases e
    refine ⟨g, rfl, h1, lt_of_block h2, fun j u hu => ?_⟩
    have := World.ownsRow.cells hx (g := g) rfl j u hu
    rw [Addr.add_mid] at this
    exact this
theorem range_at {w : World} {g : Nat} {L : List C} (h : w.rangeAt g 0 (rowC L)) {i : Nat} {c : C} (hi : L[i]? = some c) : w.rangeAt g (i * 3) c.cells := fun j u hu => by
  have hj : j < 3 := by have := (List.getElem?_eq_some_iff.1 hu).1; simpa [C.cells] using this
  have := h (i * 3 + j) u (by rw [rowC_get L i c hi j hj]; exact hu)
  rwa [Nat.zero_add] at this
theorem range_key {w : World} {b off : Nat} {c : C} (h : w.rangeAt b off c.cells) : w.cell? ⟨b, off, none⟩ = some (.string ⟨c.key.toArray⟩) := h 0 _ rfl
theorem range_val {w : World} {b off : Nat} {c : C} (h : w.rangeAt b off c.cells) : w.cell? ⟨b, off + 1, none⟩ = some (.string ⟨c.val.toArray⟩) := h 1 _ rfl
theorem range_ver {w : World} {b off : Nat} {c : C} (h : w.rangeAt b off c.cells) : w.cell? ⟨b, off + 2, none⟩ = some (.int .i64 c.ver) := h 2 _ rfl

def LookP (w : World) (L : List C) (key : List UInt8) (n : Int) (e : Ending) (w' : World) : Prop := e = .returned (.agg (look L key n).cells.toArray) ∧ Below w.heap.size w w'
theorem look_hit {L : List C} {key : List UInt8} {k : Nat} {c : C} (hf : (L.take k).find? (fun c => c.key == key) = none) (hc : L[k]? = some c) (e : c.key = key) (n : Int) : look L key n = ⟨1, c.val, c.ver, n⟩ := by
  have : L.find? (fun c => c.key == key) = some c := by
    rw [← List.take_append_drop k L, List.find?_append, hf]
    rw [List.drop_eq_getElem_cons (List.getElem?_eq_some_iff.1 hc).1, List.find?_cons]
    have := (List.getElem?_eq_some_iff.1 hc).2
    rw [this]
    simp [e]
  unfold look
  rw [this]
theorem find_more {L : List C} {key : List UInt8} {k : Nat} {c : C} (hf : (L.take k).find? (fun c => c.key == key) = none) (hc : L[k]? = some c) (e : ¬ c.key = key) : (L.take (k + 1)).find? (fun c => c.key == key) = none := by
  have ht : L.take (k + 1) = L.take k ++ [c] := by rw [List.take_add_one, hc]; rfl
  rw [ht, List.find?_append, hf]
  simp [e]
set_option maxHeartbeats 1000000 in
theorem rlook_any (w : World) (base : Nat) (v : Value) (L : List C) (h : CsO w base v L) (key : List UInt8) (n : Int) (hl : L.length ≤ 1000000) :
    Calls Try.prog 30 #[v, .string ⟨key.toArray⟩, .int .i64 n] w (LookP w L key n) := by
  obtain ⟨d, hd, hdr⟩ := row_res
  replace hd := Lib.hid hd
  obtain ⟨ao, cap, rfl, _, _, hnil, hat⟩ := h.form
  have hl2 : (L.length : Int) ≤ 1000000 := by omega
  replace hat := Lib.hid hat
  replace hnil := Lib.hid hnil
  clear h
  go_enter Try.func30, Try.ntmps30
  go_wp2_with ((with_reducible show wpList _ _ _ (⟨_, .alloc _, _, _, _, _⟩ :: _) _ _); refine wpList_alloc_blk rfl TR rfl _ zero_res ?_; intro W3 B3 K3 S3; clear S3)
  go_loopg [7] (L.length + 1) (fun g i wr => ∃ k : Nat, g = L.length + 1 - k ∧ k ≤ L.length ∧ i = .int .i64 (k : Int) ∧ wr = W3 ∧ Hid ((L.take k).find? (fun c => c.key == key) = none))
  case atStart => exact ⟨0, rfl, Nat.zero_le _, rfl, rfl, Lib.hid rfl⟩
  case round =>
    obtain ⟨k, hg, hk, rfl, rfl, hf⟩ := hrel
    replace hg := Lib.hid hg
    have hw : w.heap.size < wr.heap.size := K3.lt
    by_cases hlt : k < L.length
    · obtain ⟨c, hc⟩ : ∃ c, L[k]? = some c := ⟨_, List.getElem?_eq_getElem hlt⟩
      have hao : ∃ a, ao = some a := by
        cases ao with
        | none => have := (hnil.out rfl).1; rw [this] at hlt; simp at hlt
        | some a => exact ⟨a, rfl⟩
      obtain ⟨a, rfl⟩ := hao
      obtain ⟨g, rfl, hgb, hgl, hgr⟩ := hat.out a rfl
      have hr : wr.rangeAt g (k * 3) c.cells := rangeAt_below (range_at hgr hc) B3 (fun _ => hgl)
      have q0 := range_key hr
      have q1 := range_val hr
      have q2 := range_ver hr
      have hkk : (k : Int) < (L.length : Int) := by omega
      have hlh := fun e n => look_hit hf.out hc e n
      have hfm := fun e => find_more hf.out hc e
      clear hgr hr hc hat hnil
      replace hlh := Lib.hid hlh
      replace hfm := Lib.hid hfm
      by_cases he : c.key = key
      · have t1 : (c.key == key) = true := by simpa using he
        have hL := Lib.hid (hlh.out he n)
        replace he := Lib.hid he
        go_wp2_with fail
        have K4 : Blk wr.drew w.heap.size TR zeroR.cells := K3
        have B4 : Below w.heap.size w wr.drew := ⟨B3.os, B3.tape, B3.output, B3.size, B3.block⟩
        go_still_tail 12, (by kernel_rfl)
        change wpList _ _ _ _ _ wr.drew
        clear K3 B3 q0 q1 q2
        generalize wr.drew = w5 at *
        go_wp2_with ((with_reducible show wpList _ _ _ (⟨none, .store TR _ _, _, _, _, _⟩ :: _) _ _); refine wpList_store_blk rfl TR _ _ rfl w.heap.size TR zeroR.cells (Rs.mk 1 c.val c.ver n).cells 4 rfl rfl K4 rfl (Rs.cellsN _) info_res ?_; intro W6 T6 K6 S6; clear S6)
        refine bodyPost_ret (results_cell1 (b := w.heap.size) (o := 0) (cs := (Rs.mk 1 c.val c.ver n).cells) Try.results30 rfl K6.rangeAll hd.out hdr info_res) rfl ⟨?_, B4.trans (T6.below B4.size (by simp))⟩
        rw [hL.out]
      · have t1 : (c.key == key) = false := by simpa using he
        have hN := Lib.hid (hfm.out he)
        replace he := Lib.hid he
        go_wp2_with fail
        go_roundg (L.length + 1 - (k + 1))
        case measure => have := hg.out; omega
        case rel => exact ⟨k + 1, rfl, by omega, by go_num, rfl, hN⟩
    · have hkk : k = L.length := by omega
      subst hkk
      rw [List.take_length] at hf
      have hL := Lib.hid (show look L key n = ⟨2, [], 0, n⟩ by unfold look; rw [hf.out])
      go_wp2_with ((with_reducible show wpList _ _ _ (⟨none, .store TR _ _, _, _, _, _⟩ :: _) _ _); refine wpList_store_blk rfl TR _ _ rfl w.heap.size TR zeroR.cells (Rs.mk 2 [] 0 n).cells 4 rfl rfl K3 rfl (Rs.cellsN _) info_res ?_; intro W4 T4 K4 S4; clear S4)
      refine bodyPost_ret (results_cell1 (b := w.heap.size) (o := 0) (cs := (Rs.mk 2 [] 0 n).cells) Try.results30 rfl K4.rangeAll hd.out hdr info_res) rfl ⟨?_, B3.trans (T4.below (Nat.le_of_lt hw) (by simp))⟩
      rw [hL.out]

def OutP (base : Nat) (w : World) (M : List C) (e : Ending) (w' : World) : Prop := ∃ v, e = .returned v ∧ CsO w' base v M ∧ Below w.heap.size w w' ∧ ∀ k, v.ownBlock = some k → w.heap.size ≤ k
theorem owned_new {w : World} {base : Nat} {v : Value} {L : List C} (h : CsO w base v L) : ∀ k, v.ownBlock = some k → base ≤ k := fun k hk => (World.ownsRow.lt h k hk).1
theorem without_next {L : List C} {key : List UInt8} {k : Nat} {c : C} (hc : L[k]? = some c) : without (L.take (k + 1)) key = without (L.take k) key ++ (if c.key = key then [] else [c]) := by
  rw [show L.take (k + 1) = L.take k ++ [c] by rw [List.take_add_one, hc]; rfl]
  unfold without
  rw [List.filter_append]
  by_cases h : c.key = key <;> simp [h]
set_option maxHeartbeats 1000000 in
theorem rwithout_any (w : World) (base : Nat) (v : Value) (L : List C) (h : CsO w base v L) (key : List UInt8) (hl : L.length ≤ 1000000) :
    Calls Try.prog 47 #[v, .string ⟨key.toArray⟩] w (OutP w.heap.size w (without L key)) := by
  obtain ⟨d, hd, hdr⟩ := row_cell
  replace hd := Lib.hid hd
  obtain ⟨i0, hi, hz0, hz1, hz2⟩ := info_parts info_cell
  replace hi := Lib.hid hi
  replace hz0 := Lib.hid hz0
  replace hz1 := Lib.hid hz1
  replace hz2 := Lib.hid hz2
  obtain ⟨ao, cap, rfl, _, _, hnil, hat⟩ := h.form
  have hl2 : (L.length : Int) ≤ 1000000 := by omega
  replace hat := Lib.hid hat
  replace hnil := Lib.hid hnil
  clear h
  go_enter Try.func47, Try.ntmps47
  go_wp2_with fail
  go_loopg [5, 6] (L.length + 1) (fun g v i wr => ∃ k : Nat, g = L.length + 1 - k ∧ k ≤ L.length ∧ i = .int .i64 (k : Int) ∧ CsO wr w.heap.size v (without (L.take k) key) ∧ Below w.heap.size w wr)
  case atStart => exact ⟨0, rfl, Nat.zero_le _, rfl, CsO.nil _ _, Below.refl _ _⟩
  case round =>
    obtain ⟨k, hg, hk, rfl, hM, hB⟩ := hrel
    replace hg := Lib.hid hg
    have hml := without_len (L.take k) key
    rw [List.length_take] at hml
    by_cases hlt : k < L.length
    · obtain ⟨c, hc⟩ : ∃ c, L[k]? = some c := ⟨_, List.getElem?_eq_getElem hlt⟩
      have hao : ∃ a, ao = some a := by
        cases ao with
        | none => have := (hnil.out rfl).1; rw [this] at hlt; simp at hlt
        | some a => exact ⟨a, rfl⟩
      obtain ⟨a, rfl⟩ := hao
      obtain ⟨g, rfl, hgb, hgl, hgr⟩ := hat.out a rfl
      have hr : wr.rangeAt g (k * 3) c.cells := rangeAt_below (range_at hgr hc) hB (fun _ => hgl)
      have q0 := range_key hr
      have hkk : (k : Int) < (L.length : Int) := by omega
      have hnx := without_next (key := key) hc
      clear hgr hc hat hnil
      by_cases he : c.key = key
      · have t1 : (c.key == key) = true := by simpa using he
        rw [if_pos he, List.append_nil] at hnx
        rw [← hnx] at hM
        replace he := Lib.hid he
        replace hM := Lib.hid hM
        clear hnx hml
        go_wp2_with fail
        go_roundg (L.length + 1 - (k + 1))
        case measure => have := hg.out; omega
        case rel => exact ⟨k + 1, rfl, by omega, by go_num, hM.out, hB⟩
      · have t1 : (c.key == key) = false := by simpa using he
        rw [if_neg he] at hnx
        replace he := Lib.hid he
        have hlen : (without (L.take (k + 1)) key).length = (without (L.take k) key).length + 1 := by rw [hnx]; simp
        replace hnx := Lib.hid hnx
        replace hlen := Lib.hid hlen
        generalize without (L.take k) key = M at *
        generalize hM' : without (L.take (k + 1)) key = M' at *
        replace hM' := Lib.hid hM'
        go_wp2_with (first
          | ((with_reducible show wpList _ _ _ (⟨some 24, .load TC _, _, _, _, _⟩ :: _) _ _); refine wpList_load_mid rfl TC _ rfl g (k * 3) rfl c.cells d hr hd.out hdr info_cellN ?_)
          | ((with_reducible show wpList _ _ _ (⟨_, .buildSlice _ _ _, _, _, _, _⟩ :: _) _ _); refine wpList_slice1_blk rfl TL TC _ rfl c.cells i0 _ rfl Try.underlying67 hi.out hz0.out (by rw [hz1.out]; rfl) (by simp [C.cells]) (by simp [C.cells]) ?_; intro W2 B2 K2 S2)
          | ((with_reducible show wpList _ _ _ (⟨some 26, .call _, _, _, _, _⟩ :: _) _ _); refine wpList_append_sl rfl _ _ TL rfl w.heap.size TC i0 _ 3 40 Try.underlying67 hi.out hz0.out hz1.out hz2.out rfl (by decide) _ M.length (rowC M) rfl (hM.below B2) _ 1 c.cells [wr.heap.size] rfl ⟨_, 1, rfl, Nat.le_refl _, by simp [maxLen], (fun e => by cases e), fun a ha => by cases ha; exact ⟨fun _ => ⟨rfl, by simp⟩, K2.rangeAll⟩⟩ (by simp [C.cells]) (by simp [C.cells, Value.oneCell']) (by unfold maxLen; omega) (by omega) (by have := hB.size; have := B2.size; omega) ?_; intro v5 W5 hown5 hgrow5))
        go_roundg (L.length + 1 - (k + 1))
        case measure => have := hg.out; omega
        case rel =>
          have hB5 := (hB.trans (B2.mono hB.size)).grown hgrow5 (by have := hB.size; have := B2.size; omega) (owned_new hM)
          refine ⟨k + 1, rfl, by omega, by go_num, ?_, hB5⟩
          unfold CsO
          rw [hM'.out, hlen.out, hnx.out, rowC_app, rowC_one]
          exact hown5
    · have hkk : k = L.length := by omega
      subst hkk
      rw [List.take_length] at hM hml
      replace hM := Lib.hid hM
      clear hml
      go_wp2_with fail
      go_ret
      exact ⟨_, rfl, hM.out, hB, owned_new hM.out⟩
end Go.Proofs.Ytbmepaglhkndpaa.Kv
