/-
  Contracts of the document's answer for operations (fairwayref09): Put, Cost, Get: what Operations as lists of bytes say. Conditions: those that each names.
-/
import Derived.Test.YtpljlncolkecpaaOpsR
import Derived.Test.YtpljlncolkecpaaCodecT
namespace Go.Proofs.Ytpljlncolkecpaa.Ops
open Go.RowKit Go.Proofs.Ytpljlncolkecpaa.Mem Go.Proofs.Ytpljlncolkecpaa.Codec

theorem drewB {w w1 : World} {B : Nat} (h : Below B w w1) : Below B w w1.drew := ⟨h.os, h.tape, h.output, h.size, h.block⟩
theorem ret_se {a b : List UInt8} {c d : Int} (h : a = b) (k : c = d) : Ending.returned (.tuple #[.string ⟨a.toArray⟩, .int .i64 c]) = .returned (.tuple #[.string ⟨b.toArray⟩, .int .i64 d]) := by rw [h, k]
theorem ret_ss {a : ByteArray} {b : List UInt8} {c d : Int} (h : a = ⟨b.toArray⟩) (k : c = d) : Ending.returned (.tuple #[.string a, .int .i64 c]) = .returned (.tuple #[.string ⟨b.toArray⟩, .int .i64 d]) := by rw [h, k]
/-- What Put answers. -/
def PutP (w : World) (o : O) (e : Ending) (w' : World) : Prop := e = .returned (.tuple #[.string ⟨o.put.toArray⟩, .int .i64 o.check]) ∧ Below w.heap.size w w'
theorem bytes_two {o : O} (k : o.kind = 2) : o.bytes = intB 2 ++ textB o.key ++ textB o.val := by unfold O.bytes; simp [k]
theorem bytes_four {o : O} (k : o.kind = 4) : o.bytes = intB 4 ++ textB o.key ++ textB o.val ++ intB o.ver := by unfold O.bytes; simp [k]
theorem bytes_else {o : O} (k : o.kind ≠ 2) (l : o.kind ≠ 4) : o.bytes = intB o.kind ++ textB o.key := by unfold O.bytes; simp [k, l]

theorem len_int (n : Int) : (intB n).length ≤ 9 := by
  unfold intB
  split
  · simp
  · exact (numB_len _).2
theorem len_text (l : List UInt8) : (textB l).length ≤ 9 + l.length := by have := numB_len l.length; simp [textB]; omega
set_option maxHeartbeats 2000000 in
theorem rput_any (o : O) (w : World) : Calls Try.prog 10 #[.agg o.cells.toArray] w (PutP w o) := by
  obtain ⟨d, hd, hdr⟩ := row_op
  replace hd := Lib.hid hd
  have CH := Lib.hid (rcheck_any o)
  by_cases hc : o.check = 0
  · obtain ⟨h1, h2, h3, h4, h5, h6, h7, h8, h9⟩ := fine_of hc
    have HP := Lib.hid (put_ok hc)
    have TK := Lib.hid (fun w => rtext_any o.key w (by omega))
    have TV := Lib.hid (fun w => rtext_any o.val w (by omega))
    have IK := Lib.hid (fun w => rint_any o.kind w (by omega) (by omega))
    have IV := Lib.hid (fun w => rint_any o.ver w (by omega) (by omega))
    rw [hc] at CH
    have lI := len_int o.kind
    have lJ := len_int o.ver
    have lK := len_text o.key
    have lV := len_text o.val
    replace lK : (textB o.key).length ≤ 25 := by omega
    replace lV : (textB o.val).length ≤ 73 := by omega
    clear h3 h4 h5 h6 h7 h8 h9
    by_cases k2 : o.kind = 2
    · rw [bytes_two k2] at HP
      rw [k2] at IK lI
      generalize intB 2 = A at *
      generalize textB o.key = B at *
      generalize textB o.val = C at *
      have m1 : ¬ 9223372036854775807 < A.length + B.length := by omega
      clear IV lJ
      go_enter Try.func10, Try.ntmps10
      go_wp2_with (first
        | ((with_reducible show wpList _ _ _ (⟨_, .box _ _, _, _, _, _⟩ :: _) _ _); refine wpList_box_blk rfl TO _ rfl o.cells rfl ?_; intro W1 B1 K1 S1; clear S1)
        | ((with_reducible show wpList _ _ _ (⟨_, .load TO _, _, _, _, _⟩ :: _) _ _); refine wpList_load_blk rfl TO _ rfl w.heap.size TO o.cells d rfl K1 hd.out hdr info_op ?_)
        | (go_at_call 12; refine (CH.out _).mono ?_; rintro e w2 ⟨rfl, hn⟩; have hl : w.heap.size < w2.heap.size := Nat.lt_of_lt_of_le K1.lt hn.size; have K2 := K1.below hn K1.lt; obtain ⟨c0, c1, c2, c3⟩ := ocells K2; rw [k2] at c0; have hB := bel B1 hn; replace K2 := Lib.hid K2; replace K1 := Lib.hid K1; clear hn B1))
      replace hB := drewB hB
      replace K2 : Hid (Blk w2.drew w.heap.size TO o.cells) := Lib.hid K2.out
      replace hl : w.heap.size < w2.drew.heap.size := hl
      go_region_held3 (fun W => W.cell? ⟨w.heap.size, 0, none⟩ = some (.int .i64 (2)) ∧ W.cell? ⟨w.heap.size, 1, none⟩ = some (.string ⟨o.key.toArray⟩)) (first | exact ⟨c0, c1⟩)
        (first
          | (go_at_call 21; (with_reducible refine (IK.out _).mono ?_); rintro e w3 ⟨rfl, hn⟩; replace hB := bel hB hn; replace K2 := Lib.hid (K2.out.below hn hl); replace hl : w.heap.size < w3.heap.size := Nat.lt_of_lt_of_le hl hn.size; obtain ⟨c0, c1, c2, c3⟩ := ocells K2.out; rw [k2] at c0; clear hn)
          | (go_at_call 22; (with_reducible refine (TK.out _).mono ?_); rintro e w3 ⟨rfl, hn⟩; replace hB := bel hB hn; replace K2 := Lib.hid (K2.out.below hn hl); replace hl : w.heap.size < w3.heap.size := Nat.lt_of_lt_of_le hl hn.size; obtain ⟨c0, c1, c2, c3⟩ := ocells K2.out; rw [k2] at c0; clear hn))
      go_wp2_with (go_at_call 22; (with_reducible refine (TV.out _).mono ?_); rintro e w4 ⟨rfl, hn⟩; replace hB := bel hB hn; replace K2 := Lib.hid (K2.out.below hn hl); replace hl : w.heap.size < w4.heap.size := Nat.lt_of_lt_of_le hl hn.size; obtain ⟨c0, c1, c2, c3⟩ := ocells K2.out; rw [k2] at c0; clear hn)
      all_goals go_ret2
      all_goals exact ⟨ret_ss (by rw [HP.out]; simp only [concat_of]) hc.symm, hB⟩
    · by_cases k4 : o.kind = 4
      · rw [bytes_four k4] at HP
        rw [k4] at IK lI
        generalize intB o.ver = D at *
        generalize intB 4 = A at *
        generalize textB o.key = B at *
        generalize textB o.val = C at *
        have m1 : ¬ 9223372036854775807 < A.length + B.length := by omega
        have m2 : ¬ 9223372036854775807 < A.length + B.length + C.length := by omega
        have m3 : ¬ 9223372036854775807 < A.length + B.length + C.length + D.length := by omega
        clear k2
        go_enter Try.func10, Try.ntmps10
        go_wp2_with (first
          | ((with_reducible show wpList _ _ _ (⟨_, .box _ _, _, _, _, _⟩ :: _) _ _); refine wpList_box_blk rfl TO _ rfl o.cells rfl ?_; intro W1 B1 K1 S1; clear S1)
          | ((with_reducible show wpList _ _ _ (⟨_, .load TO _, _, _, _, _⟩ :: _) _ _); refine wpList_load_blk rfl TO _ rfl w.heap.size TO o.cells d rfl K1 hd.out hdr info_op ?_)
          | (go_at_call 12; refine (CH.out _).mono ?_; rintro e w2 ⟨rfl, hn⟩; have hl : w.heap.size < w2.heap.size := Nat.lt_of_lt_of_le K1.lt hn.size; have K2 := K1.below hn K1.lt; obtain ⟨c0, c1, c2, c3⟩ := ocells K2; rw [k4] at c0; have hB := bel B1 hn; replace K2 := Lib.hid K2; replace K1 := Lib.hid K1; clear hn B1))
        replace hB := drewB hB
        replace K2 : Hid (Blk w2.drew w.heap.size TO o.cells) := Lib.hid K2.out
        replace hl : w.heap.size < w2.drew.heap.size := hl
        go_region_held3 (fun W => W.cell? ⟨w.heap.size, 0, none⟩ = some (.int .i64 (4)) ∧ W.cell? ⟨w.heap.size, 1, none⟩ = some (.string ⟨o.key.toArray⟩)) (first | exact ⟨c0, c1⟩)
          (first
            | (go_at_call 21; (with_reducible refine (IK.out _).mono ?_); rintro e w3 ⟨rfl, hn⟩; replace hB := bel hB hn; replace K2 := Lib.hid (K2.out.below hn hl); replace hl : w.heap.size < w3.heap.size := Nat.lt_of_lt_of_le hl hn.size; obtain ⟨c0, c1, c2, c3⟩ := ocells K2.out; rw [k4] at c0; clear hn)
            | (go_at_call 22; (with_reducible refine (TK.out _).mono ?_); rintro e w3 ⟨rfl, hn⟩; replace hB := bel hB hn; replace K2 := Lib.hid (K2.out.below hn hl); replace hl : w.heap.size < w3.heap.size := Nat.lt_of_lt_of_le hl hn.size; obtain ⟨c0, c1, c2, c3⟩ := ocells K2.out; rw [k4] at c0; clear hn))
        go_wp2_with fail
        replace hB := drewB hB
        replace K2 : Hid (Blk _ w.heap.size TO o.cells) := Lib.hid (show Blk w3.drew w.heap.size TO o.cells from K2.out)
        replace hl : w.heap.size < w3.drew.heap.size := hl
        go_region_held3 (fun W => W.cell? ⟨w.heap.size, 2, none⟩ = some (.string ⟨o.val.toArray⟩) ∧ W.cell? ⟨w.heap.size, 3, none⟩ = some (.int .i64 o.ver)) (first | exact ⟨c2, c3⟩)
          (first
            | (go_at_call 21; (with_reducible refine (IV.out _).mono ?_); rintro e w4 ⟨rfl, hn⟩; replace hB := bel hB hn; replace K2 := Lib.hid (K2.out.below hn hl); replace hl : w.heap.size < w4.heap.size := Nat.lt_of_lt_of_le hl hn.size; obtain ⟨c0, c1, c2, c3⟩ := ocells K2.out; rw [k4] at c0; clear hn)
            | (go_at_call 22; (with_reducible refine (TV.out _).mono ?_); rintro e w4 ⟨rfl, hn⟩; replace hB := bel hB hn; replace K2 := Lib.hid (K2.out.below hn hl); replace hl : w.heap.size < w4.heap.size := Nat.lt_of_lt_of_le hl hn.size; obtain ⟨c0, c1, c2, c3⟩ := ocells K2.out; rw [k4] at c0; clear hn))
        all_goals go_wp2_with fail
        all_goals go_ret2
        all_goals exact ⟨ret_ss (by rw [HP.out]; simp only [concat_of]) hc.symm, hB⟩
      · rw [bytes_else k2 k4] at HP
        have t2 : (o.kind == 2) = false := by simpa using k2
        have t4 : (o.kind == 4) = false := by simpa using k4
        generalize intB o.kind = A at *
        generalize textB o.key = B at *
        have m1 : ¬ 9223372036854775807 < A.length + B.length := by omega
        clear IV lJ TV k2 k4
        go_enter Try.func10, Try.ntmps10
        go_wp2_with (first
          | ((with_reducible show wpList _ _ _ (⟨_, .box _ _, _, _, _, _⟩ :: _) _ _); refine wpList_box_blk rfl TO _ rfl o.cells rfl ?_; intro W1 B1 K1 S1; clear S1)
          | ((with_reducible show wpList _ _ _ (⟨_, .load TO _, _, _, _, _⟩ :: _) _ _); refine wpList_load_blk rfl TO _ rfl w.heap.size TO o.cells d rfl K1 hd.out hdr info_op ?_)
          | (go_at_call 12; refine (CH.out _).mono ?_; rintro e w2 ⟨rfl, hn⟩; have hl : w.heap.size < w2.heap.size := Nat.lt_of_lt_of_le K1.lt hn.size; have K2 := K1.below hn K1.lt; obtain ⟨c0, c1, c2, c3⟩ := ocells K2; have hB := bel B1 hn; replace K2 := Lib.hid K2; replace K1 := Lib.hid K1; clear hn B1))
        replace hB := drewB hB
        replace K2 : Hid (Blk w2.drew w.heap.size TO o.cells) := Lib.hid K2.out
        replace hl : w.heap.size < w2.drew.heap.size := hl
        go_region_held3 (fun W => W.cell? ⟨w.heap.size, 0, none⟩ = some (.int .i64 (o.kind)) ∧ W.cell? ⟨w.heap.size, 1, none⟩ = some (.string ⟨o.key.toArray⟩)) (first | exact ⟨c0, c1⟩)
          (first
            | (go_at_call 21; (with_reducible refine (IK.out _).mono ?_); rintro e w3 ⟨rfl, hn⟩; replace hB := bel hB hn; replace K2 := Lib.hid (K2.out.below hn hl); replace hl : w.heap.size < w3.heap.size := Nat.lt_of_lt_of_le hl hn.size; obtain ⟨c0, c1, c2, c3⟩ := ocells K2.out;  clear hn)
            | (go_at_call 22; (with_reducible refine (TK.out _).mono ?_); rintro e w3 ⟨rfl, hn⟩; replace hB := bel hB hn; replace K2 := Lib.hid (K2.out.below hn hl); replace hl : w.heap.size < w3.heap.size := Nat.lt_of_lt_of_le hl hn.size; obtain ⟨c0, c1, c2, c3⟩ := ocells K2.out;  clear hn))
        go_wp2_with fail
        all_goals go_ret2
        all_goals exact ⟨ret_ss (by rw [HP.out]; simp only [concat_of]) hc.symm, hB⟩
  · rcases check_three o with h | h | h
    · exact absurd h hc
    all_goals
      have HP := Lib.hid (put_no hc)
      rw [h] at CH
      replace h := Lib.hid h
      clear hc
      go_enter Try.func10, Try.ntmps10
      go_wp2_with (first
        | ((with_reducible show wpList _ _ _ (⟨_, .box _ _, _, _, _, _⟩ :: _) _ _); refine wpList_box_blk rfl TO _ rfl o.cells rfl ?_; intro W1 B1 K1 S1; clear S1)
        | ((with_reducible show wpList _ _ _ (⟨_, .load TO _, _, _, _, _⟩ :: _) _ _); refine wpList_load_blk rfl TO _ rfl w.heap.size TO o.cells d rfl K1 hd.out hdr info_op ?_)
        | (go_at_call 12; refine (CH.out _).mono ?_; rintro e w2 ⟨rfl, hn⟩))
      go_ret2
      exact ⟨ret_se HP.out.symm h.out.symm, bel B1 hn⟩

set_option maxHeartbeats 1000000 in
theorem rcost_any (o : O) (w : World) : Calls Try.prog 14 #[.agg o.cells.toArray] w fun e w' => e = .returned (.int .i64 o.cost) ∧ Below w.heap.size w w' := by
  obtain ⟨d, hd, hdr⟩ := row_op
  replace hd := Lib.hid hd
  have CH := Lib.hid (rcheck_any o)
  by_cases hc : o.check = 0
  · obtain ⟨h1, h2, h3, h4, h5, h6, h7, h8, h9⟩ := fine_of hc
    have HP := Lib.hid (show o.cost = 16 + o.key.length + o.val.length from if_pos hc)
    rw [hc] at CH
    clear h1 h2 h3 h6 h7 h8 h9 hc
    go_enter Try.func14, Try.ntmps14
    go_wp2_with (first
      | ((with_reducible show wpList _ _ _ (⟨_, .box _ _, _, _, _, _⟩ :: _) _ _); refine wpList_box_blk rfl TO _ rfl o.cells rfl ?_; intro W1 B1 K1 S1; clear S1)
      | ((with_reducible show wpList _ _ _ (⟨_, .load TO _, _, _, _, _⟩ :: _) _ _); refine wpList_load_blk rfl TO _ rfl w.heap.size TO o.cells d rfl K1 hd.out hdr info_op ?_)
      | (go_at_call 12; refine (CH.out _).mono ?_; rintro e w2 ⟨rfl, hn⟩; have K2 := K1.below hn K1.lt; obtain ⟨c0, c1, c2, c3⟩ := ocells K2; have hB := bel B1 hn; replace K2 := Lib.hid K2; replace K1 := Lib.hid K1; clear hn B1))
    go_ret
    exact ⟨ret_int (by rw [HP.out]; omega), hB⟩
  · have HP := Lib.hid (show o.cost = 0 from if_neg hc)
    rcases check_three o with h | h | h
    · exact absurd h hc
    all_goals
      rw [h] at CH
      clear hc h
      go_enter Try.func14, Try.ntmps14
      go_wp2_with (first
        | ((with_reducible show wpList _ _ _ (⟨_, .box _ _, _, _, _, _⟩ :: _) _ _); refine wpList_box_blk rfl TO _ rfl o.cells rfl ?_; intro W1 B1 K1 S1; clear S1)
        | ((with_reducible show wpList _ _ _ (⟨_, .load TO _, _, _, _, _⟩ :: _) _ _); refine wpList_load_blk rfl TO _ rfl w.heap.size TO o.cells d rfl K1 hd.out hdr info_op ?_)
        | (go_at_call 12; refine (CH.out _).mono ?_; rintro e w2 ⟨rfl, hn⟩))
      go_ret
      exact ⟨ret_int HP.out.symm, bel B1 hn⟩

/-- What Get answers. -/
def GetP (w : World) (l : List UInt8) (e : Ending) (w' : World) : Prop := e = .returned (.tuple #[.agg (got l).cells.toArray, .int .i64 (gotE l)]) ∧ Below w.heap.size w w'
def un (l : List UInt8) : Int × List UInt8 := (unintS l).getD (0, [])
def cu (l : List UInt8) : List UInt8 × List UInt8 := (cutS l).getD ([], [])
theorem unV (x : Option (Int × List UInt8)) : unintV x = .tuple #[.int .i64 (x.getD (0, [])).1, .string ⟨(x.getD (0, [])).2.toArray⟩, .bool x.isSome] := by cases x <;> rfl
theorem cuV (x : Option (List UInt8 × List UInt8)) : cutV x = .tuple #[.string ⟨(x.getD ([], [])).1.toArray⟩, .string ⟨(x.getD ([], [])).2.toArray⟩, .bool x.isSome] := by cases x <;> rfl
theorem un_len (l : List UInt8) : (un l).2.length ≤ l.length := by
  unfold un
  cases h : unintS l with
  | none => simp
  | some x => obtain ⟨a, b⟩ := x; obtain ⟨e, _⟩ := unint_form h; rw [← e]; simp
theorem cu_len (l : List UInt8) : (cu l).2.length ≤ l.length := by
  unfold cu
  cases h : cutS l with
  | none => simp
  | some x => obtain ⟨a, b⟩ := x; obtain ⟨e, _⟩ := cut_form h; rw [← e]; simp
theorem run_un (l : List UInt8) (h : l.length ≤ 4294967296) (w : World) : Calls Try.prog 25 #[.string ⟨l.toArray⟩] w fun e w' => e = .returned (.tuple #[.int .i64 (un l).1, .string ⟨(un l).2.toArray⟩, .bool (unintS l).isSome]) ∧ Below w.heap.size w w' := by
  have := runint_any ⟨l.toArray⟩ w (by simpa [ByteArray.size] using h)
  rwa [unV] at this
theorem run_cu (l : List UInt8) (h : l.length ≤ 4294967296) (w : World) : Calls Try.prog 26 #[.string ⟨l.toArray⟩] w fun e w' => e = .returned (.tuple #[.string ⟨(cu l).1.toArray⟩, .string ⟨(cu l).2.toArray⟩, .bool (cutS l).isSome]) ∧ Below w.heap.size w w' := by
  have := rcut_any ⟨l.toArray⟩ w (by simpa [ByteArray.size] using h)
  rwa [cuV] at this
theorem ref_of (l : List UInt8) : ref l = ⟨(un l).1, (cu (un l).2).1, if (un l).1 = 2 ∨ (un l).1 = 4 then (cu (cu (un l).2).2).1 else [], if (un l).1 = 4 then (un (cu (cu (un l).2).2).2).1 else 0⟩ := rfl
theorem ret_oe {a b : O} {c d : Int} (h : a = b) (k : c = d) : Ending.returned (.tuple #[.agg a.cells.toArray, .int .i64 c]) = .returned (.tuple #[.agg b.cells.toArray, .int .i64 d]) := by rw [h, k]
set_option maxHeartbeats 2000000 in
theorem rget_any (s : ByteArray) (w : World) (hs : s.size ≤ 4294967296) : Calls Try.prog 17 #[.string s] w (GetP w s.data.toList) := by
  obtain ⟨l, rfl⟩ : ∃ l : List UInt8, s = ⟨l.toArray⟩ := ⟨s.data.toList, by simp⟩
  rw [show (⟨l.toArray⟩ : ByteArray).data.toList = l by simp]
  obtain ⟨d, hd, hdr⟩ := row_op
  replace hd := Lib.hid hd
  have hl : l.length ≤ 4294967296 := by simpa [ByteArray.size] using hs
  have hg := ref_get l
  have hr := ref_of l
  have l1 := un_len l
  have l2 := cu_len (un l).2
  have l3 := cu_len (cu (un l).2).2
  have R1 := Lib.hid (run_un l hl)
  have R2 := Lib.hid (run_cu (un l).2 (by omega))
  have R3 := Lib.hid (run_cu (cu (un l).2).2 (by omega))
  have R4 := Lib.hid (run_un (cu (cu (un l).2).2).2 (by omega))
  generalize (unintS l).isSome = b1 at *
  generalize (cutS (un l).2).isSome = b2 at *
  generalize (cutS (cu (un l).2).2).isSome = b3 at *
  generalize (unintS (cu (cu (un l).2).2).2).isSome = b4 at *
  generalize (un (cu (cu (un l).2).2).2).2 = t4 at *
  generalize (un (cu (cu (un l).2).2).2).1 = n4 at *
  generalize (cu (cu (un l).2).2).2 = t3 at *
  generalize (cu (cu (un l).2).2).1 = v3 at *
  generalize (cu (un l).2).2 = t2 at *
  generalize (cu (un l).2).1 = y2 at *
  generalize (un l).2 = t1 at *
  generalize (un l).1 = k at *
  clear l1 l2 l3 hs hl
  generalize hO : ref l = o at *
  replace hO := Lib.hid hO
  have PP := Lib.hid (rput_any o)
  have hh : (got l = o ∧ gotE l = 0 ∧ o.check = 0 ∧ (o.put == l) = true) ∨ (got l = zeroO ∧ gotE l = 10 ∧ o.check = 0 ∧ (o.put == l) = false) ∨ (got l = zeroO ∧ gotE l = 10 ∧ ¬ o.check = 0) := by
    by_cases c : o.check = 0
    · by_cases e : o.bytes = l
      · rw [if_pos ⟨c, e⟩] at hg
        exact .inl ⟨by simp [got, hg], by simp [gotE, hg], c, by simpa [put_ok c] using e⟩
      · rw [if_neg (fun h => e h.2)] at hg
        exact .inr (.inl ⟨by simp [got, hg], by simp [gotE, hg], c, by simpa [put_ok c] using e⟩)
    · rw [if_neg (fun h => c h.1)] at hg
      exact .inr (.inr ⟨by simp [got, hg], by simp [gotE, hg], c⟩)
  clear hg
  unfold PutP at PP
  by_cases k2 : k = 2
  · subst k2
    simp only [true_or, if_true] at hr
    replace hr := Lib.hid (show o = ⟨2, y2, v3, 0⟩ from by simpa using hr)
    rcases hh with ⟨g1, g2, hc, he⟩ | ⟨g1, g2, hc, he⟩ | ⟨g1, g2, hc⟩
    · replace g1 := Lib.hid g1
      replace g2 := Lib.hid g2
      rw [hc] at PP
      go_enter Try.func17, Try.ntmps17
      go_wp2_with (first
        | ((with_reducible show wpList _ _ _ (⟨some 2, .alloc _, _, _, _, _⟩ :: _) _ _); refine wpList_alloc_blk rfl TO rfl _ zero_op ?_; intro W1 B1 K1 S1; clear S1; have hT := Turned.of_below B1; replace K1 := Lib.hid K1; have hl : w.heap.size < W1.heap.size := K1.out.lt; clear B1)
        | (go_at_call 25; (with_reducible refine (R1.out _).mono ?_); rintro e w2 ⟨rfl, hn⟩; replace hT := hT.trans (Turned.of_below hn) (by simp); replace K1 := Lib.hid (K1.out.below hn hl); replace hl : w.heap.size < w2.heap.size := Nat.lt_of_lt_of_le hl hn.size; clear hn)
        | (go_at_call 26; (with_reducible refine (R2.out _).mono ?_); rintro e w3 ⟨rfl, hn⟩; replace hT := hT.trans (Turned.of_below hn) (by simp); replace K1 := Lib.hid (K1.out.below hn hl); replace hl : w.heap.size < w3.heap.size := Nat.lt_of_lt_of_le hl hn.size; clear hn)
        | (go_at_call 26; (with_reducible refine (R3.out _).mono ?_); rintro e w4 ⟨rfl, hn⟩; replace hT := hT.trans (Turned.of_below hn) (by simp); replace K1 := Lib.hid (K1.out.below hn hl); replace hl : w.heap.size < w4.heap.size := Nat.lt_of_lt_of_le hl hn.size; clear hn)
        | (go_at_call 25; (with_reducible refine (R4.out _).mono ?_); rintro e w5 ⟨rfl, hn⟩; replace hT := hT.trans (Turned.of_below hn) (by simp); replace K1 := Lib.hid (K1.out.below hn hl); replace hl : w.heap.size < w5.heap.size := Nat.lt_of_lt_of_le hl hn.size; clear hn)
        | ((with_reducible show wpList _ _ _ (⟨some 16, .alloc _, _, _, _, _⟩ :: _) _ _); refine wpList_alloc_blk rfl TO rfl _ zero_op ?_; intro W6 hn K6 S6; clear S6; have h5 : w.heap.size < w5.heap.size := hl; replace hT := hT.trans (Turned.of_below hn) (by simp); replace K1 := Lib.hid (K1.out.below hn hl); replace hl : w.heap.size < W6.heap.size := Nat.lt_of_lt_of_le hl hn.size; clear hn)
        | ((with_reducible show wpList _ _ _ (⟨none, .store TO (.tmp 16) _, _, _, _, _⟩ :: _) _ _); refine wpList_store_blk rfl TO _ _ rfl w5.heap.size TO zeroO.cells (O.mk 2 y2 [] 0).cells 4 rfl rfl K6 rfl (O.cellsN _) info_op ?_; intro W7 T7 K7 S7; clear S7; have f2 := K7.free 2; have f3 := K7.free 3; obtain ⟨_, _, q2, q3⟩ := ocells K7; replace K1 := Lib.hid (T7.blk K1.out (by simp; omega)); replace hT := hT.trans T7 (fun j h1 h2 => by simp at h2; omega); replace K7 := Lib.hid K7; replace hl : w.heap.size < W7.heap.size := Nat.lt_of_lt_of_le hl T7.size; clear K6 T7)
        | ((with_reducible show wpList _ _ _ (⟨some 59, .load TO (.tmp 16), _, _, _, _⟩ :: _) _ _); have K8 : Blk ((W7.setCell ⟨w5.heap.size, 2, none⟩ (.string ⟨v3.toArray⟩))) w5.heap.size TO o.cells := (by rw [hr.out]; exact (K7.out.set 2 (.string ⟨v3.toArray⟩))); refine wpList_load_blk rfl TO _ rfl w5.heap.size TO o.cells d rfl K8 hd.out hdr info_op ?_; replace K8 := Lib.hid K8)
        | (go_at_call 10; refine (PP.out _).mono ?_; rintro e w9 ⟨rfl, hn⟩; have l8 : w.heap.size < (W7.setCell ⟨w5.heap.size, 2, none⟩ (.string ⟨v3.toArray⟩)).heap.size := (by simpa [World.setCell] using hl); have l9 : w5.heap.size < (W7.setCell ⟨w5.heap.size, 2, none⟩ (.string ⟨v3.toArray⟩)).heap.size := (by simpa [World.setCell] using K7.out.lt); replace hT := (hT.setCell (p := ⟨w5.heap.size, 2, none⟩) (.inr (Nat.le_of_lt h5)) (.string ⟨v3.toArray⟩)).trans (Turned.of_below hn) (by simp); replace K1 := Lib.hid ((K1.out.setOther (a := ⟨w5.heap.size, 2, none⟩) (Nat.ne_of_lt h5) (.string ⟨v3.toArray⟩)).below hn l8); have K9 := Lib.hid (K8.out.below hn l9); replace hl : w.heap.size < w9.heap.size := Nat.lt_of_lt_of_le l8 hn.size; clear hn l8 l9 f2 f3 q2 q3 K7)
        | ((with_reducible show wpList _ _ _ (⟨some 71, .load TO (.tmp 16), _, _, _, _⟩ :: _) _ _); refine wpList_load_blk rfl TO _ rfl w5.heap.size TO o.cells d rfl K9.out hd.out hdr info_op ?_)
        | ((with_reducible show wpList _ _ _ (⟨none, .store TO (.tmp 2) (.tmp 71), _, _, _, _⟩ :: _) _ _); refine wpList_store_blk rfl TO _ _ rfl w.heap.size TO zeroO.cells (o).cells 4 rfl rfl K1.out rfl (O.cellsN _) info_op ?_; intro WA TA KA SA; clear SA; replace hT := hT.trans (S' := [w.heap.size]) TA (fun j h1 h2 => by simp at h2; omega)))
      refine bodyPost_ret (results_cell2 (b := w.heap.size) (o := 0) (cs := (o).cells) Try.results17 rfl KA.rangeAll hd.out hdr info_op) rfl ⟨?_, hT.below (Nat.le_refl _) (by simp)⟩
      exact ret_oe g1.out.symm g2.out.symm
    · replace g1 := Lib.hid g1
      replace g2 := Lib.hid g2
      rw [hc] at PP
      go_enter Try.func17, Try.ntmps17
      go_wp2_with (first
        | ((with_reducible show wpList _ _ _ (⟨some 2, .alloc _, _, _, _, _⟩ :: _) _ _); refine wpList_alloc_blk rfl TO rfl _ zero_op ?_; intro W1 B1 K1 S1; clear S1; have hT := Turned.of_below B1; replace K1 := Lib.hid K1; have hl : w.heap.size < W1.heap.size := K1.out.lt; clear B1)
        | (go_at_call 25; (with_reducible refine (R1.out _).mono ?_); rintro e w2 ⟨rfl, hn⟩; replace hT := hT.trans (Turned.of_below hn) (by simp); replace K1 := Lib.hid (K1.out.below hn hl); replace hl : w.heap.size < w2.heap.size := Nat.lt_of_lt_of_le hl hn.size; clear hn)
        | (go_at_call 26; (with_reducible refine (R2.out _).mono ?_); rintro e w3 ⟨rfl, hn⟩; replace hT := hT.trans (Turned.of_below hn) (by simp); replace K1 := Lib.hid (K1.out.below hn hl); replace hl : w.heap.size < w3.heap.size := Nat.lt_of_lt_of_le hl hn.size; clear hn)
        | (go_at_call 26; (with_reducible refine (R3.out _).mono ?_); rintro e w4 ⟨rfl, hn⟩; replace hT := hT.trans (Turned.of_below hn) (by simp); replace K1 := Lib.hid (K1.out.below hn hl); replace hl : w.heap.size < w4.heap.size := Nat.lt_of_lt_of_le hl hn.size; clear hn)
        | (go_at_call 25; (with_reducible refine (R4.out _).mono ?_); rintro e w5 ⟨rfl, hn⟩; replace hT := hT.trans (Turned.of_below hn) (by simp); replace K1 := Lib.hid (K1.out.below hn hl); replace hl : w.heap.size < w5.heap.size := Nat.lt_of_lt_of_le hl hn.size; clear hn)
        | ((with_reducible show wpList _ _ _ (⟨some 16, .alloc _, _, _, _, _⟩ :: _) _ _); refine wpList_alloc_blk rfl TO rfl _ zero_op ?_; intro W6 hn K6 S6; clear S6; have h5 : w.heap.size < w5.heap.size := hl; replace hT := hT.trans (Turned.of_below hn) (by simp); replace K1 := Lib.hid (K1.out.below hn hl); replace hl : w.heap.size < W6.heap.size := Nat.lt_of_lt_of_le hl hn.size; clear hn)
        | ((with_reducible show wpList _ _ _ (⟨none, .store TO (.tmp 16) _, _, _, _, _⟩ :: _) _ _); refine wpList_store_blk rfl TO _ _ rfl w5.heap.size TO zeroO.cells (O.mk 2 y2 [] 0).cells 4 rfl rfl K6 rfl (O.cellsN _) info_op ?_; intro W7 T7 K7 S7; clear S7; have f2 := K7.free 2; have f3 := K7.free 3; obtain ⟨_, _, q2, q3⟩ := ocells K7; replace K1 := Lib.hid (T7.blk K1.out (by simp; omega)); replace hT := hT.trans T7 (fun j h1 h2 => by simp at h2; omega); replace K7 := Lib.hid K7; replace hl : w.heap.size < W7.heap.size := Nat.lt_of_lt_of_le hl T7.size; clear K6 T7)
        | ((with_reducible show wpList _ _ _ (⟨some 59, .load TO (.tmp 16), _, _, _, _⟩ :: _) _ _); have K8 : Blk ((W7.setCell ⟨w5.heap.size, 2, none⟩ (.string ⟨v3.toArray⟩))) w5.heap.size TO o.cells := (by rw [hr.out]; exact (K7.out.set 2 (.string ⟨v3.toArray⟩))); refine wpList_load_blk rfl TO _ rfl w5.heap.size TO o.cells d rfl K8 hd.out hdr info_op ?_; replace K8 := Lib.hid K8)
        | (go_at_call 10; refine (PP.out _).mono ?_; rintro e w9 ⟨rfl, hn⟩; have l8 : w.heap.size < (W7.setCell ⟨w5.heap.size, 2, none⟩ (.string ⟨v3.toArray⟩)).heap.size := (by simpa [World.setCell] using hl); have l9 : w5.heap.size < (W7.setCell ⟨w5.heap.size, 2, none⟩ (.string ⟨v3.toArray⟩)).heap.size := (by simpa [World.setCell] using K7.out.lt); replace hT := (hT.setCell (p := ⟨w5.heap.size, 2, none⟩) (.inr (Nat.le_of_lt h5)) (.string ⟨v3.toArray⟩)).trans (Turned.of_below hn) (by simp); replace K1 := Lib.hid ((K1.out.setOther (a := ⟨w5.heap.size, 2, none⟩) (Nat.ne_of_lt h5) (.string ⟨v3.toArray⟩)).below hn l8); have K9 := Lib.hid (K8.out.below hn l9); replace hl : w.heap.size < w9.heap.size := Nat.lt_of_lt_of_le l8 hn.size; clear hn l8 l9 f2 f3 q2 q3 K7)
        | ((with_reducible show wpList _ _ _ (⟨some 71, .load TO (.tmp 16), _, _, _, _⟩ :: _) _ _); refine wpList_load_blk rfl TO _ rfl w5.heap.size TO o.cells d rfl K9.out hd.out hdr info_op ?_)
        | ((with_reducible show wpList _ _ _ (⟨none, .store TO (.tmp 2) (.tmp 70), _, _, _, _⟩ :: _) _ _); refine wpList_store_blk rfl TO _ _ rfl w.heap.size TO zeroO.cells (zeroO).cells 4 rfl rfl K1.out rfl (O.cellsN _) info_op ?_; intro WA TA KA SA; clear SA; replace hT := hT.trans (S' := [w.heap.size]) TA (fun j h1 h2 => by simp at h2; omega)))
      refine bodyPost_ret (results_cell2 (b := w.heap.size) (o := 0) (cs := (zeroO).cells) Try.results17 rfl KA.rangeAll hd.out hdr info_op) rfl ⟨?_, hT.below (Nat.le_refl _) (by simp)⟩
      exact ret_oe g1.out.symm g2.out.symm
    · replace g1 := Lib.hid g1
      replace g2 := Lib.hid g2
      have hc2 : (o.check == 0) = false := by simpa using hc
      go_enter Try.func17, Try.ntmps17
      go_wp2_with (first
        | ((with_reducible show wpList _ _ _ (⟨some 2, .alloc _, _, _, _, _⟩ :: _) _ _); refine wpList_alloc_blk rfl TO rfl _ zero_op ?_; intro W1 B1 K1 S1; clear S1; have hT := Turned.of_below B1; replace K1 := Lib.hid K1; have hl : w.heap.size < W1.heap.size := K1.out.lt; clear B1)
        | (go_at_call 25; (with_reducible refine (R1.out _).mono ?_); rintro e w2 ⟨rfl, hn⟩; replace hT := hT.trans (Turned.of_below hn) (by simp); replace K1 := Lib.hid (K1.out.below hn hl); replace hl : w.heap.size < w2.heap.size := Nat.lt_of_lt_of_le hl hn.size; clear hn)
        | (go_at_call 26; (with_reducible refine (R2.out _).mono ?_); rintro e w3 ⟨rfl, hn⟩; replace hT := hT.trans (Turned.of_below hn) (by simp); replace K1 := Lib.hid (K1.out.below hn hl); replace hl : w.heap.size < w3.heap.size := Nat.lt_of_lt_of_le hl hn.size; clear hn)
        | (go_at_call 26; (with_reducible refine (R3.out _).mono ?_); rintro e w4 ⟨rfl, hn⟩; replace hT := hT.trans (Turned.of_below hn) (by simp); replace K1 := Lib.hid (K1.out.below hn hl); replace hl : w.heap.size < w4.heap.size := Nat.lt_of_lt_of_le hl hn.size; clear hn)
        | (go_at_call 25; (with_reducible refine (R4.out _).mono ?_); rintro e w5 ⟨rfl, hn⟩; replace hT := hT.trans (Turned.of_below hn) (by simp); replace K1 := Lib.hid (K1.out.below hn hl); replace hl : w.heap.size < w5.heap.size := Nat.lt_of_lt_of_le hl hn.size; clear hn)
        | ((with_reducible show wpList _ _ _ (⟨some 16, .alloc _, _, _, _, _⟩ :: _) _ _); refine wpList_alloc_blk rfl TO rfl _ zero_op ?_; intro W6 hn K6 S6; clear S6; have h5 : w.heap.size < w5.heap.size := hl; replace hT := hT.trans (Turned.of_below hn) (by simp); replace K1 := Lib.hid (K1.out.below hn hl); replace hl : w.heap.size < W6.heap.size := Nat.lt_of_lt_of_le hl hn.size; clear hn)
        | ((with_reducible show wpList _ _ _ (⟨none, .store TO (.tmp 16) _, _, _, _, _⟩ :: _) _ _); refine wpList_store_blk rfl TO _ _ rfl w5.heap.size TO zeroO.cells (O.mk 2 y2 [] 0).cells 4 rfl rfl K6 rfl (O.cellsN _) info_op ?_; intro W7 T7 K7 S7; clear S7; have f2 := K7.free 2; have f3 := K7.free 3; obtain ⟨_, _, q2, q3⟩ := ocells K7; replace K1 := Lib.hid (T7.blk K1.out (by simp; omega)); replace hT := hT.trans T7 (fun j h1 h2 => by simp at h2; omega); replace K7 := Lib.hid K7; replace hl : w.heap.size < W7.heap.size := Nat.lt_of_lt_of_le hl T7.size; clear K6 T7)
        | ((with_reducible show wpList _ _ _ (⟨some 59, .load TO (.tmp 16), _, _, _, _⟩ :: _) _ _); have K8 : Blk ((W7.setCell ⟨w5.heap.size, 2, none⟩ (.string ⟨v3.toArray⟩))) w5.heap.size TO o.cells := (by rw [hr.out]; exact (K7.out.set 2 (.string ⟨v3.toArray⟩))); refine wpList_load_blk rfl TO _ rfl w5.heap.size TO o.cells d rfl K8 hd.out hdr info_op ?_; replace K8 := Lib.hid K8)
        | (go_at_call 10; refine (PP.out _).mono ?_; rintro e w9 ⟨rfl, hn⟩; have l8 : w.heap.size < (W7.setCell ⟨w5.heap.size, 2, none⟩ (.string ⟨v3.toArray⟩)).heap.size := (by simpa [World.setCell] using hl); have l9 : w5.heap.size < (W7.setCell ⟨w5.heap.size, 2, none⟩ (.string ⟨v3.toArray⟩)).heap.size := (by simpa [World.setCell] using K7.out.lt); replace hT := (hT.setCell (p := ⟨w5.heap.size, 2, none⟩) (.inr (Nat.le_of_lt h5)) (.string ⟨v3.toArray⟩)).trans (Turned.of_below hn) (by simp); replace K1 := Lib.hid ((K1.out.setOther (a := ⟨w5.heap.size, 2, none⟩) (Nat.ne_of_lt h5) (.string ⟨v3.toArray⟩)).below hn l8); have K9 := Lib.hid (K8.out.below hn l9); replace hl : w.heap.size < w9.heap.size := Nat.lt_of_lt_of_le l8 hn.size; clear hn l8 l9 f2 f3 q2 q3 K7)
        | ((with_reducible show wpList _ _ _ (⟨some 71, .load TO (.tmp 16), _, _, _, _⟩ :: _) _ _); refine wpList_load_blk rfl TO _ rfl w5.heap.size TO o.cells d rfl K9.out hd.out hdr info_op ?_)
        | ((with_reducible show wpList _ _ _ (⟨none, .store TO (.tmp 2) (.tmp 70), _, _, _, _⟩ :: _) _ _); refine wpList_store_blk rfl TO _ _ rfl w.heap.size TO zeroO.cells (zeroO).cells 4 rfl rfl K1.out rfl (O.cellsN _) info_op ?_; intro WA TA KA SA; clear SA; replace hT := hT.trans (S' := [w.heap.size]) TA (fun j h1 h2 => by simp at h2; omega)))
      refine bodyPost_ret (results_cell2 (b := w.heap.size) (o := 0) (cs := (zeroO).cells) Try.results17 rfl KA.rangeAll hd.out hdr info_op) rfl ⟨?_, hT.below (Nat.le_refl _) (by simp)⟩
      exact ret_oe g1.out.symm g2.out.symm
  · by_cases k4 : k = 4
    · subst k4
      replace hr := Lib.hid (show o = ⟨4, y2, v3, n4⟩ from by simpa using hr)
      rcases hh with ⟨g1, g2, hc, he⟩ | ⟨g1, g2, hc, he⟩ | ⟨g1, g2, hc⟩
      · replace g1 := Lib.hid g1
        replace g2 := Lib.hid g2
        rw [hc] at PP
        go_enter Try.func17, Try.ntmps17
        go_wp2_with (first
          | ((with_reducible show wpList _ _ _ (⟨some 2, .alloc _, _, _, _, _⟩ :: _) _ _); refine wpList_alloc_blk rfl TO rfl _ zero_op ?_; intro W1 B1 K1 S1; clear S1; have hT := Turned.of_below B1; replace K1 := Lib.hid K1; have hl : w.heap.size < W1.heap.size := K1.out.lt; clear B1)
          | (go_at_call 25; (with_reducible refine (R1.out _).mono ?_); rintro e w2 ⟨rfl, hn⟩; replace hT := hT.trans (Turned.of_below hn) (by simp); replace K1 := Lib.hid (K1.out.below hn hl); replace hl : w.heap.size < w2.heap.size := Nat.lt_of_lt_of_le hl hn.size; clear hn)
          | (go_at_call 26; (with_reducible refine (R2.out _).mono ?_); rintro e w3 ⟨rfl, hn⟩; replace hT := hT.trans (Turned.of_below hn) (by simp); replace K1 := Lib.hid (K1.out.below hn hl); replace hl : w.heap.size < w3.heap.size := Nat.lt_of_lt_of_le hl hn.size; clear hn)
          | (go_at_call 26; (with_reducible refine (R3.out _).mono ?_); rintro e w4 ⟨rfl, hn⟩; replace hT := hT.trans (Turned.of_below hn) (by simp); replace K1 := Lib.hid (K1.out.below hn hl); replace hl : w.heap.size < w4.heap.size := Nat.lt_of_lt_of_le hl hn.size; clear hn)
          | (go_at_call 25; (with_reducible refine (R4.out _).mono ?_); rintro e w5 ⟨rfl, hn⟩; replace hT := hT.trans (Turned.of_below hn) (by simp); replace K1 := Lib.hid (K1.out.below hn hl); replace hl : w.heap.size < w5.heap.size := Nat.lt_of_lt_of_le hl hn.size; clear hn)
          | ((with_reducible show wpList _ _ _ (⟨some 16, .alloc _, _, _, _, _⟩ :: _) _ _); refine wpList_alloc_blk rfl TO rfl _ zero_op ?_; intro W6 hn K6 S6; clear S6; have h5 : w.heap.size < w5.heap.size := hl; replace hT := hT.trans (Turned.of_below hn) (by simp); replace K1 := Lib.hid (K1.out.below hn hl); replace hl : w.heap.size < W6.heap.size := Nat.lt_of_lt_of_le hl hn.size; clear hn)
          | ((with_reducible show wpList _ _ _ (⟨none, .store TO (.tmp 16) _, _, _, _, _⟩ :: _) _ _); refine wpList_store_blk rfl TO _ _ rfl w5.heap.size TO zeroO.cells (O.mk 4 y2 [] 0).cells 4 rfl rfl K6 rfl (O.cellsN _) info_op ?_; intro W7 T7 K7 S7; clear S7; have f2 := K7.free 2; have f3 := K7.free 3; obtain ⟨_, _, q2, q3⟩ := ocells K7; replace K1 := Lib.hid (T7.blk K1.out (by simp; omega)); replace hT := hT.trans T7 (fun j h1 h2 => by simp at h2; omega); replace K7 := Lib.hid K7; replace hl : w.heap.size < W7.heap.size := Nat.lt_of_lt_of_le hl T7.size; clear K6 T7)
          | ((with_reducible show wpList _ _ _ (⟨some 59, .load TO (.tmp 16), _, _, _, _⟩ :: _) _ _); have K8 : Blk (((W7.setCell ⟨w5.heap.size, 2, none⟩ (.string ⟨v3.toArray⟩)).setCell ⟨w5.heap.size, 3, none⟩ (.int .i64 n4))) w5.heap.size TO o.cells := (by rw [hr.out]; exact ((K7.out.set 2 (.string ⟨v3.toArray⟩)).set 3 (.int .i64 n4))); refine wpList_load_blk rfl TO _ rfl w5.heap.size TO o.cells d rfl K8 hd.out hdr info_op ?_; replace K8 := Lib.hid K8)
          | (go_at_call 10; refine (PP.out _).mono ?_; rintro e w9 ⟨rfl, hn⟩; have l8 : w.heap.size < ((W7.setCell ⟨w5.heap.size, 2, none⟩ (.string ⟨v3.toArray⟩)).setCell ⟨w5.heap.size, 3, none⟩ (.int .i64 n4)).heap.size := (by simpa [World.setCell] using hl); have l9 : w5.heap.size < ((W7.setCell ⟨w5.heap.size, 2, none⟩ (.string ⟨v3.toArray⟩)).setCell ⟨w5.heap.size, 3, none⟩ (.int .i64 n4)).heap.size := (by simpa [World.setCell] using K7.out.lt); replace hT := ((hT.setCell (p := ⟨w5.heap.size, 2, none⟩) (.inr (Nat.le_of_lt h5)) (.string ⟨v3.toArray⟩)).setCell (p := ⟨w5.heap.size, 3, none⟩) (.inr (Nat.le_of_lt h5)) (.int .i64 n4)).trans (Turned.of_below hn) (by simp); replace K1 := Lib.hid (((K1.out.setOther (a := ⟨w5.heap.size, 2, none⟩) (Nat.ne_of_lt h5) (.string ⟨v3.toArray⟩)).setOther (a := ⟨w5.heap.size, 3, none⟩) (Nat.ne_of_lt h5) (.int .i64 n4)).below hn l8); have K9 := Lib.hid (K8.out.below hn l9); replace hl : w.heap.size < w9.heap.size := Nat.lt_of_lt_of_le l8 hn.size; clear hn l8 l9 f2 f3 q2 q3 K7)
          | ((with_reducible show wpList _ _ _ (⟨some 71, .load TO (.tmp 16), _, _, _, _⟩ :: _) _ _); refine wpList_load_blk rfl TO _ rfl w5.heap.size TO o.cells d rfl K9.out hd.out hdr info_op ?_)
          | ((with_reducible show wpList _ _ _ (⟨none, .store TO (.tmp 2) (.tmp 71), _, _, _, _⟩ :: _) _ _); refine wpList_store_blk rfl TO _ _ rfl w.heap.size TO zeroO.cells (o).cells 4 rfl rfl K1.out rfl (O.cellsN _) info_op ?_; intro WA TA KA SA; clear SA; replace hT := hT.trans (S' := [w.heap.size]) TA (fun j h1 h2 => by simp at h2; omega)))
        refine bodyPost_ret (results_cell2 (b := w.heap.size) (o := 0) (cs := (o).cells) Try.results17 rfl KA.rangeAll hd.out hdr info_op) rfl ⟨?_, hT.below (Nat.le_refl _) (by simp)⟩
        exact ret_oe g1.out.symm g2.out.symm
      · replace g1 := Lib.hid g1
        replace g2 := Lib.hid g2
        rw [hc] at PP
        go_enter Try.func17, Try.ntmps17
        go_wp2_with (first
          | ((with_reducible show wpList _ _ _ (⟨some 2, .alloc _, _, _, _, _⟩ :: _) _ _); refine wpList_alloc_blk rfl TO rfl _ zero_op ?_; intro W1 B1 K1 S1; clear S1; have hT := Turned.of_below B1; replace K1 := Lib.hid K1; have hl : w.heap.size < W1.heap.size := K1.out.lt; clear B1)
          | (go_at_call 25; (with_reducible refine (R1.out _).mono ?_); rintro e w2 ⟨rfl, hn⟩; replace hT := hT.trans (Turned.of_below hn) (by simp); replace K1 := Lib.hid (K1.out.below hn hl); replace hl : w.heap.size < w2.heap.size := Nat.lt_of_lt_of_le hl hn.size; clear hn)
          | (go_at_call 26; (with_reducible refine (R2.out _).mono ?_); rintro e w3 ⟨rfl, hn⟩; replace hT := hT.trans (Turned.of_below hn) (by simp); replace K1 := Lib.hid (K1.out.below hn hl); replace hl : w.heap.size < w3.heap.size := Nat.lt_of_lt_of_le hl hn.size; clear hn)
          | (go_at_call 26; (with_reducible refine (R3.out _).mono ?_); rintro e w4 ⟨rfl, hn⟩; replace hT := hT.trans (Turned.of_below hn) (by simp); replace K1 := Lib.hid (K1.out.below hn hl); replace hl : w.heap.size < w4.heap.size := Nat.lt_of_lt_of_le hl hn.size; clear hn)
          | (go_at_call 25; (with_reducible refine (R4.out _).mono ?_); rintro e w5 ⟨rfl, hn⟩; replace hT := hT.trans (Turned.of_below hn) (by simp); replace K1 := Lib.hid (K1.out.below hn hl); replace hl : w.heap.size < w5.heap.size := Nat.lt_of_lt_of_le hl hn.size; clear hn)
          | ((with_reducible show wpList _ _ _ (⟨some 16, .alloc _, _, _, _, _⟩ :: _) _ _); refine wpList_alloc_blk rfl TO rfl _ zero_op ?_; intro W6 hn K6 S6; clear S6; have h5 : w.heap.size < w5.heap.size := hl; replace hT := hT.trans (Turned.of_below hn) (by simp); replace K1 := Lib.hid (K1.out.below hn hl); replace hl : w.heap.size < W6.heap.size := Nat.lt_of_lt_of_le hl hn.size; clear hn)
          | ((with_reducible show wpList _ _ _ (⟨none, .store TO (.tmp 16) _, _, _, _, _⟩ :: _) _ _); refine wpList_store_blk rfl TO _ _ rfl w5.heap.size TO zeroO.cells (O.mk 4 y2 [] 0).cells 4 rfl rfl K6 rfl (O.cellsN _) info_op ?_; intro W7 T7 K7 S7; clear S7; have f2 := K7.free 2; have f3 := K7.free 3; obtain ⟨_, _, q2, q3⟩ := ocells K7; replace K1 := Lib.hid (T7.blk K1.out (by simp; omega)); replace hT := hT.trans T7 (fun j h1 h2 => by simp at h2; omega); replace K7 := Lib.hid K7; replace hl : w.heap.size < W7.heap.size := Nat.lt_of_lt_of_le hl T7.size; clear K6 T7)
          | ((with_reducible show wpList _ _ _ (⟨some 59, .load TO (.tmp 16), _, _, _, _⟩ :: _) _ _); have K8 : Blk (((W7.setCell ⟨w5.heap.size, 2, none⟩ (.string ⟨v3.toArray⟩)).setCell ⟨w5.heap.size, 3, none⟩ (.int .i64 n4))) w5.heap.size TO o.cells := (by rw [hr.out]; exact ((K7.out.set 2 (.string ⟨v3.toArray⟩)).set 3 (.int .i64 n4))); refine wpList_load_blk rfl TO _ rfl w5.heap.size TO o.cells d rfl K8 hd.out hdr info_op ?_; replace K8 := Lib.hid K8)
          | (go_at_call 10; refine (PP.out _).mono ?_; rintro e w9 ⟨rfl, hn⟩; have l8 : w.heap.size < ((W7.setCell ⟨w5.heap.size, 2, none⟩ (.string ⟨v3.toArray⟩)).setCell ⟨w5.heap.size, 3, none⟩ (.int .i64 n4)).heap.size := (by simpa [World.setCell] using hl); have l9 : w5.heap.size < ((W7.setCell ⟨w5.heap.size, 2, none⟩ (.string ⟨v3.toArray⟩)).setCell ⟨w5.heap.size, 3, none⟩ (.int .i64 n4)).heap.size := (by simpa [World.setCell] using K7.out.lt); replace hT := ((hT.setCell (p := ⟨w5.heap.size, 2, none⟩) (.inr (Nat.le_of_lt h5)) (.string ⟨v3.toArray⟩)).setCell (p := ⟨w5.heap.size, 3, none⟩) (.inr (Nat.le_of_lt h5)) (.int .i64 n4)).trans (Turned.of_below hn) (by simp); replace K1 := Lib.hid (((K1.out.setOther (a := ⟨w5.heap.size, 2, none⟩) (Nat.ne_of_lt h5) (.string ⟨v3.toArray⟩)).setOther (a := ⟨w5.heap.size, 3, none⟩) (Nat.ne_of_lt h5) (.int .i64 n4)).below hn l8); have K9 := Lib.hid (K8.out.below hn l9); replace hl : w.heap.size < w9.heap.size := Nat.lt_of_lt_of_le l8 hn.size; clear hn l8 l9 f2 f3 q2 q3 K7)
          | ((with_reducible show wpList _ _ _ (⟨some 71, .load TO (.tmp 16), _, _, _, _⟩ :: _) _ _); refine wpList_load_blk rfl TO _ rfl w5.heap.size TO o.cells d rfl K9.out hd.out hdr info_op ?_)
          | ((with_reducible show wpList _ _ _ (⟨none, .store TO (.tmp 2) (.tmp 70), _, _, _, _⟩ :: _) _ _); refine wpList_store_blk rfl TO _ _ rfl w.heap.size TO zeroO.cells (zeroO).cells 4 rfl rfl K1.out rfl (O.cellsN _) info_op ?_; intro WA TA KA SA; clear SA; replace hT := hT.trans (S' := [w.heap.size]) TA (fun j h1 h2 => by simp at h2; omega)))
        refine bodyPost_ret (results_cell2 (b := w.heap.size) (o := 0) (cs := (zeroO).cells) Try.results17 rfl KA.rangeAll hd.out hdr info_op) rfl ⟨?_, hT.below (Nat.le_refl _) (by simp)⟩
        exact ret_oe g1.out.symm g2.out.symm
      · replace g1 := Lib.hid g1
        replace g2 := Lib.hid g2
        have hc2 : (o.check == 0) = false := by simpa using hc
        go_enter Try.func17, Try.ntmps17
        go_wp2_with (first
          | ((with_reducible show wpList _ _ _ (⟨some 2, .alloc _, _, _, _, _⟩ :: _) _ _); refine wpList_alloc_blk rfl TO rfl _ zero_op ?_; intro W1 B1 K1 S1; clear S1; have hT := Turned.of_below B1; replace K1 := Lib.hid K1; have hl : w.heap.size < W1.heap.size := K1.out.lt; clear B1)
          | (go_at_call 25; (with_reducible refine (R1.out _).mono ?_); rintro e w2 ⟨rfl, hn⟩; replace hT := hT.trans (Turned.of_below hn) (by simp); replace K1 := Lib.hid (K1.out.below hn hl); replace hl : w.heap.size < w2.heap.size := Nat.lt_of_lt_of_le hl hn.size; clear hn)
          | (go_at_call 26; (with_reducible refine (R2.out _).mono ?_); rintro e w3 ⟨rfl, hn⟩; replace hT := hT.trans (Turned.of_below hn) (by simp); replace K1 := Lib.hid (K1.out.below hn hl); replace hl : w.heap.size < w3.heap.size := Nat.lt_of_lt_of_le hl hn.size; clear hn)
          | (go_at_call 26; (with_reducible refine (R3.out _).mono ?_); rintro e w4 ⟨rfl, hn⟩; replace hT := hT.trans (Turned.of_below hn) (by simp); replace K1 := Lib.hid (K1.out.below hn hl); replace hl : w.heap.size < w4.heap.size := Nat.lt_of_lt_of_le hl hn.size; clear hn)
          | (go_at_call 25; (with_reducible refine (R4.out _).mono ?_); rintro e w5 ⟨rfl, hn⟩; replace hT := hT.trans (Turned.of_below hn) (by simp); replace K1 := Lib.hid (K1.out.below hn hl); replace hl : w.heap.size < w5.heap.size := Nat.lt_of_lt_of_le hl hn.size; clear hn)
          | ((with_reducible show wpList _ _ _ (⟨some 16, .alloc _, _, _, _, _⟩ :: _) _ _); refine wpList_alloc_blk rfl TO rfl _ zero_op ?_; intro W6 hn K6 S6; clear S6; have h5 : w.heap.size < w5.heap.size := hl; replace hT := hT.trans (Turned.of_below hn) (by simp); replace K1 := Lib.hid (K1.out.below hn hl); replace hl : w.heap.size < W6.heap.size := Nat.lt_of_lt_of_le hl hn.size; clear hn)
          | ((with_reducible show wpList _ _ _ (⟨none, .store TO (.tmp 16) _, _, _, _, _⟩ :: _) _ _); refine wpList_store_blk rfl TO _ _ rfl w5.heap.size TO zeroO.cells (O.mk 4 y2 [] 0).cells 4 rfl rfl K6 rfl (O.cellsN _) info_op ?_; intro W7 T7 K7 S7; clear S7; have f2 := K7.free 2; have f3 := K7.free 3; obtain ⟨_, _, q2, q3⟩ := ocells K7; replace K1 := Lib.hid (T7.blk K1.out (by simp; omega)); replace hT := hT.trans T7 (fun j h1 h2 => by simp at h2; omega); replace K7 := Lib.hid K7; replace hl : w.heap.size < W7.heap.size := Nat.lt_of_lt_of_le hl T7.size; clear K6 T7)
          | ((with_reducible show wpList _ _ _ (⟨some 59, .load TO (.tmp 16), _, _, _, _⟩ :: _) _ _); have K8 : Blk (((W7.setCell ⟨w5.heap.size, 2, none⟩ (.string ⟨v3.toArray⟩)).setCell ⟨w5.heap.size, 3, none⟩ (.int .i64 n4))) w5.heap.size TO o.cells := (by rw [hr.out]; exact ((K7.out.set 2 (.string ⟨v3.toArray⟩)).set 3 (.int .i64 n4))); refine wpList_load_blk rfl TO _ rfl w5.heap.size TO o.cells d rfl K8 hd.out hdr info_op ?_; replace K8 := Lib.hid K8)
          | (go_at_call 10; refine (PP.out _).mono ?_; rintro e w9 ⟨rfl, hn⟩; have l8 : w.heap.size < ((W7.setCell ⟨w5.heap.size, 2, none⟩ (.string ⟨v3.toArray⟩)).setCell ⟨w5.heap.size, 3, none⟩ (.int .i64 n4)).heap.size := (by simpa [World.setCell] using hl); have l9 : w5.heap.size < ((W7.setCell ⟨w5.heap.size, 2, none⟩ (.string ⟨v3.toArray⟩)).setCell ⟨w5.heap.size, 3, none⟩ (.int .i64 n4)).heap.size := (by simpa [World.setCell] using K7.out.lt); replace hT := ((hT.setCell (p := ⟨w5.heap.size, 2, none⟩) (.inr (Nat.le_of_lt h5)) (.string ⟨v3.toArray⟩)).setCell (p := ⟨w5.heap.size, 3, none⟩) (.inr (Nat.le_of_lt h5)) (.int .i64 n4)).trans (Turned.of_below hn) (by simp); replace K1 := Lib.hid (((K1.out.setOther (a := ⟨w5.heap.size, 2, none⟩) (Nat.ne_of_lt h5) (.string ⟨v3.toArray⟩)).setOther (a := ⟨w5.heap.size, 3, none⟩) (Nat.ne_of_lt h5) (.int .i64 n4)).below hn l8); have K9 := Lib.hid (K8.out.below hn l9); replace hl : w.heap.size < w9.heap.size := Nat.lt_of_lt_of_le l8 hn.size; clear hn l8 l9 f2 f3 q2 q3 K7)
          | ((with_reducible show wpList _ _ _ (⟨some 71, .load TO (.tmp 16), _, _, _, _⟩ :: _) _ _); refine wpList_load_blk rfl TO _ rfl w5.heap.size TO o.cells d rfl K9.out hd.out hdr info_op ?_)
          | ((with_reducible show wpList _ _ _ (⟨none, .store TO (.tmp 2) (.tmp 70), _, _, _, _⟩ :: _) _ _); refine wpList_store_blk rfl TO _ _ rfl w.heap.size TO zeroO.cells (zeroO).cells 4 rfl rfl K1.out rfl (O.cellsN _) info_op ?_; intro WA TA KA SA; clear SA; replace hT := hT.trans (S' := [w.heap.size]) TA (fun j h1 h2 => by simp at h2; omega)))
        refine bodyPost_ret (results_cell2 (b := w.heap.size) (o := 0) (cs := (zeroO).cells) Try.results17 rfl KA.rangeAll hd.out hdr info_op) rfl ⟨?_, hT.below (Nat.le_refl _) (by simp)⟩
        exact ret_oe g1.out.symm g2.out.symm
    · replace hr := Lib.hid (show o = ⟨k, y2, [], 0⟩ from by simpa [k2, k4] using hr)
      have t2 : (k == 2) = false := by simpa using k2
      have t4 : (k == 4) = false := by simpa using k4
      rcases hh with ⟨g1, g2, hc, he⟩ | ⟨g1, g2, hc, he⟩ | ⟨g1, g2, hc⟩
      · replace g1 := Lib.hid g1
        replace g2 := Lib.hid g2
        rw [hc] at PP
        go_enter Try.func17, Try.ntmps17
        go_wp2_with (first
          | ((with_reducible show wpList _ _ _ (⟨some 2, .alloc _, _, _, _, _⟩ :: _) _ _); refine wpList_alloc_blk rfl TO rfl _ zero_op ?_; intro W1 B1 K1 S1; clear S1; have hT := Turned.of_below B1; replace K1 := Lib.hid K1; have hl : w.heap.size < W1.heap.size := K1.out.lt; clear B1)
          | (go_at_call 25; (with_reducible refine (R1.out _).mono ?_); rintro e w2 ⟨rfl, hn⟩; replace hT := hT.trans (Turned.of_below hn) (by simp); replace K1 := Lib.hid (K1.out.below hn hl); replace hl : w.heap.size < w2.heap.size := Nat.lt_of_lt_of_le hl hn.size; clear hn)
          | (go_at_call 26; (with_reducible refine (R2.out _).mono ?_); rintro e w3 ⟨rfl, hn⟩; replace hT := hT.trans (Turned.of_below hn) (by simp); replace K1 := Lib.hid (K1.out.below hn hl); replace hl : w.heap.size < w3.heap.size := Nat.lt_of_lt_of_le hl hn.size; clear hn)
          | (go_at_call 26; (with_reducible refine (R3.out _).mono ?_); rintro e w4 ⟨rfl, hn⟩; replace hT := hT.trans (Turned.of_below hn) (by simp); replace K1 := Lib.hid (K1.out.below hn hl); replace hl : w.heap.size < w4.heap.size := Nat.lt_of_lt_of_le hl hn.size; clear hn)
          | (go_at_call 25; (with_reducible refine (R4.out _).mono ?_); rintro e w5 ⟨rfl, hn⟩; replace hT := hT.trans (Turned.of_below hn) (by simp); replace K1 := Lib.hid (K1.out.below hn hl); replace hl : w.heap.size < w5.heap.size := Nat.lt_of_lt_of_le hl hn.size; clear hn)
          | ((with_reducible show wpList _ _ _ (⟨some 16, .alloc _, _, _, _, _⟩ :: _) _ _); refine wpList_alloc_blk rfl TO rfl _ zero_op ?_; intro W6 hn K6 S6; clear S6; have h5 : w.heap.size < w5.heap.size := hl; replace hT := hT.trans (Turned.of_below hn) (by simp); replace K1 := Lib.hid (K1.out.below hn hl); replace hl : w.heap.size < W6.heap.size := Nat.lt_of_lt_of_le hl hn.size; clear hn)
          | ((with_reducible show wpList _ _ _ (⟨none, .store TO (.tmp 16) _, _, _, _, _⟩ :: _) _ _); refine wpList_store_blk rfl TO _ _ rfl w5.heap.size TO zeroO.cells (O.mk k y2 [] 0).cells 4 rfl rfl K6 rfl (O.cellsN _) info_op ?_; intro W7 T7 K7 S7; clear S7; have f2 := K7.free 2; have f3 := K7.free 3; obtain ⟨_, _, q2, q3⟩ := ocells K7; replace K1 := Lib.hid (T7.blk K1.out (by simp; omega)); replace hT := hT.trans T7 (fun j h1 h2 => by simp at h2; omega); replace K7 := Lib.hid K7; replace hl : w.heap.size < W7.heap.size := Nat.lt_of_lt_of_le hl T7.size; clear K6 T7)
          | ((with_reducible show wpList _ _ _ (⟨some 59, .load TO (.tmp 16), _, _, _, _⟩ :: _) _ _); have K8 : Blk (W7) w5.heap.size TO o.cells := (by rw [hr.out]; exact K7.out); refine wpList_load_blk rfl TO _ rfl w5.heap.size TO o.cells d rfl K8 hd.out hdr info_op ?_; replace K8 := Lib.hid K8)
          | (go_at_call 10; refine (PP.out _).mono ?_; rintro e w9 ⟨rfl, hn⟩; have l8 : w.heap.size < W7.heap.size := hl; have l9 : w5.heap.size < W7.heap.size := K7.out.lt; replace hT := hT.trans (Turned.of_below hn) (by simp); replace K1 := Lib.hid (K1.out.below hn l8); have K9 := Lib.hid (K8.out.below hn l9); replace hl : w.heap.size < w9.heap.size := Nat.lt_of_lt_of_le l8 hn.size; clear hn l8 l9 f2 f3 q2 q3 K7)
          | ((with_reducible show wpList _ _ _ (⟨some 71, .load TO (.tmp 16), _, _, _, _⟩ :: _) _ _); refine wpList_load_blk rfl TO _ rfl w5.heap.size TO o.cells d rfl K9.out hd.out hdr info_op ?_)
          | ((with_reducible show wpList _ _ _ (⟨none, .store TO (.tmp 2) (.tmp 71), _, _, _, _⟩ :: _) _ _); refine wpList_store_blk rfl TO _ _ rfl w.heap.size TO zeroO.cells (o).cells 4 rfl rfl K1.out rfl (O.cellsN _) info_op ?_; intro WA TA KA SA; clear SA; replace hT := hT.trans (S' := [w.heap.size]) TA (fun j h1 h2 => by simp at h2; omega)))
        refine bodyPost_ret (results_cell2 (b := w.heap.size) (o := 0) (cs := (o).cells) Try.results17 rfl KA.rangeAll hd.out hdr info_op) rfl ⟨?_, hT.below (Nat.le_refl _) (by simp)⟩
        exact ret_oe g1.out.symm g2.out.symm
      · replace g1 := Lib.hid g1
        replace g2 := Lib.hid g2
        rw [hc] at PP
        go_enter Try.func17, Try.ntmps17
        go_wp2_with (first
          | ((with_reducible show wpList _ _ _ (⟨some 2, .alloc _, _, _, _, _⟩ :: _) _ _); refine wpList_alloc_blk rfl TO rfl _ zero_op ?_; intro W1 B1 K1 S1; clear S1; have hT := Turned.of_below B1; replace K1 := Lib.hid K1; have hl : w.heap.size < W1.heap.size := K1.out.lt; clear B1)
          | (go_at_call 25; (with_reducible refine (R1.out _).mono ?_); rintro e w2 ⟨rfl, hn⟩; replace hT := hT.trans (Turned.of_below hn) (by simp); replace K1 := Lib.hid (K1.out.below hn hl); replace hl : w.heap.size < w2.heap.size := Nat.lt_of_lt_of_le hl hn.size; clear hn)
          | (go_at_call 26; (with_reducible refine (R2.out _).mono ?_); rintro e w3 ⟨rfl, hn⟩; replace hT := hT.trans (Turned.of_below hn) (by simp); replace K1 := Lib.hid (K1.out.below hn hl); replace hl : w.heap.size < w3.heap.size := Nat.lt_of_lt_of_le hl hn.size; clear hn)
          | (go_at_call 26; (with_reducible refine (R3.out _).mono ?_); rintro e w4 ⟨rfl, hn⟩; replace hT := hT.trans (Turned.of_below hn) (by simp); replace K1 := Lib.hid (K1.out.below hn hl); replace hl : w.heap.size < w4.heap.size := Nat.lt_of_lt_of_le hl hn.size; clear hn)
          | (go_at_call 25; (with_reducible refine (R4.out _).mono ?_); rintro e w5 ⟨rfl, hn⟩; replace hT := hT.trans (Turned.of_below hn) (by simp); replace K1 := Lib.hid (K1.out.below hn hl); replace hl : w.heap.size < w5.heap.size := Nat.lt_of_lt_of_le hl hn.size; clear hn)
          | ((with_reducible show wpList _ _ _ (⟨some 16, .alloc _, _, _, _, _⟩ :: _) _ _); refine wpList_alloc_blk rfl TO rfl _ zero_op ?_; intro W6 hn K6 S6; clear S6; have h5 : w.heap.size < w5.heap.size := hl; replace hT := hT.trans (Turned.of_below hn) (by simp); replace K1 := Lib.hid (K1.out.below hn hl); replace hl : w.heap.size < W6.heap.size := Nat.lt_of_lt_of_le hl hn.size; clear hn)
          | ((with_reducible show wpList _ _ _ (⟨none, .store TO (.tmp 16) _, _, _, _, _⟩ :: _) _ _); refine wpList_store_blk rfl TO _ _ rfl w5.heap.size TO zeroO.cells (O.mk k y2 [] 0).cells 4 rfl rfl K6 rfl (O.cellsN _) info_op ?_; intro W7 T7 K7 S7; clear S7; have f2 := K7.free 2; have f3 := K7.free 3; obtain ⟨_, _, q2, q3⟩ := ocells K7; replace K1 := Lib.hid (T7.blk K1.out (by simp; omega)); replace hT := hT.trans T7 (fun j h1 h2 => by simp at h2; omega); replace K7 := Lib.hid K7; replace hl : w.heap.size < W7.heap.size := Nat.lt_of_lt_of_le hl T7.size; clear K6 T7)
          | ((with_reducible show wpList _ _ _ (⟨some 59, .load TO (.tmp 16), _, _, _, _⟩ :: _) _ _); have K8 : Blk (W7) w5.heap.size TO o.cells := (by rw [hr.out]; exact K7.out); refine wpList_load_blk rfl TO _ rfl w5.heap.size TO o.cells d rfl K8 hd.out hdr info_op ?_; replace K8 := Lib.hid K8)
          | (go_at_call 10; refine (PP.out _).mono ?_; rintro e w9 ⟨rfl, hn⟩; have l8 : w.heap.size < W7.heap.size := hl; have l9 : w5.heap.size < W7.heap.size := K7.out.lt; replace hT := hT.trans (Turned.of_below hn) (by simp); replace K1 := Lib.hid (K1.out.below hn l8); have K9 := Lib.hid (K8.out.below hn l9); replace hl : w.heap.size < w9.heap.size := Nat.lt_of_lt_of_le l8 hn.size; clear hn l8 l9 f2 f3 q2 q3 K7)
          | ((with_reducible show wpList _ _ _ (⟨some 71, .load TO (.tmp 16), _, _, _, _⟩ :: _) _ _); refine wpList_load_blk rfl TO _ rfl w5.heap.size TO o.cells d rfl K9.out hd.out hdr info_op ?_)
          | ((with_reducible show wpList _ _ _ (⟨none, .store TO (.tmp 2) (.tmp 70), _, _, _, _⟩ :: _) _ _); refine wpList_store_blk rfl TO _ _ rfl w.heap.size TO zeroO.cells (zeroO).cells 4 rfl rfl K1.out rfl (O.cellsN _) info_op ?_; intro WA TA KA SA; clear SA; replace hT := hT.trans (S' := [w.heap.size]) TA (fun j h1 h2 => by simp at h2; omega)))
        refine bodyPost_ret (results_cell2 (b := w.heap.size) (o := 0) (cs := (zeroO).cells) Try.results17 rfl KA.rangeAll hd.out hdr info_op) rfl ⟨?_, hT.below (Nat.le_refl _) (by simp)⟩
        exact ret_oe g1.out.symm g2.out.symm
      · replace g1 := Lib.hid g1
        replace g2 := Lib.hid g2
        have hc2 : (o.check == 0) = false := by simpa using hc
        go_enter Try.func17, Try.ntmps17
        go_wp2_with (first
          | ((with_reducible show wpList _ _ _ (⟨some 2, .alloc _, _, _, _, _⟩ :: _) _ _); refine wpList_alloc_blk rfl TO rfl _ zero_op ?_; intro W1 B1 K1 S1; clear S1; have hT := Turned.of_below B1; replace K1 := Lib.hid K1; have hl : w.heap.size < W1.heap.size := K1.out.lt; clear B1)
          | (go_at_call 25; (with_reducible refine (R1.out _).mono ?_); rintro e w2 ⟨rfl, hn⟩; replace hT := hT.trans (Turned.of_below hn) (by simp); replace K1 := Lib.hid (K1.out.below hn hl); replace hl : w.heap.size < w2.heap.size := Nat.lt_of_lt_of_le hl hn.size; clear hn)
          | (go_at_call 26; (with_reducible refine (R2.out _).mono ?_); rintro e w3 ⟨rfl, hn⟩; replace hT := hT.trans (Turned.of_below hn) (by simp); replace K1 := Lib.hid (K1.out.below hn hl); replace hl : w.heap.size < w3.heap.size := Nat.lt_of_lt_of_le hl hn.size; clear hn)
          | (go_at_call 26; (with_reducible refine (R3.out _).mono ?_); rintro e w4 ⟨rfl, hn⟩; replace hT := hT.trans (Turned.of_below hn) (by simp); replace K1 := Lib.hid (K1.out.below hn hl); replace hl : w.heap.size < w4.heap.size := Nat.lt_of_lt_of_le hl hn.size; clear hn)
          | (go_at_call 25; (with_reducible refine (R4.out _).mono ?_); rintro e w5 ⟨rfl, hn⟩; replace hT := hT.trans (Turned.of_below hn) (by simp); replace K1 := Lib.hid (K1.out.below hn hl); replace hl : w.heap.size < w5.heap.size := Nat.lt_of_lt_of_le hl hn.size; clear hn)
          | ((with_reducible show wpList _ _ _ (⟨some 16, .alloc _, _, _, _, _⟩ :: _) _ _); refine wpList_alloc_blk rfl TO rfl _ zero_op ?_; intro W6 hn K6 S6; clear S6; have h5 : w.heap.size < w5.heap.size := hl; replace hT := hT.trans (Turned.of_below hn) (by simp); replace K1 := Lib.hid (K1.out.below hn hl); replace hl : w.heap.size < W6.heap.size := Nat.lt_of_lt_of_le hl hn.size; clear hn)
          | ((with_reducible show wpList _ _ _ (⟨none, .store TO (.tmp 16) _, _, _, _, _⟩ :: _) _ _); refine wpList_store_blk rfl TO _ _ rfl w5.heap.size TO zeroO.cells (O.mk k y2 [] 0).cells 4 rfl rfl K6 rfl (O.cellsN _) info_op ?_; intro W7 T7 K7 S7; clear S7; have f2 := K7.free 2; have f3 := K7.free 3; obtain ⟨_, _, q2, q3⟩ := ocells K7; replace K1 := Lib.hid (T7.blk K1.out (by simp; omega)); replace hT := hT.trans T7 (fun j h1 h2 => by simp at h2; omega); replace K7 := Lib.hid K7; replace hl : w.heap.size < W7.heap.size := Nat.lt_of_lt_of_le hl T7.size; clear K6 T7)
          | ((with_reducible show wpList _ _ _ (⟨some 59, .load TO (.tmp 16), _, _, _, _⟩ :: _) _ _); have K8 : Blk (W7) w5.heap.size TO o.cells := (by rw [hr.out]; exact K7.out); refine wpList_load_blk rfl TO _ rfl w5.heap.size TO o.cells d rfl K8 hd.out hdr info_op ?_; replace K8 := Lib.hid K8)
          | (go_at_call 10; refine (PP.out _).mono ?_; rintro e w9 ⟨rfl, hn⟩; have l8 : w.heap.size < W7.heap.size := hl; have l9 : w5.heap.size < W7.heap.size := K7.out.lt; replace hT := hT.trans (Turned.of_below hn) (by simp); replace K1 := Lib.hid (K1.out.below hn l8); have K9 := Lib.hid (K8.out.below hn l9); replace hl : w.heap.size < w9.heap.size := Nat.lt_of_lt_of_le l8 hn.size; clear hn l8 l9 f2 f3 q2 q3 K7)
          | ((with_reducible show wpList _ _ _ (⟨some 71, .load TO (.tmp 16), _, _, _, _⟩ :: _) _ _); refine wpList_load_blk rfl TO _ rfl w5.heap.size TO o.cells d rfl K9.out hd.out hdr info_op ?_)
          | ((with_reducible show wpList _ _ _ (⟨none, .store TO (.tmp 2) (.tmp 70), _, _, _, _⟩ :: _) _ _); refine wpList_store_blk rfl TO _ _ rfl w.heap.size TO zeroO.cells (zeroO).cells 4 rfl rfl K1.out rfl (O.cellsN _) info_op ?_; intro WA TA KA SA; clear SA; replace hT := hT.trans (S' := [w.heap.size]) TA (fun j h1 h2 => by simp at h2; omega)))
        refine bodyPost_ret (results_cell2 (b := w.heap.size) (o := 0) (cs := (zeroO).cells) Try.results17 rfl KA.rangeAll hd.out hdr info_op) rfl ⟨?_, hT.below (Nat.le_refl _) (by simp)⟩
        exact ret_oe g1.out.symm g2.out.symm
end Go.Proofs.Ytpljlncolkecpaa.Ops
