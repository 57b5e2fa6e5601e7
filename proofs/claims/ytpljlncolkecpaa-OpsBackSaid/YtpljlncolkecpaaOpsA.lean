/-
  Contracts of package ops (layer 9), the landed code's: Cost, Reads, Put, Get. Conditions: those that each names.
-/
import Derived.Test.YtpljlncolkecpaaOpsS
import Derived.Test.YtpljlncolkecpaaOpsC
import Derived.Test.YtpljlncolkecpaaCodecC
import Derived.Test.YtpljlncolkecpaaCell
import Derived.Deep.DeepCutAuto
namespace Go.Proofs.Ytpljlncolkecpaa.Ops
open Go.RowKit Go.Proofs.Ytpljlncolkecpaa.Mem Go.Proofs.Ytpljlncolkecpaa.Codec
attribute [local go_sem ↓] execLoadO
theorem info_intO : (Try.prog.info? 3).map (·.size) = some 1 := by kernel_rfl
theorem info_strO : (Try.prog.info? 9).map (·.size) = some 1 := by kernel_rfl
theorem results_cell3 {P : Program} {fn : Func} {p u v : Tmp} {ty : TypeId} {tmps : Array Value} {w : World} {b o : Nat} {cs : List Value} {d : TypeDesc} (h : fn.results = #[.cell p ty, .tmp u, .tmp v]) (hp : tmps.getD p undef = .pointer (some ⟨b, o, none⟩))
    (hc : w.rangeAt b o cs) (hu : P.underlying ty = some d) (hd : d.isRow = true) (hi : (P.info? ty).map (·.size) = some cs.length) : (results fn tmps).run P w = .ok (.tuple #[.agg cs.toArray, tmps.getD u undef, tmps.getD v undef]) w := by
  have hl := run_loadVar_mid w b o ty cs d hc hu hd hi
  simp only [Array.getD_eq_getD_getElem?] at hp
  simp [results, h, hp, asAddr, hl, Result.andThen]


theorem cost_any (o : O) (w : World) : Calls Try.prog 13 #[.agg o.cells.toArray] w fun e w' => e = .returned (.int .i64 o.cost) ∧ Below w.heap.size w w' := by
  have CH := Lib.hid (check_any o)
  by_cases hc : o.check = 0
  · obtain ⟨h1, h2, h3, h4, h5, h6, h7, h8, h9⟩ := fine_of hc
    have HP := Lib.hid (show o.cost = 16 + o.key.length + o.val.length from if_pos hc)
    rw [hc] at CH
    clear h1 h2 h3 h6 h7 h8 h9 hc
    go_enter Try.func13, Try.ntmps13
    go_wp2_with (first | ((with_reducible show wpList _ _ _ (⟨_, .box _ _, _, _, _, _⟩ :: _) _ _); refine wpList_box_blk rfl TO _ rfl o.cells rfl ?_; intro W1 B1 K1 S1; clear S1; obtain ⟨c0, c1, c2, c3⟩ := ocells K1; have r1 := ldO K1; have hB := B1; have hK := Lib.hid K1; clear K1) | (go_at_call 11; (with_reducible refine (CH.out _).mono ?_); rintro e w2 ⟨rfl, hn⟩; replace hK := Lib.hid (hK.out.below hn hK.out.lt); obtain ⟨c0, c1, c2, c3⟩ := ocells hK.out; have r1 := ldO hK.out; replace hB := bel hB hn; clear hn))
    go_ret
    exact ⟨ret_int (by rw [HP.out]), hB⟩
  · have HP := Lib.hid (show o.cost = 0 from if_neg hc)
    rcases check_three o with h | h | h
    · exact absurd h hc
    all_goals
      rw [h] at CH
      clear hc h
      go_enter Try.func13, Try.ntmps13
      go_wp2_with (first | ((with_reducible show wpList _ _ _ (⟨_, .box _ _, _, _, _, _⟩ :: _) _ _); refine wpList_box_blk rfl TO _ rfl o.cells rfl ?_; intro W1 B1 K1 S1; clear S1; obtain ⟨c0, c1, c2, c3⟩ := ocells K1; have r1 := ldO K1; have hB := B1; have hK := Lib.hid K1; clear K1) | (go_at_call 11; (with_reducible refine (CH.out _).mono ?_); rintro e w2 ⟨rfl, hn⟩; replace hK := Lib.hid (hK.out.below hn hK.out.lt); obtain ⟨c0, c1, c2, c3⟩ := ocells hK.out; have r1 := ldO hK.out; replace hB := bel hB hn; clear hn))
      go_ret
      exact ⟨ret_int HP.out.symm, hB⟩

theorem reads_any (o : O) (w : World) : Calls Try.prog 15 #[.agg o.cells.toArray] w fun e w' => e = .returned (.bool o.reads) ∧ Below w.heap.size w w' := by
  have CH := Lib.hid (check_any o)
  have hr : o.reads = (decide (o.kind = 1) && decide (o.check = 0)) := rfl
  by_cases hk : o.kind = 1
  · rcases check_three o with h | h | h
    all_goals
      rw [h, hk] at hr
      rw [h] at CH
      replace hr := Lib.hid hr
      clear h
      have tk : (o.kind == 1) = true := by simpa using hk
      clear hk
      go_enter Try.func15, Try.ntmps15
      go_wp2_with (first | ((with_reducible show wpList _ _ _ (⟨_, .box _ _, _, _, _, _⟩ :: _) _ _); refine wpList_box_blk rfl TO _ rfl o.cells rfl ?_; intro W1 B1 K1 S1; clear S1; obtain ⟨c0, c1, c2, c3⟩ := ocells K1; have r1 := ldO K1; have hB := B1; have hK := Lib.hid K1; clear K1) | (go_at_call 11; (with_reducible refine (CH.out _).mono ?_); rintro e w2 ⟨rfl, hn⟩; replace hK := Lib.hid (hK.out.below hn hK.out.lt); obtain ⟨c0, c1, c2, c3⟩ := ocells hK.out; have r1 := ldO hK.out; replace hB := bel hB hn; clear hn))
      go_ret
      exact ⟨ret_bool hr.out.symm, hB⟩
  · have tk : (o.kind == 1) = false := by simpa using hk
    rw [decide_eq_false hk] at hr
    replace hr := Lib.hid hr
    clear hk
    go_enter Try.func15, Try.ntmps15
    go_wp2_with (first | ((with_reducible show wpList _ _ _ (⟨_, .box _ _, _, _, _, _⟩ :: _) _ _); refine wpList_box_blk rfl TO _ rfl o.cells rfl ?_; intro W1 B1 K1 S1; clear S1; obtain ⟨c0, c1, c2, c3⟩ := ocells K1; have r1 := ldO K1; have hB := B1; have hK := Lib.hid K1; clear K1) | (go_at_call 11; (with_reducible refine (CH.out _).mono ?_); rintro e w2 ⟨rfl, hn⟩; replace hK := Lib.hid (hK.out.below hn hK.out.lt); obtain ⟨c0, c1, c2, c3⟩ := ocells hK.out; have r1 := ldO hK.out; replace hB := bel hB hn; clear hn))
    go_ret
    exact ⟨ret_bool hr.out.symm, hB⟩


set_option maxHeartbeats 2000000 in
theorem put_any (o : O) (w : World) : Calls Try.prog 9 #[.agg o.cells.toArray] w (PutP w o) := by
  have CH := Lib.hid (check_any o)
  by_cases hc : o.check = 0
  · obtain ⟨h1, h2, h3, h4, h5, h6, h7, h8, h9⟩ := fine_of hc
    have HP := Lib.hid (put_ok hc)
    have TK := Lib.hid (fun w => text_any o.key w (by omega))
    have TV := Lib.hid (fun w => text_any o.val w (by omega))
    have IK := Lib.hid (fun w => int_any o.kind w (by omega) (by omega))
    have IV := Lib.hid (fun w => int_any o.ver w (by omega) (by omega))
    have CW := Lib.hid (writes_any o.kind)
    rw [hc] at CH
    have lI := len_int o.kind
    have lJ := len_int o.ver
    have lK := len_text o.key
    have lV := len_text o.val
    replace lK : (textB o.key).length ≤ 25 := by omega
    replace lV : (textB o.val).length ≤ 73 := by omega
    clear h3 h4 h5 h6 h7 h8 h9
    by_cases k2 : o.kind = 2
    · rw [bytes_two k2] at HP
      rw [k2] at IK lI CW
      rw [wr_yes (.inl rfl)] at CW
      generalize intB 2 = A at *
      generalize textB o.key = B at *
      generalize textB o.val = C at *
      have m1 : ¬ 9223372036854775807 < A.length + B.length := by omega
      have m2 : ¬ 9223372036854775807 < A.length + B.length + C.length := by omega
      clear IV lJ
      go_enter Try.func9, Try.ntmps9
      go_wp2_with (first | ((with_reducible show wpList _ _ _ (⟨_, .box _ _, _, _, _, _⟩ :: _) _ _); refine wpList_box_blk rfl TO _ rfl o.cells rfl ?_; intro W1 B1 K1 S1; clear S1; obtain ⟨c0, c1, c2, c3⟩ := ocells K1; have r1 := ldO K1; have hB := B1;  rw [k2] at c0; have hl : w.heap.size < W1.heap.size := K1.lt; have hK := Lib.hid K1; clear K1) | (go_at_call 11; (with_reducible refine (CH.out _).mono ?_); rintro e w2 ⟨rfl, hn⟩; replace hB := bel hB hn; replace hK := Lib.hid (hK.out.below hn hl); replace hl : w.heap.size < w2.heap.size := Nat.lt_of_lt_of_le hl hn.size; obtain ⟨c0, c1, c2, c3⟩ := ocells hK.out; rw [k2] at c0; clear hn))
      clear r1
      replace hB := drewB hB
      replace hK : Hid (Blk w2.drew w.heap.size TO o.cells) := Lib.hid hK.out
      replace hl : w.heap.size < w2.drew.heap.size := hl
      go_region_held3 (fun W => W.cell? ⟨w.heap.size, 0, none⟩ = some (.int .i64 (2)) ∧ W.cell? ⟨w.heap.size, 1, none⟩ = some (.string ⟨o.key.toArray⟩)) (first | exact ⟨c0, c1⟩)
        (first | (go_at_call 18; (with_reducible refine (IK.out _).mono ?_); rintro e w3 ⟨rfl, hn⟩; replace hB := bel hB hn; replace hK := Lib.hid (hK.out.below hn hl); replace hl : w.heap.size < w3.heap.size := Nat.lt_of_lt_of_le hl hn.size; obtain ⟨c0, c1, c2, c3⟩ := ocells hK.out; rw [k2] at c0; clear hn) | (go_at_call 19; (with_reducible refine (TK.out _).mono ?_); rintro e w3 ⟨rfl, hn⟩; replace hB := bel hB hn; replace hK := Lib.hid (hK.out.below hn hl); replace hl : w.heap.size < w3.heap.size := Nat.lt_of_lt_of_le hl hn.size; obtain ⟨c0, c1, c2, c3⟩ := ocells hK.out; rw [k2] at c0; clear hn))
      go_wp2_with (first | (go_at_call 20; (with_reducible refine (CW.out _).mono ?_); rintro e w4 ⟨rfl, hn⟩; replace hB := bel hB hn; replace hK := Lib.hid (hK.out.below hn hl); replace hl : w.heap.size < w4.heap.size := Nat.lt_of_lt_of_le hl hn.size; obtain ⟨c0, c1, c2, c3⟩ := ocells hK.out; rw [k2] at c0; clear hn) | (go_at_call 19; (with_reducible refine (TV.out _).mono ?_); rintro e w5 ⟨rfl, hn⟩; replace hB := bel hB hn; replace hK := Lib.hid (hK.out.below hn hl); replace hl : w.heap.size < w5.heap.size := Nat.lt_of_lt_of_le hl hn.size; obtain ⟨c0, c1, c2, c3⟩ := ocells hK.out; rw [k2] at c0; clear hn) | (go_at_call 18; (with_reducible refine (IV.out _).mono ?_); rintro e w6 ⟨rfl, hn⟩; replace hB := bel hB hn; replace hK := Lib.hid (hK.out.below hn hl); replace hl : w.heap.size < w6.heap.size := Nat.lt_of_lt_of_le hl hn.size; obtain ⟨c0, c1, c2, c3⟩ := ocells hK.out; rw [k2] at c0; clear hn))
      all_goals go_ret2
      all_goals exact ⟨ret_ss (by rw [HP.out]; simp only [concat_of]) hc.symm, hB⟩
    · by_cases k4 : o.kind = 4
      · rw [bytes_four k4] at HP
        rw [k4] at IK lI CW
        rw [wr_yes (.inr rfl)] at CW
        generalize intB o.ver = D at *
        generalize intB 4 = A at *
        generalize textB o.key = B at *
        generalize textB o.val = C at *
        have m1 : ¬ 9223372036854775807 < A.length + B.length := by omega
        have m2 : ¬ 9223372036854775807 < A.length + B.length + C.length := by omega
        have m3 : ¬ 9223372036854775807 < A.length + B.length + C.length + D.length := by omega
        clear k2
        go_enter Try.func9, Try.ntmps9
        go_wp2_with (first | ((with_reducible show wpList _ _ _ (⟨_, .box _ _, _, _, _, _⟩ :: _) _ _); refine wpList_box_blk rfl TO _ rfl o.cells rfl ?_; intro W1 B1 K1 S1; clear S1; obtain ⟨c0, c1, c2, c3⟩ := ocells K1; have r1 := ldO K1; have hB := B1;  rw [k4] at c0; have hl : w.heap.size < W1.heap.size := K1.lt; have hK := Lib.hid K1; clear K1) | (go_at_call 11; (with_reducible refine (CH.out _).mono ?_); rintro e w2 ⟨rfl, hn⟩; replace hB := bel hB hn; replace hK := Lib.hid (hK.out.below hn hl); replace hl : w.heap.size < w2.heap.size := Nat.lt_of_lt_of_le hl hn.size; obtain ⟨c0, c1, c2, c3⟩ := ocells hK.out; rw [k4] at c0; clear hn))
        clear r1
        replace hB := drewB hB
        replace hK : Hid (Blk w2.drew w.heap.size TO o.cells) := Lib.hid hK.out
        replace hl : w.heap.size < w2.drew.heap.size := hl
        go_region_held3 (fun W => W.cell? ⟨w.heap.size, 0, none⟩ = some (.int .i64 (4)) ∧ W.cell? ⟨w.heap.size, 1, none⟩ = some (.string ⟨o.key.toArray⟩)) (first | exact ⟨c0, c1⟩)
          (first | (go_at_call 18; (with_reducible refine (IK.out _).mono ?_); rintro e w3 ⟨rfl, hn⟩; replace hB := bel hB hn; replace hK := Lib.hid (hK.out.below hn hl); replace hl : w.heap.size < w3.heap.size := Nat.lt_of_lt_of_le hl hn.size; obtain ⟨c0, c1, c2, c3⟩ := ocells hK.out; rw [k4] at c0; clear hn) | (go_at_call 19; (with_reducible refine (TK.out _).mono ?_); rintro e w3 ⟨rfl, hn⟩; replace hB := bel hB hn; replace hK := Lib.hid (hK.out.below hn hl); replace hl : w.heap.size < w3.heap.size := Nat.lt_of_lt_of_le hl hn.size; obtain ⟨c0, c1, c2, c3⟩ := ocells hK.out; rw [k4] at c0; clear hn))
        go_wp2_with (first | (go_at_call 20; (with_reducible refine (CW.out _).mono ?_); rintro e w4 ⟨rfl, hn⟩; replace hB := bel hB hn; replace hK := Lib.hid (hK.out.below hn hl); replace hl : w.heap.size < w4.heap.size := Nat.lt_of_lt_of_le hl hn.size; obtain ⟨c0, c1, c2, c3⟩ := ocells hK.out; rw [k4] at c0; clear hn) | (go_at_call 19; (with_reducible refine (TV.out _).mono ?_); rintro e w5 ⟨rfl, hn⟩; replace hB := bel hB hn; replace hK := Lib.hid (hK.out.below hn hl); replace hl : w.heap.size < w5.heap.size := Nat.lt_of_lt_of_le hl hn.size; obtain ⟨c0, c1, c2, c3⟩ := ocells hK.out; rw [k4] at c0; clear hn) | (go_at_call 18; (with_reducible refine (IV.out _).mono ?_); rintro e w6 ⟨rfl, hn⟩; replace hB := bel hB hn; replace hK := Lib.hid (hK.out.below hn hl); replace hl : w.heap.size < w6.heap.size := Nat.lt_of_lt_of_le hl hn.size; obtain ⟨c0, c1, c2, c3⟩ := ocells hK.out; rw [k4] at c0; clear hn))
        all_goals go_ret2
        all_goals exact ⟨ret_ss (by rw [HP.out]; simp only [concat_of]) hc.symm, hB⟩
      · rw [bytes_else k2 k4] at HP
        rw [wr_no (by omega)] at CW
        have t2 : (o.kind == 2) = false := by simpa using k2
        have t4 : (o.kind == 4) = false := by simpa using k4
        generalize intB o.kind = A at *
        generalize textB o.key = B at *
        have m1 : ¬ 9223372036854775807 < A.length + B.length := by omega
        clear IV lJ TV k2 k4
        go_enter Try.func9, Try.ntmps9
        go_wp2_with (first | ((with_reducible show wpList _ _ _ (⟨_, .box _ _, _, _, _, _⟩ :: _) _ _); refine wpList_box_blk rfl TO _ rfl o.cells rfl ?_; intro W1 B1 K1 S1; clear S1; obtain ⟨c0, c1, c2, c3⟩ := ocells K1; have r1 := ldO K1; have hB := B1;  have hl : w.heap.size < W1.heap.size := K1.lt; have hK := Lib.hid K1; clear K1) | (go_at_call 11; (with_reducible refine (CH.out _).mono ?_); rintro e w2 ⟨rfl, hn⟩; replace hB := bel hB hn; replace hK := Lib.hid (hK.out.below hn hl); replace hl : w.heap.size < w2.heap.size := Nat.lt_of_lt_of_le hl hn.size; obtain ⟨c0, c1, c2, c3⟩ := ocells hK.out; clear hn))
        clear r1
        replace hB := drewB hB
        replace hK : Hid (Blk w2.drew w.heap.size TO o.cells) := Lib.hid hK.out
        replace hl : w.heap.size < w2.drew.heap.size := hl
        go_region_held3 (fun W => W.cell? ⟨w.heap.size, 0, none⟩ = some (.int .i64 (o.kind)) ∧ W.cell? ⟨w.heap.size, 1, none⟩ = some (.string ⟨o.key.toArray⟩)) (first | exact ⟨c0, c1⟩)
          (first | (go_at_call 18; (with_reducible refine (IK.out _).mono ?_); rintro e w3 ⟨rfl, hn⟩; replace hB := bel hB hn; replace hK := Lib.hid (hK.out.below hn hl); replace hl : w.heap.size < w3.heap.size := Nat.lt_of_lt_of_le hl hn.size; obtain ⟨c0, c1, c2, c3⟩ := ocells hK.out; clear hn) | (go_at_call 19; (with_reducible refine (TK.out _).mono ?_); rintro e w3 ⟨rfl, hn⟩; replace hB := bel hB hn; replace hK := Lib.hid (hK.out.below hn hl); replace hl : w.heap.size < w3.heap.size := Nat.lt_of_lt_of_le hl hn.size; obtain ⟨c0, c1, c2, c3⟩ := ocells hK.out; clear hn))
        go_wp2_with (first | (go_at_call 20; (with_reducible refine (CW.out _).mono ?_); rintro e w4 ⟨rfl, hn⟩; replace hB := bel hB hn; replace hK := Lib.hid (hK.out.below hn hl); replace hl : w.heap.size < w4.heap.size := Nat.lt_of_lt_of_le hl hn.size; obtain ⟨c0, c1, c2, c3⟩ := ocells hK.out; clear hn) | (go_at_call 19; (with_reducible refine (TV.out _).mono ?_); rintro e w5 ⟨rfl, hn⟩; replace hB := bel hB hn; replace hK := Lib.hid (hK.out.below hn hl); replace hl : w.heap.size < w5.heap.size := Nat.lt_of_lt_of_le hl hn.size; obtain ⟨c0, c1, c2, c3⟩ := ocells hK.out; clear hn) | (go_at_call 18; (with_reducible refine (IV.out _).mono ?_); rintro e w6 ⟨rfl, hn⟩; replace hB := bel hB hn; replace hK := Lib.hid (hK.out.below hn hl); replace hl : w.heap.size < w6.heap.size := Nat.lt_of_lt_of_le hl hn.size; obtain ⟨c0, c1, c2, c3⟩ := ocells hK.out; clear hn))
        all_goals go_ret2
        all_goals exact ⟨ret_ss (by rw [HP.out]; simp only [concat_of]) hc.symm, hB⟩
  · have HP := Lib.hid (put_no hc)
    rcases check_three o with h | h | h
    · exact absurd h hc
    all_goals
      rw [h] at CH
      replace h := Lib.hid h
      clear hc
      go_enter Try.func9, Try.ntmps9
      go_wp2_with (first | ((with_reducible show wpList _ _ _ (⟨_, .box _ _, _, _, _, _⟩ :: _) _ _); refine wpList_box_blk rfl TO _ rfl o.cells rfl ?_; intro W1 B1 K1 S1; clear S1; obtain ⟨c0, c1, c2, c3⟩ := ocells K1; have r1 := ldO K1; have hB := B1; have hK := Lib.hid K1; clear K1) | (go_at_call 11; (with_reducible refine (CH.out _).mono ?_); rintro e w2 ⟨rfl, hn⟩; replace hK := Lib.hid (hK.out.below hn hK.out.lt); obtain ⟨c0, c1, c2, c3⟩ := ocells hK.out; have r1 := ldO hK.out; replace hB := bel hB hn; clear hn))
      go_ret2
      exact ⟨ret_se HP.out.symm h.out.symm, hB⟩


/-- What cut answers. -/
def CutP (w : World) (l : List UInt8) (e : Ending) (w' : World) : Prop := ∃ (o : O) (r : List UInt8) (b : Bool), e = .returned (.tuple #[.agg o.cells.toArray, .string ⟨r.toArray⟩, .bool b]) ∧ parse l = (if b then some (o, r) else none) ∧ Below w.heap.size w w'
theorem unV1 {l : List UInt8} (h : unintS l = none) (hl : l.length ≤ 4294967296) (w : World) : Calls Try.prog 29 #[.string ⟨l.toArray⟩] w fun e w' => e = .returned (.tuple #[.int .i64 0, .string ⟨([] : List UInt8).toArray⟩, .bool false]) ∧ Below w.heap.size w w' := by
  have := unint_any ⟨l.toArray⟩ w (by simpa [ByteArray.size] using hl)
  rw [show (⟨l.toArray⟩ : ByteArray).data.toList = l by simp, h] at this
  exact this
theorem unV2 {l : List UInt8} {k : Int} {r : List UInt8} (h : unintS l = some (k, r)) (hl : l.length ≤ 4294967296) (w : World) : Calls Try.prog 29 #[.string ⟨l.toArray⟩] w fun e w' => e = .returned (.tuple #[.int .i64 k, .string ⟨r.toArray⟩, .bool true]) ∧ Below w.heap.size w w' := by
  have := unint_any ⟨l.toArray⟩ w (by simpa [ByteArray.size] using hl)
  rw [show (⟨l.toArray⟩ : ByteArray).data.toList = l by simp, h] at this
  exact this
theorem cuV1 {l : List UInt8} (h : cutS l = none) (hl : l.length ≤ 4294967296) (w : World) : Calls Try.prog 30 #[.string ⟨l.toArray⟩] w fun e w' => e = .returned (.tuple #[.string ⟨([] : List UInt8).toArray⟩, .string ⟨([] : List UInt8).toArray⟩, .bool false]) ∧ Below w.heap.size w w' := by
  have := Codec.cut_any ⟨l.toArray⟩ w (by simpa [ByteArray.size] using hl)
  rw [show (⟨l.toArray⟩ : ByteArray).data.toList = l by simp, h] at this
  exact this
theorem cuV2 {l : List UInt8} {t r : List UInt8} (h : cutS l = some (t, r)) (hl : l.length ≤ 4294967296) (w : World) : Calls Try.prog 30 #[.string ⟨l.toArray⟩] w fun e w' => e = .returned (.tuple #[.string ⟨t.toArray⟩, .string ⟨r.toArray⟩, .bool true]) ∧ Below w.heap.size w w' := by
  have := Codec.cut_any ⟨l.toArray⟩ w (by simpa [ByteArray.size] using hl)
  rw [show (⟨l.toArray⟩ : ByteArray).data.toList = l by simp, h] at this
  exact this
theorem unint_le {l : List UInt8} {k : Int} {r : List UInt8} (h : unintS l = some (k, r)) : r.length ≤ l.length := by
  obtain ⟨e, _, _⟩ := unint_form h
  rw [← e]; simp
theorem cut_le {l : List UInt8} {t r : List UInt8} (h : cutS l = some (t, r)) : r.length ≤ l.length := by
  obtain ⟨e, _⟩ := cut_form h
  rw [← e]; simp


set_option maxHeartbeats 4000000 in
theorem opcut_any (l : List UInt8) (w : World) (hl0 : l.length ≤ 4294967296) : Calls Try.prog 24 #[.string ⟨l.toArray⟩] w (CutP w l) := by
  obtain ⟨d, hd, hdr⟩ := row_op
  replace hd := Lib.hid hd
  cases h1 : unintS l with
  | none =>
    have hp := Lib.hid (show parse l = if false then some (O.mk (0) [] [] 0, []) else none by simp [parse, h1])
    have R1 := Lib.hid (unV1 h1 hl0)
    clear h1 hl0
    go_enter Try.func24, Try.ntmps24
    go_wp2_with (first
      | ((with_reducible show wpList _ _ _ (⟨_, .alloc _, _, _, _, _⟩ :: _) _ _); refine wpList_alloc_blk rfl TO rfl _ zero_op ?_; intro W1 B1 K1 S1; clear S1; have hT := Turned.of_below B1; have hl : w.heap.size < W1.heap.size := K1.lt; have hK := Lib.hid K1; clear B1 K1)
      | (go_at_call 29; (with_reducible refine (R1.out _).mono ?_); rintro e w2 ⟨rfl, hn⟩; replace hT := hT.trans (Turned.of_below hn) (by simp); replace hK := Lib.hid (hK.out.below hn hl); replace hl : w.heap.size < w2.heap.size := Nat.lt_of_lt_of_le hl hn.size; obtain ⟨c0, c1, c2, c3⟩ := ocells hK.out; clear hn)
      | ((with_reducible show wpList _ _ _ (⟨none, .store _ (.tmp 11) _, _, _, _, _⟩ :: _) _ _); refine wpList_store_cell rfl 3 _ _ rfl w.heap.size 0 (.int .i64 0) TO (O.mk (0) [] [] 0).cells rfl rfl hK.out (by simp [O.cells]) rfl info_intO ?_; intro w3 T3 K3 S3; clear S3; replace K3 : Blk w3 w.heap.size TO (O.mk (0) [] [] 0).cells := K3; replace hT := hT.trans (S' := [w.heap.size]) T3 (fun j h1 h2 => by simp at h2; omega); replace hl : w.heap.size < w3.heap.size := Nat.lt_of_lt_of_le hl T3.size; try clear c0 c1 c2 c3; obtain ⟨c0, c1, c2, c3⟩ := ocells K3; replace hK := Lib.hid K3; clear T3 K3)
      | ((with_reducible show wpList _ _ _ (⟨_, .load 23 _, _, _, _, _⟩ :: _) _ _); refine wpList_load_blk rfl TO _ rfl w.heap.size TO (O.mk (0) [] [] 0).cells d rfl hK.out hd.out hdr info_op ?_) | ((with_reducible show wpList _ _ _ (⟨none, .store TO (.tmp 2) (.tmp 46), _, _, _, _⟩ :: _) _ _); refine wpList_store_blk rfl TO _ _ rfl w.heap.size TO (O.mk (0) [] [] 0).cells (O.mk (0) [] [] 0).cells 4 rfl rfl hK.out rfl (O.cellsN _) info_op ?_; intro WA TA KA SA; clear SA; replace hT := hT.trans (S' := [w.heap.size]) TA (fun j h1 h2 => by simp at h2; omega)))
    refine bodyPost_ret (results_cell3 (b := w.heap.size) (o := 0) (cs := (O.mk (0) [] [] 0).cells) Try.results24 rfl KA.rangeAll hd.out hdr info_op) rfl ⟨O.mk (0) [] [] 0, [], false, rfl, hp.out, hT.below (Nat.le_refl _) (by simp)⟩
  | some x1 =>
    obtain ⟨k, t1⟩ := x1
    have R1 := Lib.hid (unV2 h1 hl0)
    have e1 := unint_le h1
    cases h2 : cutS t1 with
    | none =>
      have hp := Lib.hid (show parse l = if false then some (O.mk (k) [] [] 0, []) else none by simp [parse, h1, h2])
      have R2 := Lib.hid (cuV1 h2 (by omega))
      clear h1 h2 hl0 e1
      go_enter Try.func24, Try.ntmps24
      go_wp2_with (first
        | ((with_reducible show wpList _ _ _ (⟨_, .alloc _, _, _, _, _⟩ :: _) _ _); refine wpList_alloc_blk rfl TO rfl _ zero_op ?_; intro W1 B1 K1 S1; clear S1; have hT := Turned.of_below B1; have hl : w.heap.size < W1.heap.size := K1.lt; have hK := Lib.hid K1; clear B1 K1)
        | (go_at_call 29; (with_reducible refine (R1.out _).mono ?_); rintro e w2 ⟨rfl, hn⟩; replace hT := hT.trans (Turned.of_below hn) (by simp); replace hK := Lib.hid (hK.out.below hn hl); replace hl : w.heap.size < w2.heap.size := Nat.lt_of_lt_of_le hl hn.size; obtain ⟨c0, c1, c2, c3⟩ := ocells hK.out; clear hn)
        | ((with_reducible show wpList _ _ _ (⟨none, .store _ (.tmp 11) _, _, _, _, _⟩ :: _) _ _); refine wpList_store_cell rfl 3 _ _ rfl w.heap.size 0 (.int .i64 k) TO (O.mk (0) [] [] 0).cells rfl rfl hK.out (by simp [O.cells]) rfl info_intO ?_; intro w3 T3 K3 S3; clear S3; replace K3 : Blk w3 w.heap.size TO (O.mk (k) [] [] 0).cells := K3; replace hT := hT.trans (S' := [w.heap.size]) T3 (fun j h1 h2 => by simp at h2; omega); replace hl : w.heap.size < w3.heap.size := Nat.lt_of_lt_of_le hl T3.size; try clear c0 c1 c2 c3; obtain ⟨c0, c1, c2, c3⟩ := ocells K3; replace hK := Lib.hid K3; clear T3 K3)
        | (go_at_call 30; (with_reducible refine (R2.out _).mono ?_); rintro e w4 ⟨rfl, hn⟩; replace hT := hT.trans (Turned.of_below hn) (by simp); replace hK := Lib.hid (hK.out.below hn hl); replace hl : w.heap.size < w4.heap.size := Nat.lt_of_lt_of_le hl hn.size; obtain ⟨c0, c1, c2, c3⟩ := ocells hK.out; clear hn)
        | ((with_reducible show wpList _ _ _ (⟨none, .store _ (.tmp 19) _, _, _, _, _⟩ :: _) _ _); refine wpList_store_cell rfl 9 _ _ rfl w.heap.size 1 (.string ⟨[].toArray⟩) TO (O.mk (k) [] [] 0).cells rfl rfl hK.out (by simp [O.cells]) rfl info_strO ?_; intro w5 T3 K3 S3; clear S3; replace K3 : Blk w5 w.heap.size TO (O.mk (k) [] [] 0).cells := K3; replace hT := hT.trans (S' := [w.heap.size]) T3 (fun j h1 h2 => by simp at h2; omega); replace hl : w.heap.size < w5.heap.size := Nat.lt_of_lt_of_le hl T3.size; try clear c0 c1 c2 c3; obtain ⟨c0, c1, c2, c3⟩ := ocells K3; replace hK := Lib.hid K3; clear T3 K3)
        | ((with_reducible show wpList _ _ _ (⟨_, .load 23 _, _, _, _, _⟩ :: _) _ _); refine wpList_load_blk rfl TO _ rfl w.heap.size TO (O.mk (k) [] [] 0).cells d rfl hK.out hd.out hdr info_op ?_) | ((with_reducible show wpList _ _ _ (⟨none, .store TO (.tmp 2) (.tmp 46), _, _, _, _⟩ :: _) _ _); refine wpList_store_blk rfl TO _ _ rfl w.heap.size TO (O.mk (k) [] [] 0).cells (O.mk (k) [] [] 0).cells 4 rfl rfl hK.out rfl (O.cellsN _) info_op ?_; intro WA TA KA SA; clear SA; replace hT := hT.trans (S' := [w.heap.size]) TA (fun j h1 h2 => by simp at h2; omega)))
      refine bodyPost_ret (results_cell3 (b := w.heap.size) (o := 0) (cs := (O.mk (k) [] [] 0).cells) Try.results24 rfl KA.rangeAll hd.out hdr info_op) rfl ⟨O.mk (k) [] [] 0, [], false, rfl, hp.out, hT.below (Nat.le_refl _) (by simp)⟩
    | some x2 =>
      obtain ⟨y, t2⟩ := x2
      have R2 := Lib.hid (cuV2 h2 (by omega))
      have e2 := cut_le h2
      have CW := Lib.hid (writes_any k)
      by_cases hk : k = 2 ∨ k = 4
      · rw [wr_yes hk] at CW
        cases h3 : cutS t2 with
        | none =>
          have hp := Lib.hid (show parse l = if false then some (O.mk (k) y [] 0, []) else none by simp [parse, h1, h2, h3, hk])
          have R3 := Lib.hid (cuV1 h3 (by omega))
          clear h1 h2 h3 hl0 e1 e2 hk
          go_enter Try.func24, Try.ntmps24
          go_wp2_with (first
            | ((with_reducible show wpList _ _ _ (⟨_, .alloc _, _, _, _, _⟩ :: _) _ _); refine wpList_alloc_blk rfl TO rfl _ zero_op ?_; intro W1 B1 K1 S1; clear S1; have hT := Turned.of_below B1; have hl : w.heap.size < W1.heap.size := K1.lt; have hK := Lib.hid K1; clear B1 K1)
            | (go_at_call 29; (with_reducible refine (R1.out _).mono ?_); rintro e w2 ⟨rfl, hn⟩; replace hT := hT.trans (Turned.of_below hn) (by simp); replace hK := Lib.hid (hK.out.below hn hl); replace hl : w.heap.size < w2.heap.size := Nat.lt_of_lt_of_le hl hn.size; obtain ⟨c0, c1, c2, c3⟩ := ocells hK.out; clear hn)
            | ((with_reducible show wpList _ _ _ (⟨none, .store _ (.tmp 11) _, _, _, _, _⟩ :: _) _ _); refine wpList_store_cell rfl 3 _ _ rfl w.heap.size 0 (.int .i64 k) TO (O.mk (0) [] [] 0).cells rfl rfl hK.out (by simp [O.cells]) rfl info_intO ?_; intro w3 T3 K3 S3; clear S3; replace K3 : Blk w3 w.heap.size TO (O.mk (k) [] [] 0).cells := K3; replace hT := hT.trans (S' := [w.heap.size]) T3 (fun j h1 h2 => by simp at h2; omega); replace hl : w.heap.size < w3.heap.size := Nat.lt_of_lt_of_le hl T3.size; try clear c0 c1 c2 c3; obtain ⟨c0, c1, c2, c3⟩ := ocells K3; replace hK := Lib.hid K3; clear T3 K3)
            | (go_at_call 30; (with_reducible refine (R2.out _).mono ?_); rintro e w4 ⟨rfl, hn⟩; replace hT := hT.trans (Turned.of_below hn) (by simp); replace hK := Lib.hid (hK.out.below hn hl); replace hl : w.heap.size < w4.heap.size := Nat.lt_of_lt_of_le hl hn.size; obtain ⟨c0, c1, c2, c3⟩ := ocells hK.out; clear hn)
            | ((with_reducible show wpList _ _ _ (⟨none, .store _ (.tmp 19) _, _, _, _, _⟩ :: _) _ _); refine wpList_store_cell rfl 9 _ _ rfl w.heap.size 1 (.string ⟨y.toArray⟩) TO (O.mk (k) [] [] 0).cells rfl rfl hK.out (by simp [O.cells]) rfl info_strO ?_; intro w5 T3 K3 S3; clear S3; replace K3 : Blk w5 w.heap.size TO (O.mk (k) y [] 0).cells := K3; replace hT := hT.trans (S' := [w.heap.size]) T3 (fun j h1 h2 => by simp at h2; omega); replace hl : w.heap.size < w5.heap.size := Nat.lt_of_lt_of_le hl T3.size; try clear c0 c1 c2 c3; obtain ⟨c0, c1, c2, c3⟩ := ocells K3; replace hK := Lib.hid K3; clear T3 K3)
            | (go_at_call 20; (with_reducible refine (CW.out _).mono ?_); rintro e w6 ⟨rfl, hn⟩; replace hT := hT.trans (Turned.of_below hn) (by simp); replace hK := Lib.hid (hK.out.below hn hl); replace hl : w.heap.size < w6.heap.size := Nat.lt_of_lt_of_le hl hn.size; obtain ⟨c0, c1, c2, c3⟩ := ocells hK.out; clear hn)
            | (go_at_call 30; (with_reducible refine (R3.out _).mono ?_); rintro e w7 ⟨rfl, hn⟩; replace hT := hT.trans (Turned.of_below hn) (by simp); replace hK := Lib.hid (hK.out.below hn hl); replace hl : w.heap.size < w7.heap.size := Nat.lt_of_lt_of_le hl hn.size; obtain ⟨c0, c1, c2, c3⟩ := ocells hK.out; clear hn)
            | ((with_reducible show wpList _ _ _ (⟨none, .store _ (.tmp 32) _, _, _, _, _⟩ :: _) _ _); refine wpList_store_cell rfl 9 _ _ rfl w.heap.size 2 (.string ⟨[].toArray⟩) TO (O.mk (k) y [] 0).cells rfl rfl hK.out (by simp [O.cells]) rfl info_strO ?_; intro w8 T3 K3 S3; clear S3; replace K3 : Blk w8 w.heap.size TO (O.mk (k) y [] 0).cells := K3; replace hT := hT.trans (S' := [w.heap.size]) T3 (fun j h1 h2 => by simp at h2; omega); replace hl : w.heap.size < w8.heap.size := Nat.lt_of_lt_of_le hl T3.size; try clear c0 c1 c2 c3; obtain ⟨c0, c1, c2, c3⟩ := ocells K3; replace hK := Lib.hid K3; clear T3 K3)
            | ((with_reducible show wpList _ _ _ (⟨_, .load 23 _, _, _, _, _⟩ :: _) _ _); refine wpList_load_blk rfl TO _ rfl w.heap.size TO (O.mk (k) y [] 0).cells d rfl hK.out hd.out hdr info_op ?_) | ((with_reducible show wpList _ _ _ (⟨none, .store TO (.tmp 2) (.tmp 46), _, _, _, _⟩ :: _) _ _); refine wpList_store_blk rfl TO _ _ rfl w.heap.size TO (O.mk (k) y [] 0).cells (O.mk (k) y [] 0).cells 4 rfl rfl hK.out rfl (O.cellsN _) info_op ?_; intro WA TA KA SA; clear SA; replace hT := hT.trans (S' := [w.heap.size]) TA (fun j h1 h2 => by simp at h2; omega)))
          refine bodyPost_ret (results_cell3 (b := w.heap.size) (o := 0) (cs := (O.mk (k) y [] 0).cells) Try.results24 rfl KA.rangeAll hd.out hdr info_op) rfl ⟨O.mk (k) y [] 0, [], false, rfl, hp.out, hT.below (Nat.le_refl _) (by simp)⟩
        | some x3 =>
          obtain ⟨v, t3⟩ := x3
          have R3 := Lib.hid (cuV2 h3 (by omega))
          have e3 := cut_le h3
          by_cases k4 : k = 4
          · have t4 : (k == 4) = true := by simpa using k4
            cases h4 : unintS t3 with
            | none =>
              have hp := Lib.hid (show parse l = if false then some (O.mk (k) y v 0, []) else none by simp [parse, h1, h2, h3, h4, k4])
              have R4 := Lib.hid (unV1 h4 (by omega))
              clear h1 h2 h3 h4 hl0 e1 e2 e3 hk k4
              go_enter Try.func24, Try.ntmps24
              go_wp2_with (first
                | ((with_reducible show wpList _ _ _ (⟨_, .alloc _, _, _, _, _⟩ :: _) _ _); refine wpList_alloc_blk rfl TO rfl _ zero_op ?_; intro W1 B1 K1 S1; clear S1; have hT := Turned.of_below B1; have hl : w.heap.size < W1.heap.size := K1.lt; have hK := Lib.hid K1; clear B1 K1)
                | (go_at_call 29; (with_reducible refine (R1.out _).mono ?_); rintro e w2 ⟨rfl, hn⟩; replace hT := hT.trans (Turned.of_below hn) (by simp); replace hK := Lib.hid (hK.out.below hn hl); replace hl : w.heap.size < w2.heap.size := Nat.lt_of_lt_of_le hl hn.size; obtain ⟨c0, c1, c2, c3⟩ := ocells hK.out; clear hn)
                | ((with_reducible show wpList _ _ _ (⟨none, .store _ (.tmp 11) _, _, _, _, _⟩ :: _) _ _); refine wpList_store_cell rfl 3 _ _ rfl w.heap.size 0 (.int .i64 k) TO (O.mk (0) [] [] 0).cells rfl rfl hK.out (by simp [O.cells]) rfl info_intO ?_; intro w3 T3 K3 S3; clear S3; replace K3 : Blk w3 w.heap.size TO (O.mk (k) [] [] 0).cells := K3; replace hT := hT.trans (S' := [w.heap.size]) T3 (fun j h1 h2 => by simp at h2; omega); replace hl : w.heap.size < w3.heap.size := Nat.lt_of_lt_of_le hl T3.size; try clear c0 c1 c2 c3; obtain ⟨c0, c1, c2, c3⟩ := ocells K3; replace hK := Lib.hid K3; clear T3 K3)
                | (go_at_call 30; (with_reducible refine (R2.out _).mono ?_); rintro e w4 ⟨rfl, hn⟩; replace hT := hT.trans (Turned.of_below hn) (by simp); replace hK := Lib.hid (hK.out.below hn hl); replace hl : w.heap.size < w4.heap.size := Nat.lt_of_lt_of_le hl hn.size; obtain ⟨c0, c1, c2, c3⟩ := ocells hK.out; clear hn)
                | ((with_reducible show wpList _ _ _ (⟨none, .store _ (.tmp 19) _, _, _, _, _⟩ :: _) _ _); refine wpList_store_cell rfl 9 _ _ rfl w.heap.size 1 (.string ⟨y.toArray⟩) TO (O.mk (k) [] [] 0).cells rfl rfl hK.out (by simp [O.cells]) rfl info_strO ?_; intro w5 T3 K3 S3; clear S3; replace K3 : Blk w5 w.heap.size TO (O.mk (k) y [] 0).cells := K3; replace hT := hT.trans (S' := [w.heap.size]) T3 (fun j h1 h2 => by simp at h2; omega); replace hl : w.heap.size < w5.heap.size := Nat.lt_of_lt_of_le hl T3.size; try clear c0 c1 c2 c3; obtain ⟨c0, c1, c2, c3⟩ := ocells K3; replace hK := Lib.hid K3; clear T3 K3)
                | (go_at_call 20; (with_reducible refine (CW.out _).mono ?_); rintro e w6 ⟨rfl, hn⟩; replace hT := hT.trans (Turned.of_below hn) (by simp); replace hK := Lib.hid (hK.out.below hn hl); replace hl : w.heap.size < w6.heap.size := Nat.lt_of_lt_of_le hl hn.size; obtain ⟨c0, c1, c2, c3⟩ := ocells hK.out; clear hn)
                | (go_at_call 30; (with_reducible refine (R3.out _).mono ?_); rintro e w7 ⟨rfl, hn⟩; replace hT := hT.trans (Turned.of_below hn) (by simp); replace hK := Lib.hid (hK.out.below hn hl); replace hl : w.heap.size < w7.heap.size := Nat.lt_of_lt_of_le hl hn.size; obtain ⟨c0, c1, c2, c3⟩ := ocells hK.out; clear hn)
                | ((with_reducible show wpList _ _ _ (⟨none, .store _ (.tmp 32) _, _, _, _, _⟩ :: _) _ _); refine wpList_store_cell rfl 9 _ _ rfl w.heap.size 2 (.string ⟨v.toArray⟩) TO (O.mk (k) y [] 0).cells rfl rfl hK.out (by simp [O.cells]) rfl info_strO ?_; intro w8 T3 K3 S3; clear S3; replace K3 : Blk w8 w.heap.size TO (O.mk (k) y v 0).cells := K3; replace hT := hT.trans (S' := [w.heap.size]) T3 (fun j h1 h2 => by simp at h2; omega); replace hl : w.heap.size < w8.heap.size := Nat.lt_of_lt_of_le hl T3.size; try clear c0 c1 c2 c3; obtain ⟨c0, c1, c2, c3⟩ := ocells K3; replace hK := Lib.hid K3; clear T3 K3)
                | (go_at_call 29; (with_reducible refine (R4.out _).mono ?_); rintro e w9 ⟨rfl, hn⟩; replace hT := hT.trans (Turned.of_below hn) (by simp); replace hK := Lib.hid (hK.out.below hn hl); replace hl : w.heap.size < w9.heap.size := Nat.lt_of_lt_of_le hl hn.size; obtain ⟨c0, c1, c2, c3⟩ := ocells hK.out; clear hn)
                | ((with_reducible show wpList _ _ _ (⟨none, .store _ (.tmp 45) _, _, _, _, _⟩ :: _) _ _); refine wpList_store_cell rfl 3 _ _ rfl w.heap.size 3 (.int .i64 0) TO (O.mk (k) y v 0).cells rfl rfl hK.out (by simp [O.cells]) rfl info_intO ?_; intro w10 T3 K3 S3; clear S3; replace K3 : Blk w10 w.heap.size TO (O.mk (k) y v 0).cells := K3; replace hT := hT.trans (S' := [w.heap.size]) T3 (fun j h1 h2 => by simp at h2; omega); replace hl : w.heap.size < w10.heap.size := Nat.lt_of_lt_of_le hl T3.size; try clear c0 c1 c2 c3; obtain ⟨c0, c1, c2, c3⟩ := ocells K3; replace hK := Lib.hid K3; clear T3 K3)
                | ((with_reducible show wpList _ _ _ (⟨_, .load 23 _, _, _, _, _⟩ :: _) _ _); refine wpList_load_blk rfl TO _ rfl w.heap.size TO (O.mk (k) y v 0).cells d rfl hK.out hd.out hdr info_op ?_) | ((with_reducible show wpList _ _ _ (⟨none, .store TO (.tmp 2) (.tmp 46), _, _, _, _⟩ :: _) _ _); refine wpList_store_blk rfl TO _ _ rfl w.heap.size TO (O.mk (k) y v 0).cells (O.mk (k) y v 0).cells 4 rfl rfl hK.out rfl (O.cellsN _) info_op ?_; intro WA TA KA SA; clear SA; replace hT := hT.trans (S' := [w.heap.size]) TA (fun j h1 h2 => by simp at h2; omega)))
              refine bodyPost_ret (results_cell3 (b := w.heap.size) (o := 0) (cs := (O.mk (k) y v 0).cells) Try.results24 rfl KA.rangeAll hd.out hdr info_op) rfl ⟨O.mk (k) y v 0, [], false, rfl, hp.out, hT.below (Nat.le_refl _) (by simp)⟩
            | some x4 =>
              obtain ⟨n, t4⟩ := x4
              have hp := Lib.hid (show parse l = if true then some (O.mk (k) y v n, t4) else none by simp [parse, h1, h2, h3, h4, k4])
              have R4 := Lib.hid (unV2 h4 (by omega))
              clear h1 h2 h3 h4 hl0 e1 e2 e3 hk k4
              go_enter Try.func24, Try.ntmps24
              go_wp2_with (first
                | ((with_reducible show wpList _ _ _ (⟨_, .alloc _, _, _, _, _⟩ :: _) _ _); refine wpList_alloc_blk rfl TO rfl _ zero_op ?_; intro W1 B1 K1 S1; clear S1; have hT := Turned.of_below B1; have hl : w.heap.size < W1.heap.size := K1.lt; have hK := Lib.hid K1; clear B1 K1)
                | (go_at_call 29; (with_reducible refine (R1.out _).mono ?_); rintro e w2 ⟨rfl, hn⟩; replace hT := hT.trans (Turned.of_below hn) (by simp); replace hK := Lib.hid (hK.out.below hn hl); replace hl : w.heap.size < w2.heap.size := Nat.lt_of_lt_of_le hl hn.size; obtain ⟨c0, c1, c2, c3⟩ := ocells hK.out; clear hn)
                | ((with_reducible show wpList _ _ _ (⟨none, .store _ (.tmp 11) _, _, _, _, _⟩ :: _) _ _); refine wpList_store_cell rfl 3 _ _ rfl w.heap.size 0 (.int .i64 k) TO (O.mk (0) [] [] 0).cells rfl rfl hK.out (by simp [O.cells]) rfl info_intO ?_; intro w3 T3 K3 S3; clear S3; replace K3 : Blk w3 w.heap.size TO (O.mk (k) [] [] 0).cells := K3; replace hT := hT.trans (S' := [w.heap.size]) T3 (fun j h1 h2 => by simp at h2; omega); replace hl : w.heap.size < w3.heap.size := Nat.lt_of_lt_of_le hl T3.size; try clear c0 c1 c2 c3; obtain ⟨c0, c1, c2, c3⟩ := ocells K3; replace hK := Lib.hid K3; clear T3 K3)
                | (go_at_call 30; (with_reducible refine (R2.out _).mono ?_); rintro e w4 ⟨rfl, hn⟩; replace hT := hT.trans (Turned.of_below hn) (by simp); replace hK := Lib.hid (hK.out.below hn hl); replace hl : w.heap.size < w4.heap.size := Nat.lt_of_lt_of_le hl hn.size; obtain ⟨c0, c1, c2, c3⟩ := ocells hK.out; clear hn)
                | ((with_reducible show wpList _ _ _ (⟨none, .store _ (.tmp 19) _, _, _, _, _⟩ :: _) _ _); refine wpList_store_cell rfl 9 _ _ rfl w.heap.size 1 (.string ⟨y.toArray⟩) TO (O.mk (k) [] [] 0).cells rfl rfl hK.out (by simp [O.cells]) rfl info_strO ?_; intro w5 T3 K3 S3; clear S3; replace K3 : Blk w5 w.heap.size TO (O.mk (k) y [] 0).cells := K3; replace hT := hT.trans (S' := [w.heap.size]) T3 (fun j h1 h2 => by simp at h2; omega); replace hl : w.heap.size < w5.heap.size := Nat.lt_of_lt_of_le hl T3.size; try clear c0 c1 c2 c3; obtain ⟨c0, c1, c2, c3⟩ := ocells K3; replace hK := Lib.hid K3; clear T3 K3)
                | (go_at_call 20; (with_reducible refine (CW.out _).mono ?_); rintro e w6 ⟨rfl, hn⟩; replace hT := hT.trans (Turned.of_below hn) (by simp); replace hK := Lib.hid (hK.out.below hn hl); replace hl : w.heap.size < w6.heap.size := Nat.lt_of_lt_of_le hl hn.size; obtain ⟨c0, c1, c2, c3⟩ := ocells hK.out; clear hn)
                | (go_at_call 30; (with_reducible refine (R3.out _).mono ?_); rintro e w7 ⟨rfl, hn⟩; replace hT := hT.trans (Turned.of_below hn) (by simp); replace hK := Lib.hid (hK.out.below hn hl); replace hl : w.heap.size < w7.heap.size := Nat.lt_of_lt_of_le hl hn.size; obtain ⟨c0, c1, c2, c3⟩ := ocells hK.out; clear hn)
                | ((with_reducible show wpList _ _ _ (⟨none, .store _ (.tmp 32) _, _, _, _, _⟩ :: _) _ _); refine wpList_store_cell rfl 9 _ _ rfl w.heap.size 2 (.string ⟨v.toArray⟩) TO (O.mk (k) y [] 0).cells rfl rfl hK.out (by simp [O.cells]) rfl info_strO ?_; intro w8 T3 K3 S3; clear S3; replace K3 : Blk w8 w.heap.size TO (O.mk (k) y v 0).cells := K3; replace hT := hT.trans (S' := [w.heap.size]) T3 (fun j h1 h2 => by simp at h2; omega); replace hl : w.heap.size < w8.heap.size := Nat.lt_of_lt_of_le hl T3.size; try clear c0 c1 c2 c3; obtain ⟨c0, c1, c2, c3⟩ := ocells K3; replace hK := Lib.hid K3; clear T3 K3)
                | (go_at_call 29; (with_reducible refine (R4.out _).mono ?_); rintro e w9 ⟨rfl, hn⟩; replace hT := hT.trans (Turned.of_below hn) (by simp); replace hK := Lib.hid (hK.out.below hn hl); replace hl : w.heap.size < w9.heap.size := Nat.lt_of_lt_of_le hl hn.size; obtain ⟨c0, c1, c2, c3⟩ := ocells hK.out; clear hn)
                | ((with_reducible show wpList _ _ _ (⟨none, .store _ (.tmp 45) _, _, _, _, _⟩ :: _) _ _); refine wpList_store_cell rfl 3 _ _ rfl w.heap.size 3 (.int .i64 n) TO (O.mk (k) y v 0).cells rfl rfl hK.out (by simp [O.cells]) rfl info_intO ?_; intro w10 T3 K3 S3; clear S3; replace K3 : Blk w10 w.heap.size TO (O.mk (k) y v n).cells := K3; replace hT := hT.trans (S' := [w.heap.size]) T3 (fun j h1 h2 => by simp at h2; omega); replace hl : w.heap.size < w10.heap.size := Nat.lt_of_lt_of_le hl T3.size; try clear c0 c1 c2 c3; obtain ⟨c0, c1, c2, c3⟩ := ocells K3; replace hK := Lib.hid K3; clear T3 K3)
                | ((with_reducible show wpList _ _ _ (⟨_, .load 23 _, _, _, _, _⟩ :: _) _ _); refine wpList_load_blk rfl TO _ rfl w.heap.size TO (O.mk (k) y v n).cells d rfl hK.out hd.out hdr info_op ?_) | ((with_reducible show wpList _ _ _ (⟨none, .store TO (.tmp 2) (.tmp 46), _, _, _, _⟩ :: _) _ _); refine wpList_store_blk rfl TO _ _ rfl w.heap.size TO (O.mk (k) y v n).cells (O.mk (k) y v n).cells 4 rfl rfl hK.out rfl (O.cellsN _) info_op ?_; intro WA TA KA SA; clear SA; replace hT := hT.trans (S' := [w.heap.size]) TA (fun j h1 h2 => by simp at h2; omega)))
              refine bodyPost_ret (results_cell3 (b := w.heap.size) (o := 0) (cs := (O.mk (k) y v n).cells) Try.results24 rfl KA.rangeAll hd.out hdr info_op) rfl ⟨O.mk (k) y v n, t4, true, rfl, hp.out, hT.below (Nat.le_refl _) (by simp)⟩
          · have t4 : (k == 4) = false := by simpa using k4
            have k2 : k = 2 := by omega
            have hp := Lib.hid (show parse l = if true then some (O.mk (k) y v 0, t3) else none by simp [parse, h1, h2, h3, k2])
            clear h1 h2 h3 hl0 e1 e2 e3 hk k4 k2
            go_enter Try.func24, Try.ntmps24
            go_wp2_with (first
              | ((with_reducible show wpList _ _ _ (⟨_, .alloc _, _, _, _, _⟩ :: _) _ _); refine wpList_alloc_blk rfl TO rfl _ zero_op ?_; intro W1 B1 K1 S1; clear S1; have hT := Turned.of_below B1; have hl : w.heap.size < W1.heap.size := K1.lt; have hK := Lib.hid K1; clear B1 K1)
              | (go_at_call 29; (with_reducible refine (R1.out _).mono ?_); rintro e w2 ⟨rfl, hn⟩; replace hT := hT.trans (Turned.of_below hn) (by simp); replace hK := Lib.hid (hK.out.below hn hl); replace hl : w.heap.size < w2.heap.size := Nat.lt_of_lt_of_le hl hn.size; obtain ⟨c0, c1, c2, c3⟩ := ocells hK.out; clear hn)
              | ((with_reducible show wpList _ _ _ (⟨none, .store _ (.tmp 11) _, _, _, _, _⟩ :: _) _ _); refine wpList_store_cell rfl 3 _ _ rfl w.heap.size 0 (.int .i64 k) TO (O.mk (0) [] [] 0).cells rfl rfl hK.out (by simp [O.cells]) rfl info_intO ?_; intro w3 T3 K3 S3; clear S3; replace K3 : Blk w3 w.heap.size TO (O.mk (k) [] [] 0).cells := K3; replace hT := hT.trans (S' := [w.heap.size]) T3 (fun j h1 h2 => by simp at h2; omega); replace hl : w.heap.size < w3.heap.size := Nat.lt_of_lt_of_le hl T3.size; try clear c0 c1 c2 c3; obtain ⟨c0, c1, c2, c3⟩ := ocells K3; replace hK := Lib.hid K3; clear T3 K3)
              | (go_at_call 30; (with_reducible refine (R2.out _).mono ?_); rintro e w4 ⟨rfl, hn⟩; replace hT := hT.trans (Turned.of_below hn) (by simp); replace hK := Lib.hid (hK.out.below hn hl); replace hl : w.heap.size < w4.heap.size := Nat.lt_of_lt_of_le hl hn.size; obtain ⟨c0, c1, c2, c3⟩ := ocells hK.out; clear hn)
              | ((with_reducible show wpList _ _ _ (⟨none, .store _ (.tmp 19) _, _, _, _, _⟩ :: _) _ _); refine wpList_store_cell rfl 9 _ _ rfl w.heap.size 1 (.string ⟨y.toArray⟩) TO (O.mk (k) [] [] 0).cells rfl rfl hK.out (by simp [O.cells]) rfl info_strO ?_; intro w5 T3 K3 S3; clear S3; replace K3 : Blk w5 w.heap.size TO (O.mk (k) y [] 0).cells := K3; replace hT := hT.trans (S' := [w.heap.size]) T3 (fun j h1 h2 => by simp at h2; omega); replace hl : w.heap.size < w5.heap.size := Nat.lt_of_lt_of_le hl T3.size; try clear c0 c1 c2 c3; obtain ⟨c0, c1, c2, c3⟩ := ocells K3; replace hK := Lib.hid K3; clear T3 K3)
              | (go_at_call 20; (with_reducible refine (CW.out _).mono ?_); rintro e w6 ⟨rfl, hn⟩; replace hT := hT.trans (Turned.of_below hn) (by simp); replace hK := Lib.hid (hK.out.below hn hl); replace hl : w.heap.size < w6.heap.size := Nat.lt_of_lt_of_le hl hn.size; obtain ⟨c0, c1, c2, c3⟩ := ocells hK.out; clear hn)
              | (go_at_call 30; (with_reducible refine (R3.out _).mono ?_); rintro e w7 ⟨rfl, hn⟩; replace hT := hT.trans (Turned.of_below hn) (by simp); replace hK := Lib.hid (hK.out.below hn hl); replace hl : w.heap.size < w7.heap.size := Nat.lt_of_lt_of_le hl hn.size; obtain ⟨c0, c1, c2, c3⟩ := ocells hK.out; clear hn)
              | ((with_reducible show wpList _ _ _ (⟨none, .store _ (.tmp 32) _, _, _, _, _⟩ :: _) _ _); refine wpList_store_cell rfl 9 _ _ rfl w.heap.size 2 (.string ⟨v.toArray⟩) TO (O.mk (k) y [] 0).cells rfl rfl hK.out (by simp [O.cells]) rfl info_strO ?_; intro w8 T3 K3 S3; clear S3; replace K3 : Blk w8 w.heap.size TO (O.mk (k) y v 0).cells := K3; replace hT := hT.trans (S' := [w.heap.size]) T3 (fun j h1 h2 => by simp at h2; omega); replace hl : w.heap.size < w8.heap.size := Nat.lt_of_lt_of_le hl T3.size; try clear c0 c1 c2 c3; obtain ⟨c0, c1, c2, c3⟩ := ocells K3; replace hK := Lib.hid K3; clear T3 K3)
              | ((with_reducible show wpList _ _ _ (⟨_, .load 23 _, _, _, _, _⟩ :: _) _ _); refine wpList_load_blk rfl TO _ rfl w.heap.size TO (O.mk (k) y v 0).cells d rfl hK.out hd.out hdr info_op ?_) | ((with_reducible show wpList _ _ _ (⟨none, .store TO (.tmp 2) (.tmp 46), _, _, _, _⟩ :: _) _ _); refine wpList_store_blk rfl TO _ _ rfl w.heap.size TO (O.mk (k) y v 0).cells (O.mk (k) y v 0).cells 4 rfl rfl hK.out rfl (O.cellsN _) info_op ?_; intro WA TA KA SA; clear SA; replace hT := hT.trans (S' := [w.heap.size]) TA (fun j h1 h2 => by simp at h2; omega)))
            refine bodyPost_ret (results_cell3 (b := w.heap.size) (o := 0) (cs := (O.mk (k) y v 0).cells) Try.results24 rfl KA.rangeAll hd.out hdr info_op) rfl ⟨O.mk (k) y v 0, t3, true, rfl, hp.out, hT.below (Nat.le_refl _) (by simp)⟩
      · rw [wr_no hk] at CW
        have t4 : (k == 4) = false := by simp; omega
        have hp := Lib.hid (show parse l = if true then some (O.mk (k) y [] 0, t2) else none by simp [parse, h1, h2, hk])
        clear h1 h2 hl0 e1 e2 hk
        go_enter Try.func24, Try.ntmps24
        go_wp2_with (first
          | ((with_reducible show wpList _ _ _ (⟨_, .alloc _, _, _, _, _⟩ :: _) _ _); refine wpList_alloc_blk rfl TO rfl _ zero_op ?_; intro W1 B1 K1 S1; clear S1; have hT := Turned.of_below B1; have hl : w.heap.size < W1.heap.size := K1.lt; have hK := Lib.hid K1; clear B1 K1)
          | (go_at_call 29; (with_reducible refine (R1.out _).mono ?_); rintro e w2 ⟨rfl, hn⟩; replace hT := hT.trans (Turned.of_below hn) (by simp); replace hK := Lib.hid (hK.out.below hn hl); replace hl : w.heap.size < w2.heap.size := Nat.lt_of_lt_of_le hl hn.size; obtain ⟨c0, c1, c2, c3⟩ := ocells hK.out; clear hn)
          | ((with_reducible show wpList _ _ _ (⟨none, .store _ (.tmp 11) _, _, _, _, _⟩ :: _) _ _); refine wpList_store_cell rfl 3 _ _ rfl w.heap.size 0 (.int .i64 k) TO (O.mk (0) [] [] 0).cells rfl rfl hK.out (by simp [O.cells]) rfl info_intO ?_; intro w3 T3 K3 S3; clear S3; replace K3 : Blk w3 w.heap.size TO (O.mk (k) [] [] 0).cells := K3; replace hT := hT.trans (S' := [w.heap.size]) T3 (fun j h1 h2 => by simp at h2; omega); replace hl : w.heap.size < w3.heap.size := Nat.lt_of_lt_of_le hl T3.size; try clear c0 c1 c2 c3; obtain ⟨c0, c1, c2, c3⟩ := ocells K3; replace hK := Lib.hid K3; clear T3 K3)
          | (go_at_call 30; (with_reducible refine (R2.out _).mono ?_); rintro e w4 ⟨rfl, hn⟩; replace hT := hT.trans (Turned.of_below hn) (by simp); replace hK := Lib.hid (hK.out.below hn hl); replace hl : w.heap.size < w4.heap.size := Nat.lt_of_lt_of_le hl hn.size; obtain ⟨c0, c1, c2, c3⟩ := ocells hK.out; clear hn)
          | ((with_reducible show wpList _ _ _ (⟨none, .store _ (.tmp 19) _, _, _, _, _⟩ :: _) _ _); refine wpList_store_cell rfl 9 _ _ rfl w.heap.size 1 (.string ⟨y.toArray⟩) TO (O.mk (k) [] [] 0).cells rfl rfl hK.out (by simp [O.cells]) rfl info_strO ?_; intro w5 T3 K3 S3; clear S3; replace K3 : Blk w5 w.heap.size TO (O.mk (k) y [] 0).cells := K3; replace hT := hT.trans (S' := [w.heap.size]) T3 (fun j h1 h2 => by simp at h2; omega); replace hl : w.heap.size < w5.heap.size := Nat.lt_of_lt_of_le hl T3.size; try clear c0 c1 c2 c3; obtain ⟨c0, c1, c2, c3⟩ := ocells K3; replace hK := Lib.hid K3; clear T3 K3)
          | (go_at_call 20; (with_reducible refine (CW.out _).mono ?_); rintro e w6 ⟨rfl, hn⟩; replace hT := hT.trans (Turned.of_below hn) (by simp); replace hK := Lib.hid (hK.out.below hn hl); replace hl : w.heap.size < w6.heap.size := Nat.lt_of_lt_of_le hl hn.size; obtain ⟨c0, c1, c2, c3⟩ := ocells hK.out; clear hn)
          | ((with_reducible show wpList _ _ _ (⟨_, .load 23 _, _, _, _, _⟩ :: _) _ _); refine wpList_load_blk rfl TO _ rfl w.heap.size TO (O.mk (k) y [] 0).cells d rfl hK.out hd.out hdr info_op ?_) | ((with_reducible show wpList _ _ _ (⟨none, .store TO (.tmp 2) (.tmp 46), _, _, _, _⟩ :: _) _ _); refine wpList_store_blk rfl TO _ _ rfl w.heap.size TO (O.mk (k) y [] 0).cells (O.mk (k) y [] 0).cells 4 rfl rfl hK.out rfl (O.cellsN _) info_op ?_; intro WA TA KA SA; clear SA; replace hT := hT.trans (S' := [w.heap.size]) TA (fun j h1 h2 => by simp at h2; omega)))
        refine bodyPost_ret (results_cell3 (b := w.heap.size) (o := 0) (cs := (O.mk (k) y [] 0).cells) Try.results24 rfl KA.rangeAll hd.out hdr info_op) rfl ⟨O.mk (k) y [] 0, t2, true, rfl, hp.out, hT.below (Nat.le_refl _) (by simp)⟩


theorem gotP {l : List UInt8} {o : O} {r : List UInt8} {b : Bool} (hp : parse l = if b then some (o, r) else none) : (b = false ∧ got l = zeroO ∧ gotE l = 10) ∨ (b = true ∧ r.isEmpty = false ∧ got l = zeroO ∧ gotE l = 10) ∨ (b = true ∧ r.isEmpty = true ∧ o.check ≠ 0 ∧ got l = zeroO ∧ gotE l = 10) ∨ (b = true ∧ r.isEmpty = true ∧ o.check = 0 ∧ got l = o ∧ gotE l = 0) := by
  cases b with
  | false => exact .inl ⟨rfl, by simp [got, getS, hp], by simp [gotE, getS, hp]⟩
  | true =>
    rw [if_pos rfl] at hp
    cases r with
    | cons x y => exact .inr (.inl ⟨rfl, rfl, by simp [got, getS, hp], by simp [gotE, getS, hp]⟩)
    | nil =>
      by_cases h : o.check = 0
      · exact .inr (.inr (.inr ⟨rfl, rfl, h, by simp [got, getS, hp, h], by simp [gotE, getS, hp, h]⟩))
      · exact .inr (.inr (.inl ⟨rfl, rfl, h, by simp [got, getS, hp, h], by simp [gotE, getS, hp, h]⟩))

set_option maxHeartbeats 4000000 in
theorem get_any (s : ByteArray) (w : World) (hs : s.size ≤ 4294967296) : Calls Try.prog 16 #[.string s] w (GetP w s.data.toList) := by
  obtain ⟨l, rfl⟩ : ∃ l : List UInt8, s = ⟨l.toArray⟩ := ⟨s.data.toList, by simp⟩
  rw [show (⟨l.toArray⟩ : ByteArray).data.toList = l by simp]
  obtain ⟨d, hd, hdr⟩ := row_op
  replace hd := Lib.hid hd
  have CC := Lib.hid (fun w => opcut_any l w (by simpa [ByteArray.size] using hs))
  clear hs
  go_enter Try.func16, Try.ntmps16
  go_upto_region 2 with (first
    | ((with_reducible show wpList _ _ _ (⟨_, .alloc _, _, _, _, _⟩ :: _) _ _); refine wpList_alloc_blk rfl TO rfl _ zero_op ?_; intro W1 B1 K1 S1; clear S1; have hT := Turned.of_below B1; have hl : w.heap.size < W1.heap.size := K1.lt; have hK := Lib.hid K1; clear B1 K1)
    | (go_at_call 24; refine (CC.out _).mono ?_; rintro e w2 ⟨o, r, b, rfl, hp, hn⟩; replace hT := hT.trans (Turned.of_below hn) (by simp); replace hK := Lib.hid (hK.out.below hn hl); replace hl : w.heap.size < w2.heap.size := Nat.lt_of_lt_of_le hl hn.size; replace hp := Lib.hid hp; clear hn)
    | ((with_reducible show wpList _ _ _ (⟨none, .store TO (.tmp 2) (.tmp 9), _, _, _, _⟩ :: _) _ _); refine wpList_store_blk rfl TO _ _ rfl w.heap.size TO zeroO.cells o.cells 4 rfl rfl hK.out rfl (O.cellsN _) info_op ?_; intro W3 T3 K3 S3; clear S3; replace hT := hT.trans (S' := [w.heap.size]) T3 (fun j h1 h2 => by simp at h2; omega); replace hl : w.heap.size < W3.heap.size := Nat.lt_of_lt_of_le hl T3.size; replace hK := Lib.hid K3; have r1 := ldO K3; clear T3 K3))
  have CH := Lib.hid (check_any o)
  rcases gotP hp.out with ⟨rfl, g1, g2⟩ | ⟨rfl, hr, g1, g2⟩ | ⟨rfl, hr, hc, g1, g2⟩ | ⟨rfl, hr, hc, g1, g2⟩
  all_goals replace g1 := Lib.hid g1
  all_goals replace g2 := Lib.hid g2
  · go_wp2_with (first | (go_at_call 11; (with_reducible refine (CH.out _).mono ?_); rintro e w4 ⟨rfl, hn⟩; replace hT := hT.trans (Turned.of_below hn) (by simp); replace hK := Lib.hid (hK.out.below hn hl); replace hl : w.heap.size < w4.heap.size := Nat.lt_of_lt_of_le hl hn.size; clear hn) | ((with_reducible show wpList _ _ _ (⟨none, .store TO (.tmp 2) (.tmp 23), _, _, _, _⟩ :: _) _ _); refine wpList_store_blk rfl TO _ _ rfl w.heap.size TO (o).cells (zeroO).cells 4 rfl rfl hK.out rfl (O.cellsN _) info_op ?_; intro WA TA KA SA; clear SA; replace hT := hT.trans (S' := [w.heap.size]) TA (fun j h1 h2 => by simp at h2; omega)))
    refine bodyPost_ret (results_cell2 (b := w.heap.size) (o := 0) (cs := (zeroO).cells) Try.results16 rfl KA.rangeAll hd.out hdr info_op) rfl ⟨?_, hT.below (Nat.le_refl _) (by simp)⟩
    exact ret_oe g1.out.symm g2.out.symm
  · go_wp2_with (first | (go_at_call 11; (with_reducible refine (CH.out _).mono ?_); rintro e w4 ⟨rfl, hn⟩; replace hT := hT.trans (Turned.of_below hn) (by simp); replace hK := Lib.hid (hK.out.below hn hl); replace hl : w.heap.size < w4.heap.size := Nat.lt_of_lt_of_le hl hn.size; clear hn) | ((with_reducible show wpList _ _ _ (⟨none, .store TO (.tmp 2) (.tmp 23), _, _, _, _⟩ :: _) _ _); refine wpList_store_blk rfl TO _ _ rfl w.heap.size TO (o).cells (zeroO).cells 4 rfl rfl hK.out rfl (O.cellsN _) info_op ?_; intro WA TA KA SA; clear SA; replace hT := hT.trans (S' := [w.heap.size]) TA (fun j h1 h2 => by simp at h2; omega)))
    refine bodyPost_ret (results_cell2 (b := w.heap.size) (o := 0) (cs := (zeroO).cells) Try.results16 rfl KA.rangeAll hd.out hdr info_op) rfl ⟨?_, hT.below (Nat.le_refl _) (by simp)⟩
    exact ret_oe g1.out.symm g2.out.symm
  · have tc : (o.check == 0) = false := by simpa using hc
    replace hc := Lib.hid hc
    go_wp2_with (first | (go_at_call 11; (with_reducible refine (CH.out _).mono ?_); rintro e w4 ⟨rfl, hn⟩; replace hT := hT.trans (Turned.of_below hn) (by simp); replace hK := Lib.hid (hK.out.below hn hl); replace hl : w.heap.size < w4.heap.size := Nat.lt_of_lt_of_le hl hn.size; clear hn) | ((with_reducible show wpList _ _ _ (⟨none, .store TO (.tmp 2) (.tmp 23), _, _, _, _⟩ :: _) _ _); refine wpList_store_blk rfl TO _ _ rfl w.heap.size TO (o).cells (zeroO).cells 4 rfl rfl hK.out rfl (O.cellsN _) info_op ?_; intro WA TA KA SA; clear SA; replace hT := hT.trans (S' := [w.heap.size]) TA (fun j h1 h2 => by simp at h2; omega)))
    refine bodyPost_ret (results_cell2 (b := w.heap.size) (o := 0) (cs := (zeroO).cells) Try.results16 rfl KA.rangeAll hd.out hdr info_op) rfl ⟨?_, hT.below (Nat.le_refl _) (by simp)⟩
    exact ret_oe g1.out.symm g2.out.symm
  · rw [hc] at CH
    replace hc := Lib.hid hc
    go_wp2_with (first | (go_at_call 11; (with_reducible refine (CH.out _).mono ?_); rintro e w4 ⟨rfl, hn⟩; replace hT := hT.trans (Turned.of_below hn) (by simp); replace hK := Lib.hid (hK.out.below hn hl); replace hl : w.heap.size < w4.heap.size := Nat.lt_of_lt_of_le hl hn.size; clear hn) | ((with_reducible show wpList _ _ _ (⟨_, .load 23 _, _, _, _, none⟩ :: _) _ _); refine wpList_load_blk rfl TO _ rfl w.heap.size TO (o).cells d rfl hK.out hd.out hdr info_op ?_) | ((with_reducible show wpList _ _ _ (⟨none, .store TO (.tmp 2) (.tmp 24), _, _, _, _⟩ :: _) _ _); refine wpList_store_blk rfl TO _ _ rfl w.heap.size TO (o).cells (o).cells 4 rfl rfl hK.out rfl (O.cellsN _) info_op ?_; intro WA TA KA SA; clear SA; replace hT := hT.trans (S' := [w.heap.size]) TA (fun j h1 h2 => by simp at h2; omega)))
    refine bodyPost_ret (results_cell2 (b := w.heap.size) (o := 0) (cs := (o).cells) Try.results16 rfl KA.rangeAll hd.out hdr info_op) rfl ⟨?_, hT.below (Nat.le_refl _) (by simp)⟩
    exact ret_oe g1.out.symm g2.out.symm
end Go.Proofs.Ytpljlncolkecpaa.Ops
