/-
  Contracts of the landed log (layer 11): may, refuses. Conditions: those that each names.
-/
import Derived.Test.YtbmepaglhkndpaaLogW2
import Derived.Test.YtbmepaglhkndpaaOpsQ
import Derived.BigQuiet
namespace Go.Proofs.Ytbmepaglhkndpaa.Logs
open Go.RowKit Go.Proofs.Ytbmepaglhkndpaa.Mem Go.Proofs.Ytbmepaglhkndpaa.Ops Go.Proofs.Ytbmepaglhkndpaa.Kv
set_option maxRecDepth 100000
set_option maxHeartbeats 2000000
attribute [local go_sem ↓] execLoadO execLoadEn
/-- May an entry stand in some log? -/
def okE (y : E) : Bool := decide (¬ bad y)
theorem may_any (y : E) (w : World) : Calls Try.prog 41 #[.agg y.cells.toArray] w fun e w' => e = .returned (.bool (okE y)) ∧ Below w.heap.size w w' := by
  have CK := Lib.hid (fun w1 => check_any y.op w1)
  have RD := Lib.hid (fun w1 => reads_op y.op w1)
  have KN := Lib.hid (fun w1 => known_any y.client w1)
  have ways : (kn y.client = false ∧ okE y = false) ∨ (kn y.client = true ∧ ((¬ 1 ≤ y.seq ∧ okE y = false) ∨ (1 ≤ y.seq ∧ (((y.op.check == 0) = false ∧ okE y = false) ∨ ((y.op.check == 0) = true ∧ okE y = !y.op.reads))))) := by
    unfold okE bad kn O.reads
    by_cases a1 : 0 ≤ y.client
    · by_cases a2 : y.client ≤ 5
      · refine .inr ⟨by simp [a1, a2], ?_⟩
        by_cases a3 : 1 ≤ y.seq
        · refine .inr ⟨a3, ?_⟩
          by_cases a4 : y.op.check = 0
          · refine .inr ⟨by simpa using a4, ?_⟩
            by_cases a5 : y.op.kind = 1
            · simp [a4, a5]
            · simp [a4, a5]; omega
          · exact .inl ⟨by simpa using a4, by simp [a4]⟩
        · exact .inl ⟨a3, by simp; omega⟩
      · exact .inl ⟨by simp; omega, by simp; omega⟩
    · exact .inl ⟨by simp; omega, by simp; omega⟩
  generalize okE y = ok at *
  generalize y.op.check = ck at *
  generalize y.op.reads = rd at *
  generalize kn y.client = kc at *
  rcases ways with ⟨rfl, h⟩ | ⟨rfl, ⟨h1, h⟩ | ⟨h1, ⟨h2, h⟩ | ⟨h2, h⟩⟩⟩
  all_goals
    replace h := Lib.hid h
    go_enter Try.func41, Try.ntmps41
    go_wp2_with (first
      | ((with_reducible show wpList _ _ _ (⟨_, .box _ _, _, _, _, _⟩ :: _) _ _); refine wpList_box_blk rfl TEn _ rfl y.cells rfl ?_; intro w1 hn K1 S1; clear S1; have hB := hn; have q1 := K1.cell 1; replace q1 : w1.cell? ⟨w.heap.size, 1, none⟩ = some (.int .i64 y.client) := q1; have q2 := K1.cell 2; replace q2 : w1.cell? ⟨w.heap.size, 2, none⟩ = some (.int .i64 y.seq) := q2; have g3 := ldOp K1; have hK := Lib.hid K1; clear K1)
      | (go_at_call 37; (with_reducible refine (KN.out _).mono ?_); rintro e w2 ⟨rfl, rfl⟩)
      | (go_at_call 42; (with_reducible refine (CK.out _).mono ?_); rintro e w3 ⟨rfl, hn⟩; replace hK := Lib.hid (hK.out.below hn hK.out.lt); replace g3 := ldOp hK.out; replace hB := bel hB hn; clear hn q1 q2)
      | (go_at_call 49; (with_reducible refine (RD.out _).mono ?_); rintro e w4 ⟨rfl, hn⟩; replace hB := bel hB hn; clear hn))
    go_ret
    exact ⟨ret_bool h.out.symm, hB⟩
theorem err_bad {L : List E} {y : E} (h : okE y = false) : err L y = 2 := by
  unfold okE at h
  have : bad y := by simpa using h
  unfold err
  rw [if_pos this]
theorem err_index {L : List E} {y : E} (h : okE y = true) (hl : L.length ≤ 1000) (h1 : ¬ y.index = (L.length : Int) + 1) : err L y = 70 := by
  unfold okE at h
  have : ¬ bad y := by simpa using h
  unfold err
  rw [if_neg this, if_neg (by omega), if_pos h1]
theorem err_old {L : List E} {y : E} (h : okE y = true) (hl : L.length ≤ 1000) (h1 : y.index = (L.length : Int) + 1) (h2 : y.seq ≤ (last L y.client).1) : err L y = 71 := by
  unfold okE at h
  have : ¬ bad y := by simpa using h
  unfold err
  rw [if_neg this, if_neg (by omega), if_neg (by simpa using h1), if_pos h2]
theorem err_ok {L : List E} {y : E} (h : okE y = true) (hl : L.length ≤ 1000) (h1 : y.index = (L.length : Int) + 1) (h2 : ¬ y.seq ≤ (last L y.client).1) : err L y = 0 := by
  unfold okE at h
  have : ¬ bad y := by simpa using h
  unfold err
  rw [if_neg this, if_neg (by omega), if_neg (by simpa using h1), if_neg h2]
theorem below_drewN (w : World) (n : Nat) : Below w.heap.size w (w.drewN n) := ⟨rfl, rfl, rfl, Nat.le_refl _, fun _ _ => rfl⟩
theorem below_le {w w' : World} {B B' : Nat} (h : Below B w w') (hb : B' ≤ B) : Below B' w w' := ⟨h.os, h.tape, h.output, h.size, fun k hk => h.block k (by omega)⟩
theorem refuses_at (w : World) (p : Nat) (ve vr : Value) (s m : Nat) (L : List E) (h : LgAt1 w p ve vr s m L) (y : E) (hl : L.length ≤ 1000) : Calls Try.prog 31 #[ptr p, .agg y.cells.toArray] w fun e w' => e = .returned (.int .i64 (err L y)) ∧ Below w.heap.size w w' := by
  have MY := Lib.hid (fun w1 => may_any y w1)
  have N := Lib.hid (fun (w1 : World) (h1 : LgAt1 w1 p ve vr s m L) => lnone_at w1 p s h1.c8)
  have LN := Lib.hid (fun (w1 : World) (h1 : LgAt1 w1 p ve vr s m L) => len_at w1 p ve vr s m L h1)
  have LA := Lib.hid (fun (w1 : World) (h1 : LgAt1 w1 p ve vr s m L) => last_at w1 p ve vr s m L h1 y.client)
  have ways : (okE y = false ∧ err L y = 2) ∨ (okE y = true ∧ (((y.index == (L.length : Int) + 1) = false ∧ err L y = 70) ∨ ((y.index == (L.length : Int) + 1) = true ∧ ((y.seq ≤ (last L y.client).1 ∧ err L y = 71) ∨ (¬ y.seq ≤ (last L y.client).1 ∧ err L y = 0))))) := by
    cases a1 : okE y
    · exact .inl ⟨rfl, err_bad a1⟩
    · refine .inr ⟨rfl, ?_⟩
      by_cases a2 : y.index = (L.length : Int) + 1
      · refine .inr ⟨by simpa using a2, ?_⟩
        by_cases a3 : y.seq ≤ (last L y.client).1
        · exact .inl ⟨a3, err_old a1 hl a2 a3⟩
        · exact .inr ⟨a3, err_ok a1 hl a2 a3⟩
      · exact .inl ⟨by simpa using a2, err_index a1 hl a2⟩
  have w1' : IntKind.i64.wrap ((L.length : Int) + 1) = (L.length : Int) + 1 := IntWalk.i64_in _ (by omega)
  have hll : (L.length : Int) ≤ 1000 := by omega
  generalize err L y = er at *
  generalize okE y = ok at *
  generalize last L y.client = la at *
  obtain ⟨l1, l2⟩ := la
  replace h := Lib.hid h
  simp only at ways LA
  rcases ways with ⟨rfl, hh⟩ | ⟨rfl, ⟨h1, hh⟩ | ⟨h1, ⟨h2, hh⟩ | ⟨h2, hh⟩⟩⟩
  all_goals
    replace hh := Lib.hid hh
    go_enter Try.func31, Try.ntmps31
    go_wp2_with (first
      | ((with_reducible show wpList _ _ _ (⟨_, .box _ _, _, _, _, _⟩ :: _) _ _); refine wpList_box_blk rfl TEn _ rfl y.cells rfl ?_; intro w1 hn K1 S1; clear S1; have hL := Lib.hid (h.out.below hn); have hB := hn; have q0 := K1.cell 0; replace q0 : w1.cell? ⟨w.heap.size, 0, none⟩ = some (.int .i64 y.index) := q0; have q1 := K1.cell 1; replace q1 : w1.cell? ⟨w.heap.size, 1, none⟩ = some (.int .i64 y.client) := q1; have q2 := K1.cell 2; replace q2 : w1.cell? ⟨w.heap.size, 2, none⟩ = some (.int .i64 y.seq) := q2; have g3 := ldEn K1; have hK := Lib.hid K1; clear K1 hn)
      | (go_at_call 20; (with_reducible refine (LA.out _ hL.out).mono ?_); rintro e w3 ⟨rfl, hn⟩; replace hK := Lib.hid (hK.out.below hn hK.out.lt); replace g3 := ldEn hK.out; replace hB := bel hB hn; replace hL := Lib.hid (hL.out.below hn); clear hn q0 q1 q2)
      | (go_at_call 24; (with_reducible refine (N.out _ hL.out).mono ?_); rintro e w4 ⟨rfl, rfl⟩)
      | (go_at_call 41; (with_reducible refine (MY.out _).mono ?_); rintro e w5 ⟨rfl, hn⟩; replace hK := Lib.hid (hK.out.below hn hK.out.lt); replace hB := bel hB hn; replace hL := Lib.hid (hL.out.below hn); have q0 := hK.out.cell 0; replace q0 : w5.cell? ⟨w.heap.size, 0, none⟩ = some (.int .i64 y.index) := q0; have q2 := hK.out.cell 2; replace q2 : w5.cell? ⟨w.heap.size, 2, none⟩ = some (.int .i64 y.seq) := q2; clear hn g3)
      | (go_at_call 13; (with_reducible refine (LN.out _ hL.out).mono ?_); rintro e w6 ⟨rfl, rfl⟩))
    first
      | (go_ret; exact ⟨ret_int hh.out.symm, hB⟩)
      | (have LD := Lib.hid (fun n => LN.out _ (hL.out.below (below_drewN w6 n)))
         go_quiet ((go_at_call 13; exact Calls.quiet_of_same (LD.out _)))
         go_wp2
         go_ret
         exact ⟨ret_int hh.out.symm, hB.trans (below_le (below_drewN _ _) hB.size)⟩)
end Go.Proofs.Ytbmepaglhkndpaa.Logs
