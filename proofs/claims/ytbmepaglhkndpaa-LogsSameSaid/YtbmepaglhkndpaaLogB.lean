/-
  What the laws of layer 11 call besides: logged (the chapter's log). Logs as objects that lie apart. Conditions: those that each names.
-/
import Derived.Test.YtbmepaglhkndpaaLogA
import Derived.Test.YtbmepaglhkndpaaResEq
import Derived.Test.YtbmepaglhkndpaaLogS
import Derived.Test.YtbmepaglhkndpaaQuiet
import Derived.Test.YtbmepaglhkndpaaSep
namespace Go.Proofs.Ytbmepaglhkndpaa.Logs
open Go.RowKit Go.Proofs.Ytbmepaglhkndpaa.Mem Go.Proofs.Ytbmepaglhkndpaa.Ops Go.Proofs.Ytbmepaglhkndpaa.Kv

/-- A log of the program; the document's log. -/
def lgOb (p : Nat) (S : List Nat) (L : List E) : Ob := ⟨S, fun W => LgAt W p S L, fun h t hd => h.keep t hd, fun h => h.lt⟩
def refOb (b base : Nat) (v : Value) (L : List E) : Ob := ⟨b :: v.ownBlock.toList, fun W => RefAt W b base v L,
  fun h t hd => h.turned t (hd b (by simp)) (fun k hk e => hd k (by simp [e]) hk), fun h x hx => by
    rcases List.mem_cons.1 hx with rfl | hx
    · exact h.blk.lt
    · exact (h.own.lt x (by simpa using hx)).2⟩
/-- What an append of the program's log leads to. -/
def LgP (p : Nat) (S : List Nat) (w : World) (R : Rs) (er : Int) (L' : List E) (e : Ending) (w' : World) : Prop :=
  e = .returned (.tuple #[.agg R.cells.toArray, .int .i64 er]) ∧ ∃ S', LgAt w' p S' L' ∧ Turned S w w' ∧ ∀ b ∈ S', b ∈ S ∨ w.heap.size ≤ b
attribute [local go_sem ↓] execLoadR execLoadO
theorem lstep0 (w : World) (p : Nat) (S : List Nat) (h : LgAt w p S []) : Calls Try.prog 12 #[ptr p, .agg (E.mk 1 0 3 ⟨2, [107], [118], 0⟩).cells.toArray] w (LgP p S w (⟨1, [], 1, 1⟩ : Rs) 0 [⟨1, 0, 3, ⟨2, [107], [118], 0⟩⟩]) := by
  have := lg_append w p S [] h (E.mk 1 0 3 ⟨2, [107], [118], 0⟩) (by decide)
  have e1 : err [] (E.mk 1 0 3 ⟨2, [107], [118], 0⟩) = 0 := by decide
  have e2 : app [] (E.mk 1 0 3 ⟨2, [107], [118], 0⟩) = [⟨1, 0, 3, ⟨2, [107], [118], 0⟩⟩] := by unfold app; rw [e1]; rfl
  have e3 : ans [] (E.mk 1 0 3 ⟨2, [107], [118], 0⟩) = (⟨1, [], 1, 1⟩ : Rs) := by unfold ans; rw [e1]; rfl
  rw [e1, e2, e3] at this
  exact this
theorem lstep1 (w : World) (p : Nat) (S : List Nat) (h : LgAt w p S [⟨1, 0, 3, ⟨2, [107], [118], 0⟩⟩]) : Calls Try.prog 12 #[ptr p, .agg (E.mk 3 0 4 ⟨2, [107], [118], 0⟩).cells.toArray] w (LgP p S w zeroR 70 [⟨1, 0, 3, ⟨2, [107], [118], 0⟩⟩]) := by
  have := lg_append w p S [⟨1, 0, 3, ⟨2, [107], [118], 0⟩⟩] h (E.mk 3 0 4 ⟨2, [107], [118], 0⟩) (by decide)
  have e1 : err [⟨1, 0, 3, ⟨2, [107], [118], 0⟩⟩] (E.mk 3 0 4 ⟨2, [107], [118], 0⟩) = 70 := by decide
  have e2 : app [⟨1, 0, 3, ⟨2, [107], [118], 0⟩⟩] (E.mk 3 0 4 ⟨2, [107], [118], 0⟩) = [⟨1, 0, 3, ⟨2, [107], [118], 0⟩⟩] := by unfold app; rw [e1]; rfl
  have e3 : ans [⟨1, 0, 3, ⟨2, [107], [118], 0⟩⟩] (E.mk 3 0 4 ⟨2, [107], [118], 0⟩) = zeroR := by unfold ans; rw [e1]; rfl
  rw [e1, e2, e3] at this
  exact this
theorem lstep2 (w : World) (p : Nat) (S : List Nat) (h : LgAt w p S [⟨1, 0, 3, ⟨2, [107], [118], 0⟩⟩]) : Calls Try.prog 12 #[ptr p, .agg (E.mk 2 0 3 ⟨2, [107], [118], 0⟩).cells.toArray] w (LgP p S w zeroR 71 [⟨1, 0, 3, ⟨2, [107], [118], 0⟩⟩]) := by
  have := lg_append w p S [⟨1, 0, 3, ⟨2, [107], [118], 0⟩⟩] h (E.mk 2 0 3 ⟨2, [107], [118], 0⟩) (by decide)
  have e1 : err [⟨1, 0, 3, ⟨2, [107], [118], 0⟩⟩] (E.mk 2 0 3 ⟨2, [107], [118], 0⟩) = 71 := by decide
  have e2 : app [⟨1, 0, 3, ⟨2, [107], [118], 0⟩⟩] (E.mk 2 0 3 ⟨2, [107], [118], 0⟩) = [⟨1, 0, 3, ⟨2, [107], [118], 0⟩⟩] := by unfold app; rw [e1]; rfl
  have e3 : ans [⟨1, 0, 3, ⟨2, [107], [118], 0⟩⟩] (E.mk 2 0 3 ⟨2, [107], [118], 0⟩) = zeroR := by unfold ans; rw [e1]; rfl
  rw [e1, e2, e3] at this
  exact this
theorem lstep3 (w : World) (p : Nat) (S : List Nat) (h : LgAt w p S [⟨1, 0, 3, ⟨2, [107], [118], 0⟩⟩]) : Calls Try.prog 12 #[ptr p, .agg (E.mk 2 1 1 ⟨1, [107], [], 0⟩).cells.toArray] w (LgP p S w zeroR 2 [⟨1, 0, 3, ⟨2, [107], [118], 0⟩⟩]) := by
  have := lg_append w p S [⟨1, 0, 3, ⟨2, [107], [118], 0⟩⟩] h (E.mk 2 1 1 ⟨1, [107], [], 0⟩) (by decide)
  have e1 : err [⟨1, 0, 3, ⟨2, [107], [118], 0⟩⟩] (E.mk 2 1 1 ⟨1, [107], [], 0⟩) = 2 := by decide
  have e2 : app [⟨1, 0, 3, ⟨2, [107], [118], 0⟩⟩] (E.mk 2 1 1 ⟨1, [107], [], 0⟩) = [⟨1, 0, 3, ⟨2, [107], [118], 0⟩⟩] := by unfold app; rw [e1]; rfl
  have e3 : ans [⟨1, 0, 3, ⟨2, [107], [118], 0⟩⟩] (E.mk 2 1 1 ⟨1, [107], [], 0⟩) = zeroR := by unfold ans; rw [e1]; rfl
  rw [e1, e2, e3] at this
  exact this
theorem lastL : last [⟨1, 0, 3, ⟨2, [107], [118], 0⟩⟩] 0 = (3, 1) := by decide
theorem lookL : Kv.look (store [⟨1, 0, 3, ⟨2, [107], [118], 0⟩⟩]) [107] ([⟨1, 0, 3, ⟨2, [107], [118], 0⟩⟩] : List E).length = ⟨1, [118], 1, 1⟩ := rfl
set_option maxRecDepth 100000
set_option maxHeartbeats 4000000 in
theorem logged_any (w : World) : Calls Try.prog 7 #[] w fun e w' => e = .returned (.bool true) ∧ Below w.heap.size w w' := by
  have q0 : ∀ w, (binOp .eql TR (.agg #[.int .i64 1, .string ⟨#[]⟩, .int .i64 1, .int .i64 1]) (.agg #[.int .i64 1, .string ⟨#[]⟩, .int .i64 1, .int .i64 1])).run Try.prog w = .ok (.bool true) w := eql_res ⟨1, [], 1, 1⟩
  have u0 : ∀ op x y w, (eqGuard op TR x y (.agg #[.int .i64 1, .string ⟨#[]⟩, .int .i64 1, .int .i64 1]) (.agg #[.int .i64 1, .string ⟨#[]⟩, .int .i64 1, .int .i64 1])).run Try.prog w = .ok () w := fun op x y => guard_res op x y ⟨1, [], 1, 1⟩
  have q9 : ∀ w, (binOp .eql TR (.agg #[.int .i64 1, .string ⟨#[118]⟩, .int .i64 1, .int .i64 1]) (.agg #[.int .i64 1, .string ⟨#[118]⟩, .int .i64 1, .int .i64 1])).run Try.prog w = .ok (.bool true) w := eql_res ⟨1, [118], 1, 1⟩
  have u9 : ∀ op x y w, (eqGuard op TR x y (.agg #[.int .i64 1, .string ⟨#[118]⟩, .int .i64 1, .int .i64 1]) (.agg #[.int .i64 1, .string ⟨#[118]⟩, .int .i64 1, .int .i64 1])).run Try.prog w = .ok () w := fun op x y => guard_res op x y ⟨1, [118], 1, 1⟩
  have LA := Lib.hid (fun (w1 : World) (p : Nat) (S : List Nat) (h1 : LgAt w1 p S [⟨1, 0, 3, ⟨2, [107], [118], 0⟩⟩]) => lg_last w1 p S _ h1 0)
  rw [lastL] at LA
  have LK : ∀ (w1 : World) (p : Nat) (S : List Nat) (_ : LgAt w1 p S [⟨1, 0, 3, ⟨2, [107], [118], 0⟩⟩]), Calls Try.prog 10 #[ptr p, .string ⟨#[107]⟩] w1 fun e w' => e = .returned (.agg #[.int .i64 1, .string ⟨#[118]⟩, .int .i64 1, .int .i64 1]) ∧ Below w1.heap.size w1 w' := fun w1 p S h1 => by
    have := lg_look w1 p S _ h1 [107] (by decide)
    rw [lookL] at this
    exact this
  replace LK := Lib.hid LK
  go_enter Try.func7, Try.ntmps7
  go_wp2_with (first
    | (go_at_call 8; refine (lg_new _).mono ?_; rintro e w1 ⟨p, S0, rfl, hS0, hn0, hB⟩; have HK := Lib.hid ((Sep.start w).push hB (lgOb p S0 []) hS0 hn0); clear hB hS0 hn0)
    | ((with_reducible show wpList _ _ _ (⟨some 2, .alloc _, _, _, _, _⟩ :: _) _ _); refine wpList_alloc_blk rfl TO rfl _ zero_op ?_; intro w2 hn K2 S2; clear S2; replace HK := Lib.hid (HK.out.pushBlk hn K2); clear hn K2; generalize w1.heap.size = b2 at *)
    | ((with_reducible show wpList _ _ _ (⟨none, .store TO (.tmp 2) _, _, _, _, _⟩ :: _) _ _); refine wpList_store_blk rfl TO _ _ rfl b2 TO zeroO.cells (O.mk 2 [107] [118] 0).cells 4 rfl rfl (HK.out.blk (by simp)) rfl (O.cellsN _) info_op ?_; intro w3 T3 K3 S3; clear S3; replace HK := Lib.hid (HK.out.turn [] T3 K3); have hS0 := True.intro; have g2 := ldO (HK.out.blk (b := b2) (T := TO) (cs := (O.mk 2 [107] [118] 0).cells) (by simp)); clear T3 K3)
    | (go_at_call 12; clear hS0; refine (lstep0 _ p S0 (HK.out.has (lgOb p S0 []) (by simp))).mono ?_; rintro e wa0 ⟨rfl, S1, hL, hT, hN⟩; replace HK := Lib.hid (HK.out.act [blkOb b2 TO (O.mk 2 [107] [118] 0).cells] hT (lgOb p S1 [⟨1, 0, 3, ⟨2, [107], [118], 0⟩⟩]) hL hN); clear hL hT hN g2)
    | ((with_reducible show wpList _ _ _ (⟨some 3, .alloc _, _, _, _, _⟩ :: _) _ _); refine wpList_alloc_blk rfl TR rfl _ zero_res ?_; intro wb0 hn K2 S2; clear S2; replace HK := Lib.hid (HK.out.pushBlk hn K2); clear hn K2; generalize wa0.heap.size = d0 at *)
    | ((with_reducible show wpList _ _ _ (⟨none, .store TR (.tmp 3) _, _, _, _, _⟩ :: _) _ _); refine wpList_store_blk rfl TR _ _ rfl d0 TR zeroR.cells ((⟨1, [], 1, 1⟩ : Rs)).cells 4 rfl rfl (HK.out.blk (by simp)) rfl (Rs.cellsN _) info_res ?_; intro wc0 T3 K3 S3; clear S3; replace HK := Lib.hid (HK.out.turn [] T3 K3); have hS1 := True.intro; have g2 := ldO (HK.out.blk (b := b2) (T := TO) (cs := (O.mk 2 [107] [118] 0).cells) (by simp)); clear T3 K3)
    | (go_at_call 12; clear hS1; refine (lstep1 _ p S1 (HK.out.has (lgOb p S1 [⟨1, 0, 3, ⟨2, [107], [118], 0⟩⟩]) (by simp))).mono ?_; rintro e wa1 ⟨rfl, S2, hL, hT, hN⟩; replace HK := Lib.hid (HK.out.act [blkOb d0 TR ((⟨1, [], 1, 1⟩ : Rs)).cells, blkOb b2 TO (O.mk 2 [107] [118] 0).cells] hT (lgOb p S2 [⟨1, 0, 3, ⟨2, [107], [118], 0⟩⟩]) hL hN); clear hL hT hN g2)
    | ((with_reducible show wpList _ _ _ (⟨some 5, .alloc _, _, _, _, _⟩ :: _) _ _); refine wpList_alloc_blk rfl TR rfl _ zero_res ?_; intro wb1 hn K2 S2; clear S2; replace HK := Lib.hid (HK.out.pushBlk hn K2); clear hn K2; generalize wa1.heap.size = d1 at *)
    | ((with_reducible show wpList _ _ _ (⟨none, .store TR (.tmp 5) _, _, _, _, _⟩ :: _) _ _); refine wpList_store_blk rfl TR _ _ rfl d1 TR zeroR.cells (zeroR).cells 4 rfl rfl (HK.out.blk (by simp)) rfl (Rs.cellsN _) info_res ?_; intro wc1 T3 K3 S3; clear S3; replace HK := Lib.hid (HK.out.turn [] T3 K3); have hS2 := True.intro; have g2 := ldO (HK.out.blk (b := b2) (T := TO) (cs := (O.mk 2 [107] [118] 0).cells) (by simp)); clear T3 K3)
    | (go_at_call 12; clear hS2; refine (lstep2 _ p S2 (HK.out.has (lgOb p S2 [⟨1, 0, 3, ⟨2, [107], [118], 0⟩⟩]) (by simp))).mono ?_; rintro e wa2 ⟨rfl, S3, hL, hT, hN⟩; replace HK := Lib.hid (HK.out.act [blkOb d1 TR (zeroR).cells, blkOb d0 TR ((⟨1, [], 1, 1⟩ : Rs)).cells, blkOb b2 TO (O.mk 2 [107] [118] 0).cells] hT (lgOb p S3 [⟨1, 0, 3, ⟨2, [107], [118], 0⟩⟩]) hL hN); clear hL hT hN g2)
    | ((with_reducible show wpList _ _ _ (⟨some 7, .alloc _, _, _, _, _⟩ :: _) _ _); refine wpList_alloc_blk rfl TR rfl _ zero_res ?_; intro wb2 hn K2 S2; clear S2; replace HK := Lib.hid (HK.out.pushBlk hn K2); clear hn K2; generalize wa2.heap.size = d2 at *)
    | ((with_reducible show wpList _ _ _ (⟨none, .store TR (.tmp 7) _, _, _, _, _⟩ :: _) _ _); refine wpList_store_blk rfl TR _ _ rfl d2 TR zeroR.cells (zeroR).cells 4 rfl rfl (HK.out.blk (by simp)) rfl (Rs.cellsN _) info_res ?_; intro wc2 T3 K3 S3; clear S3; replace HK := Lib.hid (HK.out.turn [] T3 K3); have hS3 := True.intro; have g2 := ldO (HK.out.blk (b := b2) (T := TO) (cs := (O.mk 2 [107] [118] 0).cells) (by simp)); clear T3 K3)
    | (go_at_call 12; clear hS3; refine (lstep3 _ p S3 (HK.out.has (lgOb p S3 [⟨1, 0, 3, ⟨2, [107], [118], 0⟩⟩]) (by simp))).mono ?_; rintro e wa3 ⟨rfl, S4, hL, hT, hN⟩; replace HK := Lib.hid (HK.out.act [blkOb d2 TR (zeroR).cells, blkOb d1 TR (zeroR).cells, blkOb d0 TR ((⟨1, [], 1, 1⟩ : Rs)).cells, blkOb b2 TO (O.mk 2 [107] [118] 0).cells] hT (lgOb p S4 [⟨1, 0, 3, ⟨2, [107], [118], 0⟩⟩]) hL hN); clear hL hT hN g2)
    | ((with_reducible show wpList _ _ _ (⟨some 9, .alloc _, _, _, _, _⟩ :: _) _ _); refine wpList_alloc_blk rfl TR rfl _ zero_res ?_; intro wb3 hn K2 S2; clear S2; replace HK := Lib.hid (HK.out.pushBlk hn K2); clear hn K2; generalize wa3.heap.size = d3 at *)
    | ((with_reducible show wpList _ _ _ (⟨none, .store TR (.tmp 9) _, _, _, _, _⟩ :: _) _ _); refine wpList_store_blk rfl TR _ _ rfl d3 TR zeroR.cells (zeroR).cells 4 rfl rfl (HK.out.blk (by simp)) rfl (Rs.cellsN _) info_res ?_; intro wc3 T3 K3 S3; clear S3; replace HK := Lib.hid (HK.out.turn [] T3 K3); have hS4 := True.intro; have g2 := ldO (HK.out.blk (b := b2) (T := TO) (cs := (O.mk 2 [107] [118] 0).cells) (by simp)); clear T3 K3)
    | (go_at_call 20; clear hS4; refine (LA.out _ p S4 (HK.out.has (lgOb p S4 [⟨1, 0, 3, ⟨2, [107], [118], 0⟩⟩]) (by simp))).mono ?_; rintro e we ⟨rfl, hn⟩; replace HK := Lib.hid (HK.out.below hn); clear hn g2; have r3 : ldRun Try.prog TR we (.pointer (some ⟨d0, 0, none⟩)) = .ok (.value (.agg #[.int .i64 1, .string ⟨#[]⟩, .int .i64 1, .int .i64 1])) we := ldR (HK.out.blk (b := d0) (T := TR) (cs := ((⟨1, [], 1, 1⟩ : Rs)).cells) (by simp)))
    | (go_at_call 10; refine (LK.out _ p S4 (HK.out.has (lgOb p S4 [⟨1, 0, 3, ⟨2, [107], [118], 0⟩⟩]) (by simp))).mono ?_; rintro e wf ⟨rfl, hn⟩; replace HK := Lib.hid (HK.out.below hn); clear hn)
    | fail)
  go_ret
  exact ⟨rfl, HK.out.ends⟩
end Go.Proofs.Ytbmepaglhkndpaa.Logs
