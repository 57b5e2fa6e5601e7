/-
  Contracts of package slots (layer 8): none, ends, put, New, Set, Get; slots that are none. Conditions: those that each lemma names.
-/
import Derived.Test.YtidfgighpdkfaaaSlR
import Derived.Test.YtidfgighpdkfaaaOnce
import Derived.Deep.DeepCutAuto
import Derived.StillTailTactics
namespace Go.Proofs.Ytidfgighpdkfaaa.Sl
open Go.RowKit Go.Proofs.Ytidfgighpdkfaaa.Mem Go.Proofs.Ytidfgighpdkfaaa.Once

abbrev TS : TypeId := 48
/-- A slot's cells: was it made, the once's word, its lock and its waiters, the lock and its waiters, the outcome. -/
abbrev sc (m : Bool) (d l u k u' : Int) (o : O) : List Value := [.bool m, .int .u32 d, .int .i32 l, .int .u32 u, .int .i32 k, .int .u32 u'] ++ o.cells
/-- In the block p lies a slot that holds v. -/
structure SAt (w : World) (p : Nat) (v : Option O) : Prop where
  blk : ∃ u u' : Int, Blk w p TS (sc true (if v.isSome then 1 else 0) 0 u 0 u' (v.getD zeroO))
  good : ∀ o, v = some o → o.ok = true
theorem SAt.below {w w' : World} {p : Nat} {v : Option O} (h : SAt w p v) (hb : Below w.heap.size w w') : SAt w' p v := ⟨h.blk.elim fun u h => h.elim fun u' h => ⟨u, u', h.below hb h.lt⟩, h.good⟩
theorem SAt.lt {w : World} {p : Nat} {v : Option O} (h : SAt w p v) : p < w.heap.size := h.blk.elim fun _ h => h.elim fun _ h => h.lt
theorem SAt.keep {S : List Nat} {w w' : World} {p : Nat} {v : Option O} (h : SAt w p v) (t : Turned S w w') (hn : p ∉ S) : SAt w' p v := ⟨h.blk.elim fun u h => h.elim fun u' h => ⟨u, u', t.blk h hn⟩, h.good⟩
theorem SAt.setOther {w : World} {p : Nat} {v : Option O} (h : SAt w p v) {a : Addr} (hn : p ≠ a.block) (x : Value) : SAt (w.setCell a x) p v := ⟨h.blk.elim fun u h => h.elim fun u' h => ⟨u, u', h.setOther hn x⟩, h.good⟩
/-- What Set answers, and what the slot holds then. -/
def sets (v : Option O) (o : O) : Bool := v.isNone && o.ok
def setV (v : Option O) (o : O) : Option O := v.or (if o.ok then some o else none)
/-- A slot that is nil, or that New did not make. -/
def NoS (w : World) (v : Value) : Prop := v = .pointer none ∨ ∃ p, v = .pointer (some ⟨p, 0, none⟩) ∧ Blk w p TS (sc false 0 0 0 0 0 zeroO)
theorem NoS.below {w w' : World} {v : Value} (h : NoS w v) (hb : Below w.heap.size w w') : NoS w' v := h.imp id fun ⟨p, e, h⟩ => ⟨p, e, h.below hb h.lt⟩

theorem turned_setCell {S : List Nat} {w w' : World} (h : Turned S w w') {p : Nat} (hp : p ∈ S) (i : Nat) (u : Value) : Turned S w (w'.setCell ⟨p, i, none⟩ u) :=
  ⟨h.os, h.tape, h.output, by simpa [World.setCell] using h.size, fun k hk hn => (Below.heap_setCell w' _ u k (fun e => hn (by subst e; exact hp))).trans (h.block k hk hn)⟩
theorem turned_drew {S : List Nat} {w w' : World} (h : Turned S w w') : Turned S w w'.drew := ⟨h.os, h.tape, h.output, h.size, h.block⟩
theorem turned_drew_l {S : List Nat} {w w' : World} (h : Turned S w.drew w') : Turned S w w' := ⟨h.os, h.tape, h.output, h.size, h.block⟩
theorem turned_refl (S : List Nat) (w : World) : Turned S w w := ⟨rfl, rfl, rfl, Nat.le_refl _, fun _ _ _ => rfl⟩
/-- What turned one block alone, and left that as it was, turned nothing. -/
theorem below_back {w w' : World} {p : Nat} {T : TypeId} {cs : List Value} (t : Turned [p] w w') (h : Blk w p T cs) (h' : Blk w' p T cs) : Below w.heap.size w w' :=
  ⟨t.os, t.tape, t.output, t.size, fun k hk => if e : k = p then by subst e; exact (show w'.heap[k]? = _ from h').trans (show w.heap[k]? = _ from h).symm else t.block k hk (by simpa using e)⟩
theorem wpList_box_blk1 {P : Program} {ops : Array Oper} {rest : List Oper} {op : Oper} {a : Go.Act} {w : World} {Q : Exit → Go.Act → World → Prop} (hgd : op.guard = none) (ty : TypeId) (x : Operand) (ho : op.op = .box ty x) (v : Value)
    (hx : a.eval x = v) (hv : v.cells = #[v])
    (h : ∀ W, Below w.heap.size w W → Blk W w.heap.size ty [v] → W.heap.size = w.heap.size + 1 → wpList P ops Q rest (a.put op.dst (.pointer (some ⟨w.heap.size, 0, none⟩))) W) : wpList P ops Q (op :: rest) a w := by
  refine wpList_plain hgd fun K hK => ?_
  unfold Oper.wp execOp
  have hr : (Instr.box ty v).run P w = .ok (.pointer (some ⟨w.heap.size, 0, none⟩)) (w.alloc (.cells #[v] ty)) := by
    simp [Instr.box, newVar, newRow, hv]
  simp only [ho, hx, Sem.run_bind, Sem.run_pure, Result.andThen_ok, hr]
  exact hK _ _ (h _ ((Below.refl _ _).alloc (Nat.le_refl _) _) (Blk.new w ty [v]) (by simp))
theorem wpList_store_part {P : Program} {ops : Array Oper} {rest : List Oper} {op : Oper} {a : Go.Act} {w : World} {Q : Exit → Go.Act → World → Prop} (hgd : op.guard = none) (ty : TypeId) (x y : Operand) (ho : op.op = .store ty x y)
    (b o : Nat) (T : TypeId) (zs cs : List Value) (n : Nat) (hx : a.eval x = .pointer (some ⟨b, o, none⟩)) (hy : a.eval y = .agg cs.toArray) (hb : Blk w b T zs) (hz : o + n ≤ zs.length) (hc : CellsN n cs.toArray) (hi : (P.info? ty).map (·.size) = some n)
    (h : ∀ W, Turned [b] w W → Blk W b T (splice zs o cs) → W.heap.size = w.heap.size → wpList P ops Q rest (a.put op.dst undef) W) : wpList P ops Q (op :: rest) a w := by
  have hcl : cs.length = n := by simpa using hc.1
  refine wpList_store_mid hgd ty x y ho b o cs.toArray hx hy (by rw [hc.1]; exact hb.there o n hz) (by rw [hc.1]; exact hi) hc.2 (h _ ?_ ?_ ?_)
  · exact (turned_refl [b] w).setCells (.inl (by simp)) o _
  · exact hb.sets cs o (by omega)
  · exact size_setCells _ _ _ _

theorem hnot : ∀ (x : Bool) (w : World), (Op.unary .not (.bool x)).run Try.prog w = .ok (.bool (!x)) w := fun _ _ => rfl
theorem none_nil (w : World) : Calls Try.prog 12 #[.pointer none] w fun e w' => e = .returned (.bool true) ∧ w' = w := by
  have hnot := hnot
  go_enter Try.func12, Try.ntmps12
  go_wp2
  go_ret
  exact ⟨rfl, rfl⟩
theorem none_of (w : World) (p : Nat) (m : Bool) (h : w.cell? ⟨p, 0, none⟩ = some (.bool m)) : Calls Try.prog 12 #[.pointer (some ⟨p, 0, none⟩)] w fun e w' => e = .returned (.bool (!m)) ∧ w' = w := by
  have hnot := hnot
  go_enter Try.func12, Try.ntmps12
  go_wp2
  go_ret
  exact ⟨rfl, rfl⟩
theorem ends_any (w : World) (k : Int) : Calls Try.prog 13 #[.int .i64 k] w fun e w' => e = .returned (.bool (decide (1 ≤ k ∧ k ≤ 3))) ∧ w' = w := by
  by_cases h1 : k = 1
  · subst h1
    go_enter Try.func13, Try.ntmps13
    go_wp2
    go_ret
    exact ⟨rfl, rfl⟩
  by_cases h2 : k = 2
  · subst h2
    go_enter Try.func13, Try.ntmps13
    go_wp2
    go_ret
    exact ⟨rfl, rfl⟩
  by_cases h3 : k = 3
  · subst h3
    go_enter Try.func13, Try.ntmps13
    go_wp2
    go_ret
    exact ⟨rfl, rfl⟩
  rw [show decide (1 ≤ k ∧ k ≤ 3) = false by simp; omega]
  go_enter Try.func13, Try.ntmps13
  go_wp2
  go_ret
  exact ⟨by simp [h1, h2, h3], rfl⟩

theorem new_any (w : World) : Calls Try.prog 7 #[] w fun e w' => ∃ p, e = .returned (.pointer (some ⟨p, 0, none⟩)) ∧ SAt w' p none ∧ w.heap.size ≤ p ∧ Below w.heap.size w w' := by
  go_enter Try.func7, Try.ntmps7
  go_wp2_with ((with_reducible show wpList _ _ _ (⟨_, .box _ _, _, _, _, _⟩ :: _) _ _); refine wpList_box_blk rfl TS _ rfl (sc true 0 0 0 0 0 zeroO) rfl ?_; intro W1 B1 K1 S1; clear S1)
  go_ret
  exact ⟨_, rfl, ⟨⟨0, 0, K1⟩, by simp⟩, Nat.le_refl _, B1⟩

set_option maxRecDepth 100000 in
theorem put_any (w : World) (p : Nat) (d l u u' : Int) (z o : O) (S : Blk w p TS (sc true d l u 0 u' z)) :
    Calls Try.prog 16 #[.pointer (some ⟨p, 0, none⟩), .agg o.cells.toArray] w fun e w' => e = .returned (.tuple #[]) ∧ Blk w' p TS (sc true d l u 0 u' o) ∧ Turned [p] w w' := by
  obtain ⟨d', hd, hdr⟩ := row_out
  replace hd := Lib.hid hd
  have hpl := S.lt
  go_enter_defers Try.func16, Try.ntmps16
  go_upto_region 1 with ((with_reducible show wpList _ _ _ (⟨_, .box _ _, _, _, _, _⟩ :: _) _ _); refine wpList_box_blk rfl TO _ rfl o.cells rfl ?_; intro W1 B1 K1 S1; clear S1)
  have S1 := S.below B1 hpl
  have T1 : Turned [p] w W1 := (Turned.of_below B1).mono (by simp)
  have hne : w.heap.size ≠ p := by omega
  clear B1 S
  generalize w.heap.size = bo at *
  have e4 := S1.cell 4
  have f4 := S1.free 4
  go_upto_region 2 with (go_at_call 17; refine (lock_free ⟨p, 4, none⟩ _ e4 f4).mono ?_; rintro e w' ⟨rfl, hw⟩; replace hw := Lib.hid hw)
  replace hw := hw.out
  have S2 : Blk w' p TS (sc true d l u 1 u' z) := by rw [hw]; exact S1.set 4 _
  have K2 : Blk w' bo TO o.cells := by rw [hw]; exact K1.setOther (a := ⟨p, 4, none⟩) hne _
  have T2 : Turned [p] w w' := by rw [hw]; exact turned_setCell T1 (by simp) _ _
  clear hw e4 f4 S1 K1 T1
  have hz : o.cells.toArray.size = 6 := rfl
  replace hz := Lib.hid hz
  go_wp2_with (first
    | ((with_reducible show wpList _ _ _ (⟨_, .load TO _, _, _, _, _⟩ :: _) _ _); refine wpList_load_blk rfl TO _ rfl bo TO o.cells d' rfl K2 hd.out hdr info_out ?_)
    | ((with_reducible show wpList _ _ _ (⟨none, .store TO _ _, _, _, _, _⟩ :: _) _ _); refine wpList_store_part rfl TO _ _ rfl p 6 TS _ o.cells 6 rfl rfl S2 (by simp [O.cells]) o.cellsN info_out ?_; intro W3 T3 S3 Z3; clear Z3))
  have hcut : splice (sc true d l u 1 u' z) 6 o.cells = sc true d l u 1 u' o := rfl
  rw [hcut] at S3
  refine leaves_cons (f := 18) (args := #[.pointer (some ⟨p, 4, none⟩)]) (by simp) (by simp [go_sem]) ?_
  refine (unlock_deferred ⟨p, 4, none⟩ _ _ (S3.cell 4) (S3.free 4)).mono ?_
  rintro e u' w'' ⟨rfl, rfl, hw⟩
  have S4 : Blk w'' p TS (sc true d l u 0 u' o) := by rw [hw]; exact S3.set 4 _
  have T4 : Turned [p] w w'' := by rw [hw]; exact turned_setCell (T2.trans T3 (fun _ _ h => h)) (by simp) _ _
  simp [Leaves, settle, results, Try.results16]
  exact ⟨S4, T4⟩
set_option maxRecDepth 100000 in
theorem clo_any (w : World) (p bo bs bf : Nat) (d l u u' : Int) (o z : O) (S : Blk w p TS (sc true d l u 0 u' z)) (KO : Blk w bo TO o.cells)
    (hs : w.cell? ⟨bs, 0, none⟩ = some (.pointer (some ⟨p, 0, none⟩))) (T : TypeId) (KF : Blk w bf T [.bool false]) (n3 : p ≠ bf) :
    Calls Try.prog 15 #[.pointer (some ⟨bs, 0, none⟩), .pointer (some ⟨bo, 0, none⟩), .pointer (some ⟨bf, 0, none⟩)] w fun e w' => e = .returned (.tuple #[]) ∧
      Blk w' p TS (sc true d l u 0 u' o) ∧ Blk w' bf T [.bool true] ∧ Turned [p, bf] w w' := by
  obtain ⟨d', hd, hdr⟩ := row_out
  replace hd := Lib.hid hd
  have P := Lib.hid (put_any w p d l u u' z o S)
  go_enter Try.func15, Try.ntmps15
  go_upto_region 1 with (first
    | ((with_reducible show wpList _ _ _ (⟨_, .load TO _, _, _, _, _⟩ :: _) _ _); refine wpList_load_blk rfl TO _ rfl bo TO o.cells d' rfl KO hd.out hdr info_out ?_)
    | (go_at_call 16; refine P.out.mono ?_; rintro e w2 ⟨rfl, S2, T2⟩))
  have KF2 := T2.blk KF (by simpa using Ne.symm n3)
  have g2 := KF2.free 0
  have e3 : w2.cell? ⟨bf, 0, none⟩ = some (.bool false) := KF2.cell 0
  clear P S KO hs
  go_wp2_with fail
  go_end0
  refine ⟨rfl, ?_, ?_, ?_⟩
  · exact S2.setOther (by simpa using n3) _
  · exact KF2.set 0 (.bool true)
  · exact turned_setCell (T2.mono (fun k _ hk => by simp at hk; simp [hk])) (by simp) _ _
theorem set_nil (w : World) (o : O) : Calls Try.prog 10 #[.pointer none, .agg o.cells.toArray] w fun e w' => e = .returned (.bool false) ∧ Below w.heap.size w w' := by
  go_enter Try.func10, Try.ntmps10
  go_upto_region 1 with (first
    | ((with_reducible show wpList _ _ _ (⟨some 2, .box _ _, _, _, _, _⟩ :: _) _ _); refine wpList_box_blk1 rfl _ _ rfl (.pointer none) rfl rfl ?_; intro W1 B1 K1 S1; clear S1)
    | ((with_reducible show wpList _ _ _ (⟨some 3, .box _ _, _, _, _, _⟩ :: _) _ _); refine wpList_box_blk rfl TO _ rfl o.cells rfl ?_; intro W2 B2 K2 S2; clear S2))
  have hb1 := K1.lt
  have hs1 := B1.size
  have K1' := K1.below B2 hb1
  have hB2 := B1.trans (B2.mono B1.size)
  have cs : W2.cell? ⟨w.heap.size, 0, none⟩ = some (.pointer none) := K1'.cell 0
  go_wp2_with (go_at_call 12; refine (none_nil _).mono ?_; rintro e w' ⟨rfl, rfl⟩)
  go_ret
  exact ⟨rfl, hB2⟩
theorem set_held (w : World) (p : Nat) (m : Bool) (d l u k u' : Int) (z o : O) (S : Blk w p TS (sc m d l u k u' z)) (hk : m = false ∨ o.ok = false) :
    Calls Try.prog 10 #[.pointer (some ⟨p, 0, none⟩), .agg o.cells.toArray] w fun e w' => e = .returned (.bool false) ∧ Below w.heap.size w w' := by
  have hnot := hnot
  have hpl := S.lt
  go_enter Try.func10, Try.ntmps10
  go_upto_region 1 with (first
    | ((with_reducible show wpList _ _ _ (⟨some 2, .box _ _, _, _, _, _⟩ :: _) _ _); refine wpList_box_blk1 rfl _ _ rfl (.pointer (some ⟨p, 0, none⟩)) rfl rfl ?_; intro W1 B1 K1 S1; clear S1)
    | ((with_reducible show wpList _ _ _ (⟨some 3, .box _ _, _, _, _, _⟩ :: _) _ _); refine wpList_box_blk rfl TO _ rfl o.cells rfl ?_; intro W2 B2 K2 S2; clear S2))
  have hb1 := K1.lt
  have hb2 := K2.lt
  have hs1 := B1.size
  have S2 := (S.below B1 hpl).below B2 (by omega)
  have K1' := K1.below B2 hb1
  have hB2 := B1.trans (B2.mono B1.size)
  have cs : W2.cell? ⟨w.heap.size, 0, none⟩ = some (.pointer (some ⟨p, 0, none⟩)) := K1'.cell 0
  have ck : W2.cell? ⟨W1.heap.size, 0, none⟩ = some (.int .i64 o.kind) := K2.cell 0
  have N := Lib.hid (none_of W2 p m (S2.cell 0))
  have E := Lib.hid (ends_any W2 o.kind)
  cases m with
  | false =>
    go_wp2_with (go_at_call 12; refine N.out.mono ?_; rintro e W2 ⟨rfl, rfl⟩)
    go_ret
    exact ⟨rfl, hB2⟩
  | true =>
    have ho : decide (1 ≤ o.kind ∧ o.kind ≤ 3) = false := by simpa [O.ok] using hk
    rw [ho] at E
    go_wp2_with (first
      | (go_at_call 12; refine N.out.mono ?_; rintro e W2 ⟨rfl, rfl⟩)
      | (go_at_call 13; refine E.out.mono ?_; rintro e W2 ⟨rfl, rfl⟩))
    go_ret
    exact ⟨rfl, hB2⟩
set_option maxRecDepth 100000 in
set_option maxHeartbeats 1000000 in
theorem set_ok (w : World) (p : Nat) (d u u' : Int) (z o : O) (S : Blk w p TS (sc true d 0 u 0 u' z)) (ho : o.ok = true) (hd : d = 0 ∨ d = 1) :
    Calls Try.prog 10 #[.pointer (some ⟨p, 0, none⟩), .agg o.cells.toArray] w fun e w' => e = .returned (.bool (decide (d = 0))) ∧ Blk w' p TS (sc true 1 0 u 0 u' (if d = 0 then o else z)) ∧ Turned [p] w w' := by
  have hk : decide (1 ≤ o.kind ∧ o.kind ≤ 3) = true := ho
  have hnot := hnot
  have hmf : ∀ (fn : Fn) (first cap : Array Value) (w : World), (Instr.makeFunc fn first cap).run Try.prog w = .ok (.func fn first cap) w := fun _ _ _ _ => rfl
  have hpl := S.lt
  go_enter Try.func10, Try.ntmps10
  go_upto_region 1 with (first
    | ((with_reducible show wpList _ _ _ (⟨some 2, .box _ _, _, _, _, _⟩ :: _) _ _); refine wpList_box_blk1 rfl _ _ rfl (.pointer (some ⟨p, 0, none⟩)) rfl rfl ?_; intro W1 B1 K1 S1; clear S1)
    | ((with_reducible show wpList _ _ _ (⟨some 3, .box _ _, _, _, _, _⟩ :: _) _ _); refine wpList_box_blk rfl TO _ rfl o.cells rfl ?_; intro W2 B2 K2 S2; clear S2))
  have hb1 := K1.lt
  have hb2 := K2.lt
  have hs1 := B1.size
  have S2 := (S.below B1 hpl).below B2 (by omega)
  have K1' := K1.below B2 hb1
  have hB2 := B1.trans (B2.mono B1.size)
  generalize W1.heap.size = bo at *
  generalize hbs : w.heap.size = bs at *
  replace hbs := Lib.hid hbs
  have cs : W2.cell? ⟨bs, 0, none⟩ = some (.pointer (some ⟨p, 0, none⟩)) := K1'.cell 0
  have ck : W2.cell? ⟨bo, 0, none⟩ = some (.int .i64 o.kind) := K2.cell 0
  have N := Lib.hid (none_of W2 p true (S2.cell 0))
  have E := Lib.hid (ends_any W2 o.kind)
  rw [hk] at E
  have hbp : p < W2.heap.size := S2.lt
  have hbs2 : bs < W2.heap.size := K1'.lt
  have hbo2 : bo < W2.heap.size := K2.lt
  clear K1 B1 B2
  go_upto_region 3 with (first
    | (go_at_call 12; refine N.out.mono ?_; rintro e W2 ⟨rfl, rfl⟩)
    | (go_at_call 13; refine E.out.mono ?_; rintro e W2 ⟨rfl, rfl⟩))
  clear N E
  go_upto_region 4 with fail
  have F3 : Blk (W2.alloc (.cells #[.bool false] 4)) W2.heap.size 4 [.bool false] := Blk.new W2 4 [.bool false]
  have B3 : Below W2.heap.size W2 (W2.alloc (.cells #[.bool false] 4)) := (Below.refl _ _).alloc (Nat.le_refl _) _
  generalize W2.alloc (.cells #[.bool false] 4) = W3 at *
  have S3 := S2.below B3 hbp
  have O3 := K2.below B3 hbo2
  have P3 := K1'.below B3 hbs2
  have B4 := hB2.trans (B3.mono (by omega))
  have ZF := F3.lt
  clear S2 K2 K1' cs ck hb2 B3 hB2
  generalize W2.heap.size = bf at *
  have cs : W3.cell? ⟨bs, 0, none⟩ = some (.pointer (some ⟨p, 0, none⟩)) := P3.cell 0
  rcases hd with rfl | rfl
  · have hO : OnceAt W3 p 1 0 0 := ⟨S3.cell 1, S3.cell 2, S3.free 1, S3.free 2⟩
    have S4 := S3.set 2 (.int .i32 1)
    have hcl := clo_any (W3.setCell ⟨p, 2, none⟩ (.int .i32 1)) p bo bs bf 0 1 u u' o z S4 (O3.setOther (a := ⟨p, 2, none⟩) (by simp; omega) _) ((P3.setOther (a := ⟨p, 2, none⟩) (by simp; omega) _).cell 0) 4 (F3.setOther (a := ⟨p, 2, none⟩) (by simp; omega) _) (by omega)
    have D := do_first p 1 _ _ _ W3 hO _ hcl (fun w' hq => ⟨hq.1.cell 1, hq.1.cell 2, hq.1.free 1, hq.1.free 2⟩)
    replace D := Lib.hid D
    have t0 : Turned [p, bf] W3 (W3.setCell ⟨p, 2, none⟩ (.int .i32 1)) := turned_setCell (turned_refl _ W3) (by simp) _ _
    clear hcl S4 hO
    go_wp2_with (go_at_call 14; refine D.out.mono ?_; rintro e w' ⟨rfl, w1, ⟨q1, q2, q3⟩, hw'⟩; replace hw' := Lib.hid hw'; have r2 : Blk w' bf 4 [.bool true] := (by rw [hw'.out]; exact (Blk.setOther (w := w1.drew) q2 (a := ⟨p, 1, none⟩) (by simp; omega) _).setOther (a := ⟨p, 1 + 1, none⟩) (by simp; omega) _); have cf : w'.cell? ⟨bf, 0, none⟩ = some (.bool true) := r2.cell 0)
    replace hw' := hw'.out
    go_ret
    refine ⟨rfl, by rw [hw']; exact (Blk.set (w := w1.drew) q1 1 (.int .u32 1)).set 2 (.int .i32 0), ?_⟩
    have t1 : Turned [p, bf] W3 w' := by
      rw [hw']
      exact turned_setCell (turned_setCell (turned_drew (t0.trans q3 (fun k _ h => h))) (by simp) _ _) (by simp) _ _
    exact ((Turned.of_below (by rw [hbs.out]; exact B4)).mono (S' := [p]) (by simp)).trans t1 (fun k hk h => by have := hbs.out; simp at h ⊢; omega)
  · have hO : OnceAt W3 p 1 1 0 := ⟨S3.cell 1, S3.cell 2, S3.free 1, S3.free 2⟩
    have D := fun fv => do_done p 1 fv W3 hO
    replace D := Lib.hid D
    have cf : W3.cell? ⟨bf, 0, none⟩ = some (.bool false) := F3.cell 0
    clear hO
    go_wp2_with (go_at_call 14; refine (D.out _).mono ?_; rintro e w' ⟨rfl, rfl⟩)
    go_ret
    exact ⟨rfl, S3, (Turned.of_below (by rw [hbs.out]; exact B4)).mono (by simp)⟩
theorem set_at (w : World) (p : Nat) (v : Option O) (h : SAt w p v) (o : O) : Calls Try.prog 10 #[.pointer (some ⟨p, 0, none⟩), .agg o.cells.toArray] w fun e w' => e = .returned (.bool (sets v o)) ∧ SAt w' p (setV v o) ∧ Turned [p] w w' := by
  obtain ⟨⟨u, u', S⟩, hg⟩ := h
  cases ho : o.ok with
  | false =>
    refine (set_held w p true _ 0 u 0 u' _ o S (.inr ho)).mono ?_
    rintro e w' ⟨rfl, hB⟩
    have e1 : setV v o = v := by simp [setV, ho]
    exact ⟨by simp [sets, ho], by rw [e1]; exact ⟨⟨u, u', S.below hB S.lt⟩, hg⟩, (Turned.of_below hB).mono (by simp)⟩
  | true =>
    cases v with
    | none =>
      refine (set_ok w p 0 u u' _ o S ho (.inl rfl)).mono ?_
      rintro e w' ⟨rfl, S', T⟩
      have e1 : setV none o = some o := by simp [setV, ho]
      exact ⟨by simp [sets, ho], by rw [e1]; exact ⟨⟨u, u', by simpa using S'⟩, fun x hx => by cases hx; exact ho⟩, T⟩
    | some x =>
      refine (set_ok w p 1 u u' _ o S ho (.inr rfl)).mono ?_
      rintro e w' ⟨rfl, S', T⟩
      have e1 : setV (some x) o = some x := by simp [setV]
      exact ⟨by simp [sets], by rw [e1]; exact ⟨⟨u, u', by simpa using S'⟩, hg⟩, T⟩
theorem set_no (w : World) (v : Value) (h : NoS w v) (o : O) : Calls Try.prog 10 #[v, .agg o.cells.toArray] w fun e w' => e = .returned (.bool false) ∧ Below w.heap.size w w' := by
  rcases h with rfl | ⟨p, rfl, S⟩
  · exact set_nil w o
  · exact set_held w p false 0 0 0 0 0 zeroO o S (.inl rfl)
section
variable {ρ : Operand → Value} {dst : Option Tmp} {x : Operand} {tt : TypeId} {pos : String} {af : Array Edge} {g : Option (Nat × Bool)} {w : World}
variable {y : Operand}
theorem execStoreO : (execOp ρ ⟨dst, .store TO x y, tt, pos, af, g⟩).run Try.prog w = stRun Try.prog TO w (ρ x) (ρ y) := exec_store _ _ _ _ _ _ _ _ _ _
theorem execLoadO : (execOp ρ ⟨dst, .load TO x, tt, pos, af, g⟩).run Try.prog w = ldRun Try.prog TO w (ρ x) := exec_load _ _ _ _ _ _ _ _ _
end
theorem ldO {w : World} {p : Nat} {m : Bool} {d l u k u' : Int} {o : O} (h : Blk w p TS (sc m d l u k u' o)) : ldRun Try.prog TO w (.pointer (some ⟨p, 6, none⟩)) = .ok (.value (.agg o.cells.toArray)) w := by
  have hr : w.rangeAt p 6 o.cells := h.range 6 6
  have := ldRun_row w p 6 TO o.cells.length _ Try.underlying29 rfl info_out (hasRow_of_range hr rfl)
  rwa [row_of_range hr rfl] at this
theorem stO {w : World} {b : Nat} {o o' : O} (h : Blk w b TO o.cells) : ∃ W, stRun Try.prog TO w (.pointer (some ⟨b, 0, none⟩)) (.agg o'.cells.toArray) = .ok .skip W ∧ Turned [b] w W ∧ Blk W b TO o'.cells :=
  ⟨_, stRun_row w b 0 TO 6 o'.cells.toArray info_out (h.there 0 6 (by simp [O.cells])) o'.cellsN, (turned_refl [b] w).setCells (.inl (by simp)) 0 _, by simpa [splice, O.cells] using h.sets o'.cells 0 (by simp [O.cells])⟩
attribute [local go_sem ↓] execLoadO execStoreO
theorem get_no (w : World) (v : Value) (h : NoS w v) : Calls Try.prog 11 #[v] w fun e w' => e = .returned (.tuple #[.agg zeroO.cells.toArray, .bool false]) ∧ Below w.heap.size w w' := by
  obtain ⟨d, hd, hdr⟩ := row_out
  replace hd := Lib.hid hd
  have N : ∀ W, Below w.heap.size w W → Calls Try.prog 12 #[v] W fun e w' => e = .returned (.bool true) ∧ w' = W := by
    intro W hB
    rcases h with rfl | ⟨p, rfl, S⟩
    · exact none_nil W
    · exact none_of W p false ((S.below hB S.lt).cell 0)
  replace N := Lib.hid N
  clear h
  go_enter_defers Try.func11, Try.ntmps11
  go_wp2_with (first
    | ((with_reducible show wpList _ _ _ (⟨_, .alloc _, _, _, _, _⟩ :: _) _ _); refine wpList_alloc_blk rfl TO rfl _ zero_out ?_; intro W3 B3 K3 S3; clear S3; replace N := Lib.hid (N.out W3 B3))
    | (go_at_call 12; refine N.out.mono ?_; rintro e w' ⟨rfl, rfl⟩)
    | ((with_reducible show wpList _ _ _ (⟨none, .store TO _ _, _, _, _, _⟩ :: _) _ _); refine wpList_store_blk rfl TO _ _ rfl w.heap.size TO zeroO.cells zeroO.cells 6 rfl rfl K3 rfl zeroO.cellsN info_out ?_; intro W4 T4 K4 S4; clear S4))
  refine ⟨_, results_cell2 (b := w.heap.size) (o := 0) (cs := zeroO.cells) Try.results11 rfl K4.rangeAll hd.out hdr info_out, ⟨rfl, B3.trans (T4.below B3.size (by simp))⟩⟩
theorem get_at (w : World) (p : Nat) (v : Option O) (h : SAt w p v) : Calls Try.prog 11 #[.pointer (some ⟨p, 0, none⟩)] w fun e w' => e = .returned (.tuple #[.agg (v.getD zeroO).cells.toArray, .bool v.isSome]) ∧ Below w.heap.size w w' := by
  obtain ⟨d, hd, hdr⟩ := row_out
  replace hd := Lib.hid hd
  obtain ⟨⟨u, u', S⟩, hg⟩ := h
  have hpl := S.lt
  have hk : decide ((v.getD zeroO).kind ≠ 0) = v.isSome := by
    cases v with
    | none => rfl
    | some o =>
      have := hg o rfl
      simp [O.ok] at this
      simp; omega
  replace hg := Lib.hid hg
  generalize hv : v.getD zeroO = o at *
  replace hv := Lib.hid hv
  generalize (if v.isSome then (1 : Int) else 0) = n at *
  replace hk := Lib.hid hk
  go_enter_defers Try.func11, Try.ntmps11
  go_upto_region 3 with (first
    | ((with_reducible show wpList _ _ _ (⟨_, .alloc _, _, _, _, _⟩ :: _) _ _); refine wpList_alloc_blk rfl TO rfl _ zero_out ?_; intro W3 B3 K3 S3; clear S3; have S4 := S.below B3 hpl)
    | (go_at_call 12; refine (none_of W3 p true (S4.cell 0)).mono ?_; rintro e W3 ⟨rfl, rfl⟩))
  have e4 := S4.cell 4
  have f4 := S4.free 4
  go_upto_region 4 with (go_at_call 17; refine (lock_free ⟨p, 4, none⟩ _ e4 f4).mono ?_; rintro e W5 ⟨rfl, hw⟩; replace hw := Lib.hid hw)
  have S5 : Blk W5 p TS (sc true n 0 u 1 u' o) := by rw [hw.out]; exact S4.set 4 _
  have hne : w.heap.size ≠ p := by omega
  have K5 : Blk W5 w.heap.size TO zeroO.cells := by rw [hw.out]; exact K3.setOther (a := ⟨p, 4, none⟩) hne _
  have T5 : Turned [p] w W5 := by rw [hw.out]; exact turned_setCell ((Turned.of_below B3).mono (by simp)) (by simp) _ _
  clear hw e4 f4 S4 K3 B3
  go_upto_region 5 with fail
  have g1 : ldRun Try.prog TO W5.drew (.pointer (some ⟨p, 6, none⟩)) = .ok (.value (.agg o.cells.toArray)) W5.drew := ldO (w := W5.drew) S5
  have g2 : W5.drew.cell? ⟨p, 6, none⟩ = some (.int .i64 o.kind) := S5.cell 6
  have g3 : W5.cell? ⟨p, 6, none⟩ = some (.int .i64 o.kind) := S5.cell 6
  obtain ⟨W7, g4, T7, K7⟩ := stO (w := W5.drew) (o' := o) K5
  have S7 : Blk W7 p TS (sc true n 0 u 1 u' o) := T7.blk S5 (by simpa using Ne.symm hne)
  have g5 : W7.cell? ⟨p, 6, none⟩ = some (.int .i64 o.kind) := S7.cell 6
  go_region
  clear g1 g2 g3 g4 g5
  go_wp2_with fail
  refine leaves_cons (f := 18) (args := #[.pointer (some ⟨p, 4, none⟩)]) (by simp) (by simp [go_sem]) ?_
  refine (unlock_deferred ⟨p, 4, none⟩ _ _ (S7.cell 4) (S7.free 4)).mono ?_
  rintro e u'' W8 ⟨rfl, rfl, hw⟩
  have S8 : Blk W8 p TS (sc true n 0 u 0 u' o) := by rw [hw]; exact S7.set 4 _
  have K8 : Blk W8 w.heap.size TO o.cells := by rw [hw]; exact K7.setOther (a := ⟨p, 4, none⟩) hne _
  have T8 : Turned [p] w W8 := by rw [hw]; exact turned_setCell (T5.trans (turned_drew_l T7) (fun k hk h => by simp at h; omega)) (by simp) _ _
  refine ⟨_, results_cell2 (b := w.heap.size) (o := 0) (cs := o.cells) Try.results11 rfl K8.rangeAll hd.out hdr info_out, ⟨?_, below_back T8 S S8⟩⟩
  rw [← hk.out, show decide (o.kind ≠ 0) = (o.kind != 0) by simp [bne, BEq.beq]]
  rfl
end Go.Proofs.Ytidfgighpdkfaaa.Sl
