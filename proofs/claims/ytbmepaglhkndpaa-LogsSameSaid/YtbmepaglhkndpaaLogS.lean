/-
  Contracts of the document's log (fairwayref11): Append, Look. Conditions: those that each names.
-/
import Derived.Test.YtbmepaglhkndpaaLogR
import Derived.Test.YtbmepaglhkndpaaCell
import Derived.Deep.RegionLaw
namespace Go.Proofs.Ytbmepaglhkndpaa.Logs
open Go.RowKit Go.Proofs.Ytbmepaglhkndpaa.Mem Go.Proofs.Ytbmepaglhkndpaa.Ops Go.Proofs.Ytbmepaglhkndpaa.Kv

theorem step_store_cell {P : Program} {ops : Array Oper} {o : Oper} {a : Act} {w : World} {K : Act → World → Prop} {Q : Exit → Act → World → Prop} {E : Prop} (hg : o.guard = none) (ty : TypeId) (x y : Operand) (ho : o.op = .store ty x y)
    (b off : Nat) (v : Value) (T : TypeId) (cs : List Value) (hx : a.eval x = .pointer (some ⟨b, off, none⟩)) (hy : a.eval y = v) (hb : Blk w b T cs) (hoc : off < cs.length) (hv : v.oneCell' = true) (hi : (P.info? ty).map (·.size) = some 1)
    (h : ∀ W, Turned [b] w W → Blk W b T (cs.set off v) → W.heap.size = w.heap.size → K (a.put o.dst undef) W) : if Region.wanted o (yielded ops a.tmps) = true then Oper.wp P o a w K Q else E := by
  have hw : Region.wanted o (yielded ops a.tmps) = true := by simp [Region.wanted, hg]
  rw [if_pos hw]
  have hr := run_storeAt_cell (P := P) w b off ty v hv (hb.there off 1 (by omega)) hi
  unfold Oper.wp execOp
  simp only [ho, hx, hy, Sem.run_bind, Sem.run_pure, Result.andThen_ok, hr]
  refine h _ ?_ ?_ ?_
  · exact (⟨rfl, rfl, rfl, Nat.le_refl _, fun _ _ _ => rfl⟩ : Turned [b] w w).setCells (.inl (by simp)) off _
  · have := hb.sets [v] off (by simp; omega)
    rwa [show splice cs off [v] = cs.set off v by
      unfold splice
      rw [List.set_eq_take_append_cons_drop, if_pos hoc]
      simp] at this
  · exact size_setCells _ _ _ _
theorem ldOp {w : World} {b : Nat} {e : E} (h : Blk w b TEn e.cells) : ldRun Try.prog TO w (.pointer (some ⟨b, 3, none⟩)) = .ok (.value (.agg e.op.cells.toArray)) w := by
  have hr : w.rangeAt b 3 e.op.cells := by simpa using range_eop (off := 0) h.rangeAll
  have := ldRun_row w b 3 TO 4 _ Try.underlying32 rfl info_op (hasRow_of_range (n := 4) hr rfl)
  rw [row_of_range (n := 4) hr rfl] at this
  exact this
section
variable (ρ : Operand → Value) (dst : Option Tmp) (x : Operand) (tt : TypeId) (pos : String) (af : Array Edge) (g : Option (Nat × Bool)) (w : World)
theorem execLoadEn : (execOp ρ ⟨dst, .load TEn x, tt, pos, af, g⟩).run Try.prog w = ldRun Try.prog TEn w (ρ x) := exec_load _ _ _ _ _ _ _ _ _
end
theorem ldEn {w : World} {b : Nat} {e : E} (h : Blk w b TEn e.cells) : ldRun Try.prog TEn w (.pointer (some ⟨b, 0, none⟩)) = .ok (.value (.agg e.cells.toArray)) w := by
  have := ldRun_row w b 0 TEn 7 _ Try.underlying34 rfl info_entryN (h.rows (n := 7) rfl).1
  rw [(h.rows (n := 7) rfl).2] at this
  exact this
section
variable (ρ : Operand → Value) (dst : Option Tmp) (x : Operand) (tt : TypeId) (pos : String) (af : Array Edge) (g : Option (Nat × Bool)) (w : World)
theorem execSliceEn : (execOp ρ ⟨dst, .buildSlice TEs 1 #[(0, x)], tt, pos, af, g⟩).run Try.prog w = s1Run Try.prog TEs w (ρ x) := exec_slice1 _ _ _ _ _ _ _ _ _
end
theorem sliceEn (w : World) (c : E) : s1Run Try.prog TEs w (.agg c.cells.toArray) = .ok (.value (.slice (some ⟨w.heap.size, 0, none⟩) 1 1)) (w.alloc (.cells c.cells.toArray TEn)) := by
  obtain ⟨i0, hi, hz0, hz1, hz2⟩ := info_parts info_entry
  exact s1Run_row w _ _ 7 _ i0 _ Try.underlying28 hi hz0 hz1 (by decide) (by decide) c.cellsN
attribute [local go_sem ↓] execLoadO execLoadR execLoadEn execSliceEn
attribute [local go_sem] sliceEn Held.alloc Held.drew
theorem info_sl : (Try.prog.info? TEs).map (·.size) = some 1 := by kernel_rfl
/-- What an append leads to. -/
def AppP (b base : Nat) (v : Value) (w : World) (L : List E) (y : E) (e : Ending) (w' : World) : Prop :=
  e = .returned (.tuple #[.agg (ans L y).cells.toArray, .int .i64 (err L y)]) ∧ ∃ v', RefAt w' b base v' (app L y) ∧ Turned [b] w w' ∧ (v' = v ∨ ∀ k, v'.ownBlock = some k → w.heap.size ≤ k)
set_option maxRecDepth 100000
set_option maxHeartbeats 8000000
theorem rappend_any (w : World) (b base : Nat) (v : Value) (L : List E) (h : RefAt w b base v L) (y : E) (hl : L.length ≤ 1000) (hbase : base ≤ w.heap.size) : Calls Try.prog 15 #[ptr b, .agg y.cells.toArray] w (AppP b base v w L y) := by
  obtain ⟨d, hd, hdr⟩ := row_res
  replace hd := Lib.hid hd
  have hbl := h.blk.lt
  have hvl := Lib.hid h.own.lt
  have CK := Lib.hid (fun w => rcheck_any y.op w)
  obtain ⟨aos, cps, hv, _⟩ := h.own.form
  replace h := Lib.hid h
  by_cases hb : bad y
  · have e1 : err L y = 2 := if_pos hb
    have e2 : app L y = L := by unfold app; rw [e1]; rfl
    have e3 : ans L y = zeroR := by unfold ans; rw [e1]; rfl
    unfold AppP
    rw [e1, e2, e3]
    clear e1 e2 e3
    subst hv
    have ways : y.client < 0 ∨ (¬ y.client < 0 ∧ 5 < y.client) ∨ (¬ y.client < 0 ∧ ¬ 5 < y.client ∧ y.seq < 1) ∨ (¬ y.client < 0 ∧ ¬ 5 < y.client ∧ ¬ y.seq < 1 ∧ y.op.check = 2) ∨ (¬ y.client < 0 ∧ ¬ 5 < y.client ∧ ¬ y.seq < 1 ∧ y.op.check = 3) ∨ (¬ y.client < 0 ∧ ¬ 5 < y.client ∧ ¬ y.seq < 1 ∧ y.op.check = 0 ∧ y.op.kind = 1) := by
      have := check_three y.op
      unfold bad at hb
      omega
    clear hb
    rcases ways with a1 | ⟨a1, a2⟩ | ⟨a1, a2, a3⟩ | ⟨a1, a2, a3, a4⟩ | ⟨a1, a2, a3, a4⟩ | ⟨a1, a2, a3, a4, a5⟩
    all_goals (try rw [a4] at CK); (try clear a4)
    all_goals
      go_enter Try.func15, Try.ntmps15
      go_wp2_with (first
        | ((with_reducible show wpList _ _ _ (⟨some 3, .box _ _, _, _, _, _⟩ :: _) _ _); refine wpList_box_blk rfl TEn _ rfl y.cells rfl ?_; intro w1 hn K1 S1; clear S1; have HK := ((Kept.start w).below hn).add K1; have RF := Lib.hid (h.out.below hn); have z1 := hn.size; clear hn K1)
        | ((with_reducible show wpList _ _ _ (⟨some 4, .alloc _, _, _, _, _⟩ :: _) _ _); refine wpList_alloc_blk rfl TR rfl _ zero_res ?_; intro w2 hn K2 S2; clear S2; have lo := HK.lt (List.mem_cons_self); replace RF := Lib.hid (RF.out.below hn); replace HK := (HK.below hn).add K2; have q0 := HK.cell (b := w.heap.size) (T := TEn) (cs := y.cells) (by simp) 0 rfl; have q1 := HK.cell (b := w.heap.size) (T := TEn) (cs := y.cells) (by simp) 1 rfl; have q2 := HK.cell (b := w.heap.size) (T := TEn) (cs := y.cells) (by simp) 2 rfl; have q3 := HK.cell (b := w.heap.size) (T := TEn) (cs := y.cells) (by simp) 3 rfl; have g0 := ldOp (HK.blk (b := w.heap.size) (cs := y.cells) (by simp)); have c0 := RF.out.blk.cell 0; clear hn K2; generalize w1.heap.size = b4 at *)
        | (go_at_call 33; refine (CK.out _).mono ?_; rintro e w4 ⟨rfl, hn⟩; replace RF := Lib.hid (RF.out.below hn); replace HK := HK.below hn; clear g0 q0 q1 q2 q3 c0 hn; have q0 := HK.cell (b := w.heap.size) (T := TEn) (cs := y.cells) (by simp) 0 rfl; have q1 := HK.cell (b := w.heap.size) (T := TEn) (cs := y.cells) (by simp) 1 rfl; have q2 := HK.cell (b := w.heap.size) (T := TEn) (cs := y.cells) (by simp) 2 rfl; have q3 := HK.cell (b := w.heap.size) (T := TEn) (cs := y.cells) (by simp) 3 rfl; have g0 := ldOp (HK.blk (b := w.heap.size) (cs := y.cells) (by simp)); have c0 := RF.out.blk.cell 0)
        | ((with_reducible show wpList _ _ _ (⟨none, .store TR (.tmp 4) _, _, _, _, _⟩ :: _) _ _); refine wpList_store_blk rfl TR _ _ rfl b4 TR zeroR.cells (zeroR).cells 4 rfl rfl (HK.blk (by simp)) rfl (Rs.cellsN _) info_res ?_; intro w9 T9 K9 S9; clear S9))
      refine bodyPost_ret (results_cell2 (b := b4) (o := 0) (cs := zeroR.cells) Try.results15 rfl K9.rangeAll hd.out hdr info_res) rfl ⟨rfl, _, RF.out.turned T9 (by simp; omega) (fun j hj e => by have := hvl.out j e; simp at hj; omega), (HK.1.trans T9 (by simp; omega)).mono (by simp), .inl rfl⟩
  · have a1 : ¬ y.client < 0 := by unfold bad at hb; omega
    have a2 : ¬ 5 < y.client := by unfold bad at hb; omega
    have a3 : ¬ y.seq < 1 := by unfold bad at hb; omega
    have a4 : y.op.check = 0 := by unfold bad at hb; omega
    have a5 : ¬ y.op.kind = 1 := by unfold bad at hb; omega
    rw [a4] at CK
    have he : err L y = if y.index ≠ (L.length : Int) + 1 then 70 else if y.seq ≤ (last L y.client).1 then 71 else 0 := by
      unfold err
      rw [if_neg hb, if_neg (by omega)]
    clear hb a4
    by_cases a6 : y.index = (L.length : Int) + 1
    · have LA := Lib.hid (fun (w1 : World) (h1 : RefAt w1 b base v L) => rlast_any w1 b base v L h1 y.client (by omega))
      rw [if_neg (fun h => h a6)] at he
      have t6 : (y.index != (L.length : Int) + 1) = false := by simp [a6]
      by_cases a7 : y.seq ≤ (last L y.client).1
      · have e1 : err L y = 71 := by rw [he, if_pos a7]
        have e2 : app L y = L := by unfold app; rw [e1]; rfl
        have e3 : ans L y = zeroR := by unfold ans; rw [e1]; rfl
        unfold AppP
        rw [e1, e2, e3]
        clear e1 e2 e3 he a6
        generalize (last L y.client).1 = l1 at *
        generalize (last L y.client).2 = l2 at *
        subst hv
        go_enter Try.func15, Try.ntmps15
        go_wp2_with (first
          | ((with_reducible show wpList _ _ _ (⟨some 3, .box _ _, _, _, _, _⟩ :: _) _ _); refine wpList_box_blk rfl TEn _ rfl y.cells rfl ?_; intro w1 hn K1 S1; clear S1; have HK := ((Kept.start w).below hn).add K1; have RF := Lib.hid (h.out.below hn); have z1 := hn.size; clear hn K1)
          | ((with_reducible show wpList _ _ _ (⟨some 4, .alloc _, _, _, _, _⟩ :: _) _ _); refine wpList_alloc_blk rfl TR rfl _ zero_res ?_; intro w2 hn K2 S2; clear S2; have lo := HK.lt (List.mem_cons_self); replace RF := Lib.hid (RF.out.below hn); replace HK := (HK.below hn).add K2; have q0 := HK.cell (b := w.heap.size) (T := TEn) (cs := y.cells) (by simp) 0 rfl; have q1 := HK.cell (b := w.heap.size) (T := TEn) (cs := y.cells) (by simp) 1 rfl; have q2 := HK.cell (b := w.heap.size) (T := TEn) (cs := y.cells) (by simp) 2 rfl; have q3 := HK.cell (b := w.heap.size) (T := TEn) (cs := y.cells) (by simp) 3 rfl; have g0 := ldOp (HK.blk (b := w.heap.size) (cs := y.cells) (by simp)); have c0 := RF.out.blk.cell 0; clear hn K2; generalize w1.heap.size = b4 at *)
          | (go_at_call 33; refine (CK.out _).mono ?_; rintro e w4 ⟨rfl, hn⟩; replace RF := Lib.hid (RF.out.below hn); replace HK := HK.below hn; clear g0 q0 q1 q2 q3 c0 hn; have q0 := HK.cell (b := w.heap.size) (T := TEn) (cs := y.cells) (by simp) 0 rfl; have q1 := HK.cell (b := w.heap.size) (T := TEn) (cs := y.cells) (by simp) 1 rfl; have q2 := HK.cell (b := w.heap.size) (T := TEn) (cs := y.cells) (by simp) 2 rfl; have q3 := HK.cell (b := w.heap.size) (T := TEn) (cs := y.cells) (by simp) 3 rfl; have g0 := ldOp (HK.blk (b := w.heap.size) (cs := y.cells) (by simp)); have c0 := RF.out.blk.cell 0)
          | (go_at_call 34; refine (LA.out _ RF.out).mono ?_; rintro e w5 ⟨rfl, rfl⟩)
          | ((with_reducible show wpList _ _ _ (⟨none, .store TR (.tmp 4) _, _, _, _, _⟩ :: _) _ _); refine wpList_store_blk rfl TR _ _ rfl b4 TR zeroR.cells (zeroR).cells 4 rfl rfl (HK.blk (by simp)) rfl (Rs.cellsN _) info_res ?_; intro w9 T9 K9 S9; clear S9))
        refine bodyPost_ret (results_cell2 (b := b4) (o := 0) (cs := zeroR.cells) Try.results15 rfl K9.rangeAll hd.out hdr info_res) rfl ⟨rfl, _, RF.out.turned T9 (by simp; omega) (fun j hj e => by have := hvl.out j e; simp at hj; omega), (HK.1.trans T9 (by simp; omega)).mono (by simp), .inl rfl⟩
      · have e1 : err L y = 0 := by rw [he, if_neg a7]
        have e2 : app L y = L ++ [y] := by unfold app; rw [e1]; rfl
        have e3 : ans L y = told (store L) ((L.length : Int) + 1) y.op := by unfold ans; rw [e1]; rfl
        unfold AppP
        rw [e1, e2, e3]
        have hrs := results_snoc L y
        have hrl := results_len L
        clear e1 e2 e3 he a6
        generalize (last L y.client).1 = l1 at *
        generalize (last L y.client).2 = l2 at *
        generalize told (store L) ((L.length : Int) + 1) y.op = R at *
        replace hrs := Lib.hid hrs
        replace hrl := Lib.hid hrl
        obtain ⟨i0, hi, hz0, hz1, hz2⟩ := info_parts info_entry
        replace hi := Lib.hid hi
        replace hz0 := Lib.hid hz0
        replace hz1 := Lib.hid hz1
        replace hz2 := Lib.hid hz2
        subst hv
        go_enter Try.func15, Try.ntmps15
        go_wp2_with (first
          | ((with_reducible show wpList _ _ _ (⟨some 3, .box _ _, _, _, _, _⟩ :: _) _ _); refine wpList_box_blk rfl TEn _ rfl y.cells rfl ?_; intro w1 hn K1 S1; clear S1; have HK := ((Kept.start w).below hn).add K1; have RF := Lib.hid (h.out.below hn); have z1 := hn.size; clear hn K1)
          | ((with_reducible show wpList _ _ _ (⟨some 4, .alloc _, _, _, _, _⟩ :: _) _ _); refine wpList_alloc_blk rfl TR rfl _ zero_res ?_; intro w2 hn K2 S2; clear S2; have lo := HK.lt (List.mem_cons_self); replace RF := Lib.hid (RF.out.below hn); replace HK := (HK.below hn).add K2; have q0 := HK.cell (b := w.heap.size) (T := TEn) (cs := y.cells) (by simp) 0 rfl; have q1 := HK.cell (b := w.heap.size) (T := TEn) (cs := y.cells) (by simp) 1 rfl; have q2 := HK.cell (b := w.heap.size) (T := TEn) (cs := y.cells) (by simp) 2 rfl; have q3 := HK.cell (b := w.heap.size) (T := TEn) (cs := y.cells) (by simp) 3 rfl; have g0 := ldOp (HK.blk (b := w.heap.size) (cs := y.cells) (by simp)); have c0 := RF.out.blk.cell 0; clear hn K2; generalize w1.heap.size = b4 at *)
          | (go_at_call 33; refine (CK.out _).mono ?_; rintro e w4 ⟨rfl, hn⟩; replace RF := Lib.hid (RF.out.below hn); replace HK := HK.below hn; clear g0 q0 q1 q2 q3 c0 hn; have q0 := HK.cell (b := w.heap.size) (T := TEn) (cs := y.cells) (by simp) 0 rfl; have q1 := HK.cell (b := w.heap.size) (T := TEn) (cs := y.cells) (by simp) 1 rfl; have q2 := HK.cell (b := w.heap.size) (T := TEn) (cs := y.cells) (by simp) 2 rfl; have q3 := HK.cell (b := w.heap.size) (T := TEn) (cs := y.cells) (by simp) 3 rfl; have g0 := ldOp (HK.blk (b := w.heap.size) (cs := y.cells) (by simp)); have c0 := RF.out.blk.cell 0)
          | (go_at_call 34; refine (LA.out _ RF.out).mono ?_; rintro e w5 ⟨rfl, rfl⟩))
        obtain ⟨X, rfl⟩ : ∃ X : World, X = w5 := ⟨_, rfl⟩
        have H0 : Held [] X X := Held.refl _ _
        have H0d : Held [] X X.drew := H0.drew
        obtain ⟨I1, SL1, hI1⟩ := RF.out.own.slAt
        have KB := RF.out.blk
        have KY : Blk X w.heap.size TEn y.cells := HK.blk (by simp)
        have C3 : ∀ w', Held [] X w' → w'.cell? ⟨b, 0, none⟩ = some (.slice aos L.length cps) := fun w' hw => (hw.blk KB (by simp)).cell 0
        have L3 : ∀ w', Held [] X w' → ldRun Try.prog TEn w' (.pointer (some ⟨w.heap.size, 0, none⟩)) = .ok (.value (.agg y.cells.toArray)) w' := fun w' hw => ldEn (hw.blk KY (by simp))
        have hsz := HK.1.size
        have hbX := KB.lt
        replace SL1 := Lib.hid SL1
        replace KB := Lib.hid KB
        replace KY := Lib.hid KY
        have r1 := Lib.hid (kE.row_len L)
        have o1 := Lib.hid (kE.row_cell L)
        clear q0 q1 q2 q3 g0 c0
        go_region_law (first
          | (refine step_append_sl rfl (.const (.slice none 0 0)) (.tmp 67) TEs rfl X.heap.size TEn i0 _ 7 72 Try.underlying28 hi.out hz0.out hz1.out hz2.out rfl (by decide) _ 0 [] rfl (World.ownsRow_nil _ _ _ _) _ L.length (kE.row L) I1 rfl (SlAt.held SL1.out (by repeat (first | assumption | exact Held.refl _ _ | apply Held.drew | apply Held.drewN | apply Held.alloc))) r1.out o1.out (by unfold maxLen; omega) (by omega) (by simp) ?_; intro v3 W4 hown4 hgrow4; simp only [Nat.zero_add, List.nil_append] at hown4; have hb4 := (Below.refl _ _).grown hgrow4 (Nat.le_refl _) (fun k hk => by cases hk); have hH4 : Held [] X W4 := Held.below (by repeat (first | assumption | exact Held.refl _ _ | apply Held.drew | apply Held.drewN | apply Held.alloc)) hb4)
          | (refine step_append_sl rfl (.tmp 68) (.tmp 70) TEs rfl X.heap.size TEn i0 _ 7 72 Try.underlying28 hi.out hz0.out hz1.out hz2.out rfl (by decide) _ L.length (kE.row L) rfl (hown4.alloc _) _ 1 y.cells [W4.heap.size] rfl ⟨_, 1, rfl, Nat.le_refl _, by simp [maxLen], (fun e => by cases e), fun a ha => by cases ha; exact ⟨fun _ => ⟨rfl, by simp⟩, (Blk.new W4 TEn y.cells).rangeAll⟩⟩ (by simp [E.cells, O.cells]) (by simp [E.cells, O.cells, Value.oneCell']) (by unfold maxLen; omega) (by omega) (by have := hH4.turned.size; simp; omega) ?_; intro v5 W5 hown5 hgrow5; obtain ⟨ao5, m5, cp5, rfl⟩ := owns_slice hown5; have hb5 := ((hH4.turned.below (Nat.le_refl _) (by simp)).alloc hH4.turned.size _).grown hgrow5 (by have := hH4.turned.size; simp; omega) (fun k hk => (hown4.lt k hk).1); have hH5 : Held [] X W5 := H0.below hb5; have B5 := hH5.blk KB.out (by simp); have cb : W5.cell? ⟨b, 0, none⟩ = some (.slice aos L.length cps) := B5.cell 0; have fb := B5.free 0; replace B5 := Lib.hid B5)
          | (refine step_append_sl rfl (.tmp 68) (.tmp 70) TEs rfl X.heap.size TEn i0 _ 7 72 Try.underlying28 hi.out hz0.out hz1.out hz2.out rfl (by decide) _ L.length (kE.row L) rfl hown4 _ 1 y.cells [X.heap.size] rfl ⟨_, 1, rfl, Nat.le_refl _, by simp [maxLen], (fun e => by cases e), fun a ha => by cases ha; exact ⟨fun _ => ⟨rfl, by simp⟩, ((Blk.new X.drew TEn y.cells).below hb4 (by simp)).rangeAll⟩⟩ (by simp [E.cells, O.cells]) (by simp [E.cells, O.cells, Value.oneCell']) (by unfold maxLen; omega) (by omega) (by have := hH4.turned.size; omega) ?_; intro v5 W5 hown5 hgrow5; obtain ⟨ao5, m5, cp5, rfl⟩ := owns_slice hown5; have hb5 := (hH4.turned.below (Nat.le_refl _) (by simp)).grown hgrow5 (by have := hH4.turned.size; omega) (fun k hk => (hown4.lt k hk).1); have hH5 : Held [] X W5 := H0.below hb5; have B5 := hH5.blk KB.out (by simp); have cb : W5.cell? ⟨b, 0, none⟩ = some (.slice aos L.length cps) := B5.cell 0; have fb := B5.free 0; replace B5 := Lib.hid B5))
        all_goals
          have hfin : kE.Own W5 X.heap.size (.slice ao5 m5 cp5) (L ++ [y]) := by
            show World.ownsRow _ _ _ _ _ _ _
            rw [List.length_append, kE.row_app, kE.row_one]
            exact hown5
          have hlt5 := hfin.lt
          have T5 : Turned [b] X (W5.setCell ⟨b, 0, none⟩ (.slice ao5 m5 cp5)) := (hH5.turned.mono (by simp)).setCell (.inl (by simp)) _
          have TB : Turned [b] W5 (W5.setCell ⟨b, 0, none⟩ (.slice ao5 m5 cp5)) := (⟨rfl, rfl, rfl, Nat.le_refl _, fun _ _ _ => rfl⟩ : Turned [b] W5 W5).setCell (.inl (by simp)) _
          have RF5 : RefAt (W5.setCell ⟨b, 0, none⟩ (.slice ao5 m5 cp5)) b base (.slice ao5 m5 cp5) (L ++ [y]) := ⟨by have := B5.out.set 0 (.slice ao5 m5 cp5); simpa using this, (hfin.lower (by omega)).turned TB (fun j hj e => by have := (hlt5 j e).1; simp at hj; omega)⟩
          have K4 : Blk (W5.setCell ⟨b, 0, none⟩ (.slice ao5 m5 cp5)) b4 TR zeroR.cells := TB.blk (hH5.blk (HK.blk (b := b4) (by simp)) (by simp)) (by simp; omega)
          have TW : Turned [b] w (W5.setCell ⟨b, 0, none⟩ (.slice ao5 m5 cp5)) := (HK.1.mono (by simp)).trans T5 (by simp)
          have hnew : ∀ j, (Value.slice ao5 m5 cp5).ownBlock = some j → w.heap.size ≤ j := fun j hj => by have := (hlt5 j hj).1; omega
          have hsz2 : w.heap.size ≤ (W5.setCell ⟨b, 0, none⟩ (.slice ao5 m5 cp5)).heap.size := TW.size
          have hl5 : ∀ j, (Value.slice ao5 m5 cp5).ownBlock = some j → j ≠ b4 := fun j hj e => by have h4 := HK.lt (b := b4) (T := TR) (cs := zeroR.cells) (by simp); have := (hlt5 j hj).1; omega
          generalize hX2 : W5.setCell ⟨b, 0, none⟩ (.slice ao5 m5 cp5) = X2 at *
          clear hfin TB T5 cb fb B5 hb5 hH5 hown5 hgrow5 hown4 hgrow4 hb4 hH4 hX2 C3 L3 H0 H0d SL1 KB KY HK RF hlt5 r1 o1
          replace RF5 := Lib.hid RF5
          replace hnew := Lib.hid hnew
          replace hl5 := Lib.hid hl5
          go_wp2_with (first
            | (go_at_call 29; refine (rcells_any _ b base _ (L ++ [y]) RF5.out (by simp; omega)).mono ?_; rintro e w6 ⟨c6, out6, rfl, _, hO6, hn⟩; obtain ⟨g6, cap6, hv6, _, hg6, hr6⟩ := hO6.at (i := L.length) (c := R) (by rw [hrs.out]; simp [← hrl.out]); rw [show (results (L ++ [y])).length = L.length + 1 by rw [hrs.out]; simp [hrl.out]] at hv6; subst hv6; have RF6 := Lib.hid (RF5.out.below hn); have K6 := K4.below hn K4.lt; have TW6 := TW.trans (Turned.of_below hn) (by simp); clear hO6 hn K4)
            | ((with_reducible show wpList _ _ _ (⟨some 82, .load TR _, _, _, _, _⟩ :: _) _ _); refine wpList_load_mid rfl TR _ rfl g6 (L.length * 4) rfl R.cells d hr6 hd.out hdr info_res ?_)
            | ((with_reducible show wpList _ _ _ (⟨none, .store TR (.tmp 4) _, _, _, _, _⟩ :: _) _ _); refine wpList_store_blk rfl TR _ _ rfl b4 TR zeroR.cells R.cells 4 rfl rfl K6 rfl (Rs.cellsN _) info_res ?_; intro w9 T9 K9 S9; clear S9))
          refine bodyPost_ret (results_cell2 (b := b4) (o := 0) (cs := R.cells) Try.results15 rfl K9.rangeAll hd.out hdr info_res) rfl ⟨rfl, _, RF6.out.turned T9 (by simp; omega) (fun j hj e => by have := hl5.out j e; simp at hj; omega), TW6.trans T9 (by simp; omega), .inr hnew.out⟩
    · have e1 : err L y = 70 := by rw [he, if_pos a6]
      have e2 : app L y = L := by unfold app; rw [e1]; rfl
      have e3 : ans L y = zeroR := by unfold ans; rw [e1]; rfl
      unfold AppP
      rw [e1, e2, e3]
      have t6 : (y.index != (L.length : Int) + 1) = true := by simpa using a6
      clear e1 e2 e3 he
      replace a6 := Lib.hid a6
      subst hv
      go_enter Try.func15, Try.ntmps15
      go_wp2_with (first
        | ((with_reducible show wpList _ _ _ (⟨some 3, .box _ _, _, _, _, _⟩ :: _) _ _); refine wpList_box_blk rfl TEn _ rfl y.cells rfl ?_; intro w1 hn K1 S1; clear S1; have HK := ((Kept.start w).below hn).add K1; have RF := Lib.hid (h.out.below hn); have z1 := hn.size; clear hn K1)
        | ((with_reducible show wpList _ _ _ (⟨some 4, .alloc _, _, _, _, _⟩ :: _) _ _); refine wpList_alloc_blk rfl TR rfl _ zero_res ?_; intro w2 hn K2 S2; clear S2; have lo := HK.lt (List.mem_cons_self); replace RF := Lib.hid (RF.out.below hn); replace HK := (HK.below hn).add K2; have q0 := HK.cell (b := w.heap.size) (T := TEn) (cs := y.cells) (by simp) 0 rfl; have q1 := HK.cell (b := w.heap.size) (T := TEn) (cs := y.cells) (by simp) 1 rfl; have q2 := HK.cell (b := w.heap.size) (T := TEn) (cs := y.cells) (by simp) 2 rfl; have q3 := HK.cell (b := w.heap.size) (T := TEn) (cs := y.cells) (by simp) 3 rfl; have g0 := ldOp (HK.blk (b := w.heap.size) (cs := y.cells) (by simp)); have c0 := RF.out.blk.cell 0; clear hn K2; generalize w1.heap.size = b4 at *)
        | (go_at_call 33; refine (CK.out _).mono ?_; rintro e w4 ⟨rfl, hn⟩; replace RF := Lib.hid (RF.out.below hn); replace HK := HK.below hn; clear g0 q0 q1 q2 q3 c0 hn; have q0 := HK.cell (b := w.heap.size) (T := TEn) (cs := y.cells) (by simp) 0 rfl; have q1 := HK.cell (b := w.heap.size) (T := TEn) (cs := y.cells) (by simp) 1 rfl; have q2 := HK.cell (b := w.heap.size) (T := TEn) (cs := y.cells) (by simp) 2 rfl; have q3 := HK.cell (b := w.heap.size) (T := TEn) (cs := y.cells) (by simp) 3 rfl; have g0 := ldOp (HK.blk (b := w.heap.size) (cs := y.cells) (by simp)); have c0 := RF.out.blk.cell 0)
        | ((with_reducible show wpList _ _ _ (⟨none, .store TR (.tmp 4) _, _, _, _, _⟩ :: _) _ _); refine wpList_store_blk rfl TR _ _ rfl b4 TR zeroR.cells (zeroR).cells 4 rfl rfl (HK.blk (by simp)) rfl (Rs.cellsN _) info_res ?_; intro w9 T9 K9 S9; clear S9))
      refine bodyPost_ret (results_cell2 (b := b4) (o := 0) (cs := zeroR.cells) Try.results15 rfl K9.rangeAll hd.out hdr info_res) rfl ⟨rfl, _, RF.out.turned T9 (by simp; omega) (fun j hj e => by have := hvl.out j e; simp at hj; omega), (HK.1.trans T9 (by simp; omega)).mono (by simp), .inl rfl⟩

theorem rlog_look_any (w : World) (b base : Nat) (v : Value) (L : List E) (h : RefAt w b base v L) (key : List UInt8) (hl : L.length ≤ 4096) : Calls Try.prog 11 #[ptr b, .string ⟨key.toArray⟩] w fun e w' => e = .returned (.agg (Kv.look (store L) key L.length).cells.toArray) ∧ Below w.heap.size w w' := by
  obtain ⟨d, hd, hdr⟩ := row_res
  replace hd := Lib.hid hd
  obtain ⟨aos, cps, hv, _⟩ := h.own.form
  subst hv
  replace h := Lib.hid h
  have hsl := store_len L
  have LK := Lib.hid (fun (w1 : World) (bs : Nat) (c : Value) (h1 : CsO w1 bs c (store L)) => rlook_any w1 bs c (store L) h1 key (L.length : Int) (by omega))
  unfold LookP at LK
  generalize Kv.look (store L) key (L.length : Int) = R at *
  go_enter Try.func11, Try.ntmps11
  go_wp2_with (first
    | ((with_reducible show wpList _ _ _ (⟨some 4, .alloc _, _, _, _, _⟩ :: _) _ _); refine wpList_alloc_blk rfl TR rfl _ zero_res ?_; intro w1 hn K1 S1; clear S1; have HK := ((Kept.start w).below hn).add K1; replace h := Lib.hid (h.out.below hn); clear hn K1)
    | (go_at_call 29; refine (rcells_any _ b base _ L h.out hl).mono ?_; rintro e w2 ⟨c2, out2, rfl, hC, _, hn⟩; replace HK := HK.below hn; replace h := Lib.hid (h.out.below hn); have c0 := h.out.blk.cell 0; clear hn)
    | (go_at_call 30; refine (LK.out _ _ _ hC).mono ?_; rintro e w3 ⟨rfl, hn⟩; replace HK := HK.below hn; clear hn c0)
    | ((with_reducible show wpList _ _ _ (⟨none, .store TR (.tmp 4) _, _, _, _, _⟩ :: _) _ _); refine wpList_store_blk rfl TR _ _ rfl w.heap.size TR zeroR.cells R.cells 4 rfl rfl (HK.blk (by simp)) rfl (Rs.cellsN _) info_res ?_; intro w9 T9 K9 S9; clear S9))
  exact bodyPost_ret (results_cell1 (b := w.heap.size) (o := 0) (cs := R.cells) Try.results11 rfl K9.rangeAll hd.out hdr info_res) rfl ⟨rfl, HK.ends.trans (T9.below HK.ends.size (by simp))⟩
end Go.Proofs.Ytbmepaglhkndpaa.Logs
