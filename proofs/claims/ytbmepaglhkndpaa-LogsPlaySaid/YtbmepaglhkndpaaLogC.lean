/-
  What the laws of layer 11 call besides: Alike. Conditions: those that each names.
-/
import Derived.Test.YtbmepaglhkndpaaLogB
import Derived.Deep.LoopGhost
namespace Go.Proofs.Ytbmepaglhkndpaa.Logs
open Go.RowKit Go.Proofs.Ytbmepaglhkndpaa.Mem Go.Proofs.Ytbmepaglhkndpaa.Ops Go.Proofs.Ytbmepaglhkndpaa.Kv

set_option maxRecDepth 20000 in
theorem equal_ent (e : E) (w : World) : (Op.equalIn 10000 TEn (.agg e.cells.toArray) (.agg e.cells.toArray)).run Try.prog w = .ok true w := by
  have hS : Try.prog.underlying TEn = some (.struct (Try.prog.fieldsOf TEn)) := by kernel_rfl
  have hp : Try.prog.stoodInHeld TEn = false := by kernel_rfl
  rw [show (10000 : Nat) = 9999 + 1 from rfl, run_equalIn_agg w 9999 TEn _ _ hS hp]
  clear hS hp
  have u3 := Try.underlying3
  have u9 := Try.underlying9
  have u32 := Try.underlying32
  simp only [Program.fieldsOf, Try.underlying34]
  simp [Op.eqFields, go_sem, u3, u9, u32, E.cells, O.cells]
theorem neq_ent (e : E) (w : World) : (binOp .neq TEn (.agg e.cells.toArray) (.agg e.cells.toArray)).run Try.prog w = .ok (.bool false) w := by rw [run_neq_struct, equal_ent]; rfl
theorem guard_ent (op : BinOp) (x y : Operand) (e : E) (w : World) : (eqGuard op TEn x y (.agg e.cells.toArray) (.agg e.cells.toArray)).run Try.prog w = .ok () w := run_eqGuard_agg w op TEn x y _ _ (by kernel_rfl)
theorem ldEnAt {w : World} {b off : Nat} {e : E} (hr : w.rangeAt b off e.cells) : ldRun Try.prog TEn w (.pointer (some ⟨b, off, none⟩)) = .ok (.value (.agg e.cells.toArray)) w := by
  have := ldRun_row w b off TEn 7 _ Try.underlying34 rfl info_entryN (hasRow_of_range (n := 7) hr rfl)
  rw [row_of_range (n := 7) hr rfl] at this
  exact this
theorem ldRAt {w : World} {b off : Nat} {e : Rs} (hr : w.rangeAt b off e.cells) : ldRun Try.prog TR w (.pointer (some ⟨b, off, none⟩)) = .ok (.value (.agg e.cells.toArray)) w := by
  have := ldRun_row w b off TR 4 _ Try.underlying38 rfl info_res (hasRow_of_range (n := 4) hr rfl)
  rw [row_of_range (n := 4) hr rfl] at this
  exact this
/-- The program's log and the document's of the same entries. -/
theorem in_at {L : List E} {i : Int} (h : inL L i = false) : entAt L i = zeroE ∧ resAt L i = zeroR := by
  unfold entAt resAt
  rw [h]
  exact ⟨rfl, rfl⟩
theorem at_in {L : List E} {j : Nat} {e : E} {r : Rs} (he : L[j]? = some e) (hr : (results L)[j]? = some r) : inL L ((j : Int) + 1) = true ∧ entAt L ((j : Int) + 1) = e ∧ resAt L ((j : Int) + 1) = r := by
  have hj := (List.getElem?_eq_some_iff.1 he).1
  have h1 : inL L ((j : Int) + 1) = true := by unfold inL; simp; omega
  refine ⟨h1, ?_, ?_⟩
  · unfold entAt
    rw [if_pos h1, show ((j : Int) + 1 - 1).toNat = j by omega, he]
    rfl
  · unfold resAt
    rw [if_pos h1, show ((j : Int) + 1 - 1).toNat = j by omega, hr]
    rfl
theorem in_no {L : List E} {k : Nat} (h : k = 0 ∨ L.length < k) : inL L (k : Int) = false := by
  unfold inL
  rcases h with rfl | h
  · rfl
  · have : decide ((k : Int) ≤ L.length) = false := decide_eq_false (by omega)
    rw [this, Bool.and_false]
set_option maxRecDepth 100000
set_option maxHeartbeats 4000000 in
attribute [local go_sem ↓] execLoadR execLoadEn in
theorem alike_any (w : World) (p : Nat) (S : List Nat) (b base : Nat) (v : Value) (L : List E) (h : LgAt w p S L) (hk : RefAt w b base v L) (hl : L.length ≤ 1000) : Calls Try.prog 17 #[ptr p, ptr b] w fun e w' => e = .returned (.bool true) ∧ Below w.heap.size w w' := by
  obtain ⟨av, cv, hv, -⟩ := hk.own.form
  subst hv
  have stL := Lib.hid (fun (w1 w2 : World) (h1 : LgAt w1 p S L) (hb : Below w1.heap.size w1 w2) => (h1.keep (Turned.of_below hb) (by simp) : LgAt w2 p S L))
  have hrl := results_len L
  replace h := Lib.hid h
  replace hk := Lib.hid hk
  go_enter Try.func17, Try.ntmps17
  go_wp2_with (first
    | (go_at_call 29; refine (rcells_any _ b base _ L hk.out (by omega)).mono ?_; rintro e w1 ⟨c1, out, rfl, -, hO, hn⟩; have hLg := Lib.hid (stL.out _ _ h.out hn); have hRf := Lib.hid (hk.out.below hn); have hB := hn; clear hn)
    | (go_at_call 21; refine (lg_entries _ p S L hLg.out).mono ?_; rintro e w2 ⟨m, rfl, hM, hn⟩; replace hLg := Lib.hid (stL.out _ _ hLg.out hn); replace hRf := Lib.hid (hRf.out.below hn); replace hO := Lib.hid (hO.below hn); replace hB := bel hB hn; obtain ⟨am, cm, hm, -⟩ := hM.form; subst hm; replace hM := Lib.hid hM; clear hn))
  obtain ⟨Sc, s0, sK, sB⟩ : ∃ Sc : World → Prop, Sc w2.drew ∧ (∀ W, Sc W → Below w2.heap.size w2 W) ∧ (∀ W W', Sc W → Below W.heap.size W W' → Sc W') := ⟨fun W => Below w2.heap.size w2 W, ⟨rfl, rfl, rfl, Nat.le_refl _, fun _ _ => rfl⟩, fun _ h => h, fun _ _ h hb => bel h hb⟩
  haveI : Nonempty (Wd Sc) := ⟨⟨_, s0⟩⟩
  have g1 : ∀ z : Wd Sc, z.w.cell? ⟨b, 0, none⟩ = some (.slice av L.length cv) := fun z => (hRf.out.below (sK _ z.h)).blk.cell 0
  have LN := Lib.hid (fun z : Wd Sc => lg_len z.w p S L (stL.out _ _ hLg.out (sK _ z.h)))
  replace sK := Lib.hid sK
  replace sB := Lib.hid sB
  refine wp_region_wd Sc s0 (by kernel_rfl) (by kernel_rfl) ?_
  repeat (go_big_quiet_step (exact Wd.call (LN.out _) sB.out))
  refine wpQuiet_nil ?_
  rintro _ ⟨z, rfl⟩
  have hBq := sK.out _ z.h
  generalize z.w = w3 at *
  clear g1
  replace hLg := Lib.hid (stL.out _ _ hLg.out hBq)
  replace hRf := Lib.hid (hRf.out.below hBq)
  replace hO := Lib.hid (hO.out.below hBq)
  replace hM := Lib.hid (hM.out.below hBq)
  replace hB := bel hB hBq
  clear hBq LN
  obtain ⟨ar, cr, hr, -⟩ := hO.out.form
  rw [hrl] at hr
  subst hr
  replace hrl := Lib.hid hrl
  replace h := Lib.hid hLg.out
  have hlS := Lib.hid h.out.lt
  have c00 := hRf.out.blk.cell 0
  go_wp2_with fail
  go_loopg [8] (L.length + 2) (fun g i wr => ∃ k : Nat, g = L.length + 2 - k ∧ k ≤ L.length + 2 ∧ i = .int .i64 (k : Int) ∧ Below w3.heap.size w3 wr)
  case atStart => exact ⟨0, rfl, Nat.zero_le _, rfl, Below.refl _ _⟩
  case round =>
    obtain ⟨k, hg, hk, rfl, hBr⟩ := hrel
    replace hg := Lib.hid hg
    replace hLg := Lib.hid (stL.out _ _ h.out hBr)
    have hlr := Nat.le_refl wr.heap.size
    replace hRf := Lib.hid (hRf.out.below hBr)
    replace hO := Lib.hid (hO.out.below hBr)
    replace hM := Lib.hid (hM.out.below hBr)
    replace hlS := Lib.hid hLg.out.lt
    clear c00 h
    have c0r := hRf.out.blk.cell 0
    replace c0r : wr.cell? ⟨b, 0, none⟩ = some (.slice av L.length cv) := c0r
    by_cases hend : k = L.length + 2
    · have hkl : ¬ (k : Int) ≤ (L.length : Int) + 1 := by omega
      replace hend := Lib.hid hend
      clear hO hM hg
      replace hB := bel hB hBr
      clear hBr
      obtain ⟨w4, rfl⟩ : ∃ w4 : World, w4 = wr := ⟨_, rfl⟩
      go_wp2_with fail
      go_loopg [14] 10 (fun g i ws => ∃ q : Nat, g = 10 - q ∧ q ≤ 9 ∧ i = .int .i64 ((q : Int) - 1) ∧ Below w4.heap.size w4 ws)
      case atStart => exact ⟨0, rfl, Nat.zero_le _, rfl, Below.refl _ _⟩
      case round =>
        obtain ⟨q, hg, hq, rfl, hBs⟩ := hrel
        replace hg := Lib.hid hg
        by_cases h9 : (q : Int) - 1 < 8
        · have LA := Lib.hid (fun (w1 : World) (h1 : LgAt w1 p S L) => lg_last w1 p S L h1 ((q : Int) - 1))
          have LB := Lib.hid (fun (w1 : World) (h1 : RefAt w1 b base (.slice av L.length cv) L) => rlast_any w1 b base _ L h1 ((q : Int) - 1) (by omega))
          generalize last L ((q : Int) - 1) = R at *
          replace hRf := Lib.hid (hRf.out.below hBs)
          go_wp2_with (first
            | (go_at_call 20; refine (LA.out _ (stL.out _ _ hLg.out hBs)).mono ?_; rintro e w5 ⟨rfl, hn⟩; replace hRf := Lib.hid (hRf.out.below hn); have hB5 := bel hBs hn; clear hn)
            | (go_at_call 34; refine (LB.out _ hRf.out).mono ?_; rintro e w6 ⟨rfl, rfl⟩))
          go_roundg (10 - (q + 1))
          case measure => have := hg.out; omega
          case rel => exact ⟨q + 1, rfl, by omega, by rw [show ((q + 1 : Nat) : Int) - 1 = (q : Int) by omega], hB5⟩
        · go_wp2_with fail
          go_ret
          exact ⟨rfl, bel hB hBs⟩
    · have hkl : (k : Int) ≤ (L.length : Int) + 1 := by omega
      have hll : (L.length : Int) ≤ 1000 := by omega
      have AT := Lib.hid (fun (w1 : World) (h1 : LgAt w1 p S L) => lg_at w1 p S L h1 (k : Int) (by omega))
      have RS := Lib.hid (fun (w1 : World) (h1 : LgAt w1 p S L) => lg_result w1 p S L h1 (k : Int) (by omega))
      by_cases hin : 1 ≤ k ∧ k ≤ L.length
      · obtain ⟨j, rfl⟩ : ∃ j, k = j + 1 := ⟨k - 1, by omega⟩
        obtain ⟨e, he⟩ : ∃ e, L[j]? = some e := ⟨_, List.getElem?_eq_getElem (by omega)⟩
        obtain ⟨r, hr⟩ : ∃ r, (results L)[j]? = some r := ⟨_, List.getElem?_eq_getElem (by have := hrl.out; omega)⟩
        rw [show ((j + 1 : Nat) : Int) = (j : Int) + 1 by omega] at *
        obtain ⟨i1, i2, i3⟩ := at_in he hr
        rw [i1, i2] at AT
        rw [i1, i3] at RS
        obtain ⟨gv, cv', e1, _, v1, v2⟩ := hRf.out.own.at he
        obtain ⟨gm, cm', e2, _, m1, m2⟩ := hM.out.at he
        obtain ⟨gr, cr', e3, _, r1, r2⟩ := hO.out.at hr
        obtain ⟨rfl, rfl⟩ : av = some ⟨gv, 0, none⟩ ∧ cv = cv' := by cases e1; exact ⟨rfl, rfl⟩
        obtain ⟨rfl, rfl⟩ : am = some ⟨gm, 0, none⟩ ∧ cm = cm' := by cases e2; exact ⟨rfl, rfl⟩
        obtain ⟨rfl, rfl⟩ : ar = some ⟨gr, 0, none⟩ ∧ cr = cr' := by injection e3 with e31 _ e32; exact ⟨e31, e32⟩
        clear e1 e2 e3 i1 i2 i3 he hr
        replace v2 := Lib.hid v2
        replace m2 := Lib.hid m2
        replace r2 := Lib.hid r2
        have tin : decide ((j : Int) + 1 ≤ (L.length : Int)) = true := decide_eq_true (by omega)
        go_wp2_with (first
          | (go_at_call 18; refine (AT.out _ hLg.out).mono ?_; rintro e w5 ⟨rfl, hn⟩; have HK := (Sep.start wr).below hn; replace hLg := Lib.hid (stL.out _ _ hLg.out hn); clear hn)
          | ((with_reducible show wpList _ _ _ (⟨some 9, .alloc _, _, _, _, _⟩ :: _) _ _); refine wpList_alloc_blk rfl TEn rfl _ zero_entry ?_; intro w6 hn K6 S6; clear S6; replace HK := HK.pushBlk hn K6; replace hLg := Lib.hid (stL.out _ _ hLg.out hn); clear hn K6; generalize w5.heap.size = b9 at *)
          | ((with_reducible show wpList _ _ _ (⟨none, .store TEn (.tmp 9) _, _, _, _, _⟩ :: _) _ _); refine wpList_store_blk rfl TEn _ _ rfl b9 TEn zeroE.cells (e).cells 7 rfl rfl (HK.blk (by simp)) rfl (E.cellsN _) info_entryN ?_; intro w7 T7 K7 S7; clear S7; have hb9 := HK.new (blkOb b9 TEn zeroE.cells) (by simp) b9 (by simp [blkOb]); replace HK := HK.turn [] T7 K7; replace hLg := Lib.hid (hLg.out.keep T7 (fun x hx e => by have := hlS.out x hx; simp at e; omega)); clear T7 K7)
          | (go_at_call 19; refine (RS.out _ hLg.out).mono ?_; rintro e w8 ⟨rfl, hn⟩; replace HK := HK.below hn; clear hn)
          | ((with_reducible show wpList _ _ _ (⟨some 11, .alloc _, _, _, _, _⟩ :: _) _ _); refine wpList_alloc_blk rfl TR rfl _ zero_res ?_; intro w9 hn K6 S6; clear S6; replace HK := HK.pushBlk hn K6; clear hn K6; generalize w8.heap.size = b11 at *)
          | ((with_reducible show wpList _ _ _ (⟨none, .store TR (.tmp 11) _, _, _, _, _⟩ :: _) _ _); refine wpList_store_blk rfl TR _ _ rfl b11 TR zeroR.cells (r).cells 4 rfl rfl (HK.blk (by simp)) rfl (Rs.cellsN _) info_res ?_; intro wa T7 K7 S7; clear S7; replace HK := HK.turn [] T7 K7; have c0 : wa.cell? ⟨b, 0, none⟩ = some (.slice _ L.length cv) := (hRf.out.below HK.ends).blk.cell 0; clear T7 K7))
        obtain ⟨Sc, s0, sK⟩ : ∃ Sc : World → Prop, Sc wa.drew ∧ (∀ W, Sc W → W = wa.drew) := ⟨fun W => W = wa.drew, rfl, fun _ h => h⟩
        haveI : Nonempty (Wd Sc) := ⟨⟨_, s0⟩⟩
        have HD := HK.drew
        have BD : Below wr.heap.size wr wa.drew := HD.ends
        have G0 : True := trivial
        have g9 : ∀ z : Wd Sc, ldRun Try.prog TEn z.w (.pointer (some ⟨b9, 0, none⟩)) = .ok (.value (.agg e.cells.toArray)) z.w := fun z => by rw [sK _ z.h]; exact ldEn (HD.blk (b := b9) (T := TEn) (cs := e.cells) (by simp))
        have g11 : ∀ z : Wd Sc, ldRun Try.prog TR z.w (.pointer (some ⟨b11, 0, none⟩)) = .ok (.value (.agg r.cells.toArray)) z.w := fun z => by rw [sK _ z.h]; exact ldR (HD.blk (b := b11) (T := TR) (cs := r.cells) (by simp))
        have gb : ∀ z : Wd Sc, z.w.cell? ⟨b, 0, none⟩ = some (.slice (some ⟨gv, 0, none⟩) L.length cv) := fun z => by rw [sK _ z.h]; exact (hRf.out.below BD).blk.cell 0
        have hgv : ∀ z : Wd Sc, ldRun Try.prog TEn z.w (.pointer (some ⟨gv, j * 7, none⟩)) = .ok (.value (.agg e.cells.toArray)) z.w := fun z => by rw [sK _ z.h]; exact ldEnAt (rangeAt_below v2.out BD (fun _ => v1))
        have hgm : ∀ z : Wd Sc, ldRun Try.prog TEn z.w (.pointer (some ⟨gm, j * 7, none⟩)) = .ok (.value (.agg e.cells.toArray)) z.w := fun z => by rw [sK _ z.h]; exact ldEnAt (rangeAt_below m2.out BD (fun _ => m1))
        have hgr : ∀ z : Wd Sc, ldRun Try.prog TR z.w (.pointer (some ⟨gr, j * 4, none⟩)) = .ok (.value (.agg r.cells.toArray)) z.w := fun z => by rw [sK _ z.h]; exact ldRAt (rangeAt_below r2.out BD (fun _ => r1))
        have q1 := neq_ent e
        have u1 := fun op x y => guard_ent op x y e
        have q2 := neq_res r
        have u2 := fun op x y => guard_res op x y r
        have hjl : (j : Int) < (L.length : Int) := by omega
        replace sK := Lib.hid sK
        refine wp_region_wd Sc s0 (by kernel_rfl) (by kernel_rfl) ?_
        repeat (go_big_quiet_step (fail))
        refine wpQuiet_nil ?_
        rintro _ ⟨z, rfl⟩
        have hz := sK.out _ z.h
        generalize z.w = W9 at *
        subst hz
        clear g9 g11 gb hgv hgm hgr q1 u1 q2 u2
        go_wp2_with fail
        go_roundg (L.length + 2 - (j + 1 + 1))
        case measure => have := hg.out; omega
        case rel => exact ⟨j + 1 + 1, rfl, by omega, by rw [show ((j + 1 + 1 : Nat) : Int) = (j : Int) + 1 + 1 by omega], bel hBr BD⟩
      · have hno := in_no (L := L) (k := k) (by omega)
        obtain ⟨i2, i3⟩ := in_at hno
        rw [hno, i2] at AT
        rw [hno, i3] at RS
        clear i2 i3 hno
        have hks : (¬ 1 ≤ (k : Int)) ∨ (1 ≤ (k : Int) ∧ ¬ (k : Int) ≤ (L.length : Int)) := by omega
        clear hin
        rcases hks with a1 | ⟨a1, a2⟩
        · have tin := a1
          go_wp2_with (first
            | (go_at_call 18; refine (AT.out _ hLg.out).mono ?_; rintro e w5 ⟨rfl, hn⟩; have HK := (Sep.start wr).below hn; replace hLg := Lib.hid (stL.out _ _ hLg.out hn); clear hn)
            | ((with_reducible show wpList _ _ _ (⟨some 9, .alloc _, _, _, _, _⟩ :: _) _ _); refine wpList_alloc_blk rfl TEn rfl _ zero_entry ?_; intro w6 hn K6 S6; clear S6; replace HK := HK.pushBlk hn K6; replace hLg := Lib.hid (stL.out _ _ hLg.out hn); clear hn K6; generalize w5.heap.size = b9 at *)
            | ((with_reducible show wpList _ _ _ (⟨none, .store TEn (.tmp 9) _, _, _, _, _⟩ :: _) _ _); refine wpList_store_blk rfl TEn _ _ rfl b9 TEn zeroE.cells (zeroE).cells 7 rfl rfl (HK.blk (by simp)) rfl (E.cellsN _) info_entryN ?_; intro w7 T7 K7 S7; clear S7; have hb9 := HK.new (blkOb b9 TEn zeroE.cells) (by simp) b9 (by simp [blkOb]); replace HK := HK.turn [] T7 K7; replace hLg := Lib.hid (hLg.out.keep T7 (fun x hx e => by have := hlS.out x hx; simp at e; omega)); clear T7 K7)
            | (go_at_call 19; refine (RS.out _ hLg.out).mono ?_; rintro e w8 ⟨rfl, hn⟩; replace HK := HK.below hn; clear hn)
            | ((with_reducible show wpList _ _ _ (⟨some 11, .alloc _, _, _, _, _⟩ :: _) _ _); refine wpList_alloc_blk rfl TR rfl _ zero_res ?_; intro w9 hn K6 S6; clear S6; replace HK := HK.pushBlk hn K6; clear hn K6; generalize w8.heap.size = b11 at *)
            | ((with_reducible show wpList _ _ _ (⟨none, .store TR (.tmp 11) _, _, _, _, _⟩ :: _) _ _); refine wpList_store_blk rfl TR _ _ rfl b11 TR zeroR.cells (zeroR).cells 4 rfl rfl (HK.blk (by simp)) rfl (Rs.cellsN _) info_res ?_; intro wa T7 K7 S7; clear S7; replace HK := HK.turn [] T7 K7; have c0 : wa.cell? ⟨b, 0, none⟩ = some (.slice _ L.length cv) := (hRf.out.below HK.ends).blk.cell 0; clear T7 K7))
          obtain ⟨Sc, s0, sK⟩ : ∃ Sc : World → Prop, Sc wa.drew ∧ (∀ W, Sc W → W = wa.drew) := ⟨fun W => W = wa.drew, rfl, fun _ h => h⟩
          haveI : Nonempty (Wd Sc) := ⟨⟨_, s0⟩⟩
          have HD := HK.drew
          have BD : Below wr.heap.size wr wa.drew := HD.ends
          have g9 : ∀ z : Wd Sc, ldRun Try.prog TEn z.w (.pointer (some ⟨b9, 0, none⟩)) = .ok (.value (.agg #[.int .i64 0, .int .i64 0, .int .i64 0, .int .i64 0, .string ⟨#[]⟩, .string ⟨#[]⟩, .int .i64 0])) z.w := fun z => by rw [sK _ z.h]; exact ldEn (HD.blk (b := b9) (T := TEn) (cs := zeroE.cells) (by simp))
          have g11 : ∀ z : Wd Sc, ldRun Try.prog TR z.w (.pointer (some ⟨b11, 0, none⟩)) = .ok (.value (.agg #[.int .i64 0, .string ⟨#[]⟩, .int .i64 0, .int .i64 0])) z.w := fun z => by rw [sK _ z.h]; exact ldR (HD.blk (b := b11) (T := TR) (cs := zeroR.cells) (by simp))
          have q1 : ∀ w, (binOp .neq TEn (.agg #[.int .i64 0, .int .i64 0, .int .i64 0, .int .i64 0, .string ⟨#[]⟩, .string ⟨#[]⟩, .int .i64 0]) (.agg #[.int .i64 0, .int .i64 0, .int .i64 0, .int .i64 0, .string ⟨#[]⟩, .string ⟨#[]⟩, .int .i64 0])).run Try.prog w = .ok (.bool false) w := neq_ent zeroE
          have u1 : ∀ op x y w, (eqGuard op TEn x y (.agg #[.int .i64 0, .int .i64 0, .int .i64 0, .int .i64 0, .string ⟨#[]⟩, .string ⟨#[]⟩, .int .i64 0]) (.agg #[.int .i64 0, .int .i64 0, .int .i64 0, .int .i64 0, .string ⟨#[]⟩, .string ⟨#[]⟩, .int .i64 0])).run Try.prog w = .ok () w := fun op x y => guard_ent op x y zeroE
          have q2 : ∀ w, (binOp .neq TR (.agg #[.int .i64 0, .string ⟨#[]⟩, .int .i64 0, .int .i64 0]) (.agg #[.int .i64 0, .string ⟨#[]⟩, .int .i64 0, .int .i64 0])).run Try.prog w = .ok (.bool false) w := neq_res zeroR
          have u2 : ∀ op x y w, (eqGuard op TR x y (.agg #[.int .i64 0, .string ⟨#[]⟩, .int .i64 0, .int .i64 0]) (.agg #[.int .i64 0, .string ⟨#[]⟩, .int .i64 0, .int .i64 0])).run Try.prog w = .ok () w := fun op x y => guard_res op x y zeroR
          replace sK := Lib.hid sK
          refine wp_region_wd Sc s0 (by kernel_rfl) (by kernel_rfl) ?_
          repeat (go_big_quiet_step (fail))
          refine wpQuiet_nil ?_
          rintro _ ⟨z, rfl⟩
          have hz := sK.out _ z.h
          generalize z.w = W9 at *
          subst hz
          clear g9 g11 q1 u1 q2 u2
          go_wp2_with fail
          go_roundg (L.length + 2 - (k + 1))
          case measure => have := hg.out; omega
          case rel => exact ⟨k + 1, rfl, by omega, by go_num, bel hBr BD⟩
        · have tin : decide (k ≤ L.length) = false := decide_eq_false (by omega)
          go_wp2_with (first
            | (go_at_call 18; refine (AT.out _ hLg.out).mono ?_; rintro e w5 ⟨rfl, hn⟩; have HK := (Sep.start wr).below hn; replace hLg := Lib.hid (stL.out _ _ hLg.out hn); clear hn)
            | ((with_reducible show wpList _ _ _ (⟨some 9, .alloc _, _, _, _, _⟩ :: _) _ _); refine wpList_alloc_blk rfl TEn rfl _ zero_entry ?_; intro w6 hn K6 S6; clear S6; replace HK := HK.pushBlk hn K6; replace hLg := Lib.hid (stL.out _ _ hLg.out hn); clear hn K6; generalize w5.heap.size = b9 at *)
            | ((with_reducible show wpList _ _ _ (⟨none, .store TEn (.tmp 9) _, _, _, _, _⟩ :: _) _ _); refine wpList_store_blk rfl TEn _ _ rfl b9 TEn zeroE.cells (zeroE).cells 7 rfl rfl (HK.blk (by simp)) rfl (E.cellsN _) info_entryN ?_; intro w7 T7 K7 S7; clear S7; have hb9 := HK.new (blkOb b9 TEn zeroE.cells) (by simp) b9 (by simp [blkOb]); replace HK := HK.turn [] T7 K7; replace hLg := Lib.hid (hLg.out.keep T7 (fun x hx e => by have := hlS.out x hx; simp at e; omega)); clear T7 K7)
            | (go_at_call 19; refine (RS.out _ hLg.out).mono ?_; rintro e w8 ⟨rfl, hn⟩; replace HK := HK.below hn; clear hn)
            | ((with_reducible show wpList _ _ _ (⟨some 11, .alloc _, _, _, _, _⟩ :: _) _ _); refine wpList_alloc_blk rfl TR rfl _ zero_res ?_; intro w9 hn K6 S6; clear S6; replace HK := HK.pushBlk hn K6; clear hn K6; generalize w8.heap.size = b11 at *)
            | ((with_reducible show wpList _ _ _ (⟨none, .store TR (.tmp 11) _, _, _, _, _⟩ :: _) _ _); refine wpList_store_blk rfl TR _ _ rfl b11 TR zeroR.cells (zeroR).cells 4 rfl rfl (HK.blk (by simp)) rfl (Rs.cellsN _) info_res ?_; intro wa T7 K7 S7; clear S7; replace HK := HK.turn [] T7 K7; have c0 : wa.cell? ⟨b, 0, none⟩ = some (.slice _ L.length cv) := (hRf.out.below HK.ends).blk.cell 0; clear T7 K7))
          obtain ⟨Sc, s0, sK⟩ : ∃ Sc : World → Prop, Sc wa.drew ∧ (∀ W, Sc W → W = wa.drew) := ⟨fun W => W = wa.drew, rfl, fun _ h => h⟩
          haveI : Nonempty (Wd Sc) := ⟨⟨_, s0⟩⟩
          have HD := HK.drew
          have BD : Below wr.heap.size wr wa.drew := HD.ends
          have g9 : ∀ z : Wd Sc, ldRun Try.prog TEn z.w (.pointer (some ⟨b9, 0, none⟩)) = .ok (.value (.agg #[.int .i64 0, .int .i64 0, .int .i64 0, .int .i64 0, .string ⟨#[]⟩, .string ⟨#[]⟩, .int .i64 0])) z.w := fun z => by rw [sK _ z.h]; exact ldEn (HD.blk (b := b9) (T := TEn) (cs := zeroE.cells) (by simp))
          have g11 : ∀ z : Wd Sc, ldRun Try.prog TR z.w (.pointer (some ⟨b11, 0, none⟩)) = .ok (.value (.agg #[.int .i64 0, .string ⟨#[]⟩, .int .i64 0, .int .i64 0])) z.w := fun z => by rw [sK _ z.h]; exact ldR (HD.blk (b := b11) (T := TR) (cs := zeroR.cells) (by simp))
          have q1 : ∀ w, (binOp .neq TEn (.agg #[.int .i64 0, .int .i64 0, .int .i64 0, .int .i64 0, .string ⟨#[]⟩, .string ⟨#[]⟩, .int .i64 0]) (.agg #[.int .i64 0, .int .i64 0, .int .i64 0, .int .i64 0, .string ⟨#[]⟩, .string ⟨#[]⟩, .int .i64 0])).run Try.prog w = .ok (.bool false) w := neq_ent zeroE
          have u1 : ∀ op x y w, (eqGuard op TEn x y (.agg #[.int .i64 0, .int .i64 0, .int .i64 0, .int .i64 0, .string ⟨#[]⟩, .string ⟨#[]⟩, .int .i64 0]) (.agg #[.int .i64 0, .int .i64 0, .int .i64 0, .int .i64 0, .string ⟨#[]⟩, .string ⟨#[]⟩, .int .i64 0])).run Try.prog w = .ok () w := fun op x y => guard_ent op x y zeroE
          have q2 : ∀ w, (binOp .neq TR (.agg #[.int .i64 0, .string ⟨#[]⟩, .int .i64 0, .int .i64 0]) (.agg #[.int .i64 0, .string ⟨#[]⟩, .int .i64 0, .int .i64 0])).run Try.prog w = .ok (.bool false) w := neq_res zeroR
          have u2 : ∀ op x y w, (eqGuard op TR x y (.agg #[.int .i64 0, .string ⟨#[]⟩, .int .i64 0, .int .i64 0]) (.agg #[.int .i64 0, .string ⟨#[]⟩, .int .i64 0, .int .i64 0])).run Try.prog w = .ok () w := fun op x y => guard_res op x y zeroR
          replace sK := Lib.hid sK
          refine wp_region_wd Sc s0 (by kernel_rfl) (by kernel_rfl) ?_
          repeat (go_big_quiet_step (fail))
          refine wpQuiet_nil ?_
          rintro _ ⟨z, rfl⟩
          have hz := sK.out _ z.h
          generalize z.w = W9 at *
          subst hz
          clear g9 g11 q1 u1 q2 u2
          go_wp2_with fail
          go_roundg (L.length + 2 - (k + 1))
          case measure => have := hg.out; omega
          case rel => exact ⟨k + 1, rfl, by omega, by go_num, bel hBr BD⟩
end Go.Proofs.Ytbmepaglhkndpaa.Logs
