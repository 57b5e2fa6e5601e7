/-
  Contracts of package kv (layer 10): put, drop, swap, Apply. Conditions: those that each names.
-/
import Derived.Test.YtbmepaglhkndpaaKvA
import Derived.StillTailTactics
import Derived.RegionTactic
import Derived.ChangeAlike
namespace Go.Proofs.Ytbmepaglhkndpaa.Kv
open Go.RowKit Go.Proofs.Ytbmepaglhkndpaa.Mem Go.Proofs.Ytbmepaglhkndpaa.Ops

section
variable (ρ : Operand → Value) (dst : Option Tmp) (x y : Operand) (tt : TypeId) (pos : String) (af : Array Edge) (g : Option (Nat × Bool)) (w : World)
theorem execLoadE : (execOp ρ ⟨dst, .load TE x, tt, pos, af, g⟩).run Try.prog w = ldRun Try.prog TE w (ρ x) := exec_load _ _ _ _ _ _ _ _ _
theorem execStoreE : (execOp ρ ⟨dst, .store TE x y, tt, pos, af, g⟩).run Try.prog w = stRun Try.prog TE w (ρ x) (ρ y) := exec_store _ _ _ _ _ _ _ _ _ _
end
theorem ldE {w : World} {b : Nat} {v : List UInt8} {n : Int} (h : Blk w b TE (eC v n)) : ldRun Try.prog TE w (.pointer (some ⟨b, 0, none⟩)) = .ok (.value (.agg (eC v n).toArray)) w := by
  have := ldRun_row w b 0 TE 2 _ Try.underlying81 rfl info_elem (h.rows (n := 2) rfl).1
  rw [(h.rows (n := 2) rfl).2] at this
  exact this
theorem stE {w : World} {b : Nat} {v v' : List UInt8} {n n' : Int} (h : Blk w b TE (eC v n)) : ∃ W, stRun Try.prog TE w (.pointer (some ⟨b, 0, none⟩)) (.agg (eC v' n').toArray) = .ok .skip W ∧ Turned [b] w W ∧ Blk W b TE (eC v' n') :=
  ⟨_, stRun_row w b 0 TE 2 (eC v' n').toArray info_elem (h.there 0 2 (by simp [eC])) (eCN _ _), (⟨rfl, rfl, rfl, Nat.le_refl _, fun _ _ _ => rfl⟩ : Turned [b] w w).setCells (.inl (by simp)) 0 _, by simpa [splice, eC] using h.sets (eC v' n') 0 (by simp [eC])⟩
theorem map_look {w : World} {m : Nat} {L : List C} (h : MapAt w m L) (k : List UInt8) (hk : k.length ≤ 1000000) :
    (Instr.lookup TM (.map (some m)) (.string ⟨k.toArray⟩) false).run Try.prog w = .ok (elemV (look L k 0).val (look L k 0).ver) w := by
  obtain ⟨v, ps, hrun, hv⟩ := h.owns.lookup (t := TM) (e := TE) keyed Try.underlying76 (zero_elem w) (elemR_mk [] 0) (key_of k hk)
  obtain ⟨s, n, rfl, hz⟩ := elemR_inv hv
  rw [hrun]
  rw [at_str] at hz
  have e : s = (look L k 0).val ∧ n = (look L k 0).ver := by
    unfold look
    cases hf : L.find? (fun c => c.key == k) with
    | none =>
      rw [hf] at hz
      simp at hz
      exact ⟨hz.1.1, hz.1.2.symm⟩
    | some c =>
      rw [hf] at hz
      simp [elemD] at hz
      simp only
      exact ⟨hz.1.1.symm, hz.1.2.symm⟩
  rw [e.1, e.2]
attribute [local go_sem ↓] execLoadO execLoadR execLoadE execStoreE
theorem info_int : (Try.prog.info? 3).map (·.size) = some 1 := by kernel_rfl
set_option maxRecDepth 100000
set_option maxHeartbeats 4000000
theorem put_at (w : World) (p m : Nat) (L : List C) (h : StAt w p m L) (hl : L.length < 1000000) (n : Int) (o : O) (y1 : o.key.length ≤ 16) : Calls Try.prog 43 #[ptr p, .int .i64 n, .agg o.cells.toArray] w fun e w' => e = .returned (.agg (Rs.mk 1 [] n n).cells.toArray) ∧ StAt w' p m (withC L ⟨o.key, o.val, n⟩) ∧ Turned [m] w w' := by
  obtain ⟨d, hd, hdr⟩ := row_res
  replace hd := Lib.hid hd
  obtain ⟨hpl, hml⟩ := h.lt
  have hne := h.ne
  replace h := Lib.hid h
  go_enter Try.func43, Try.ntmps43
  go_wp2_with (first
    | ((with_reducible show wpList _ _ _ (⟨some 5, .box _ _, _, _, _, _⟩ :: _) _ _); refine wpList_box_blk rfl TO _ rfl o.cells rfl ?_; intro w1 hn K1 S1; clear S1; have HK := ((Kept.start w).below hn).add K1; have ST := Lib.hid (h.out.below hn); have z1 := hn.size; clear hn K1)
    | ((with_reducible show wpList _ _ _ (⟨some 6, .alloc _, _, _, _, _⟩ :: _) _ _); refine wpList_alloc_blk rfl TR rfl _ zero_res ?_; intro w2 hn K2 S2; clear S2; have lo := HK.lt (List.mem_cons_self); replace ST := Lib.hid (ST.out.below hn); replace HK := (HK.below hn).add K2; clear hn K2; generalize w1.heap.size = b6 at *))
  have s0 : w2.cell? ⟨p, 0, none⟩ = some (.map (some m)) := ST.out.blk.cell 0
  have o1 := HK.cell (b := w.heap.size) (T := TO) (cs := o.cells) (by simp) 1 rfl
  have o2 := HK.cell (b := w.heap.size) (T := TO) (cs := o.cells) (by simp) 2 rfl
  have ST4 := Lib.hid (ST.out.keep (⟨rfl, rfl, rfl, Nat.le_refl _, fun _ _ _ => rfl⟩ : Turned [] w2 w2.drew) (by simp) (by simp))
  replace HK := HK.drew
  go_still_tail 10, (by kernel_rfl)
  change wpList _ _ _ _ _ w2.drew
  clear ST s0 o1 o2
  generalize w2.drew = w8 at *
  go_wp2_with (first
    | ((with_reducible show wpList _ _ _ (⟨_, .mapUpdate _ _ _ _, _, _, _, _⟩ :: _) _ _); refine wpList_update_map rfl _ _ _ rfl ST4.out.map rfl ⟨o.key, o.val, n⟩ (by simp only; omega) hl rfl rfl ?_; intro w10 M10 T10 S10 D10; clear S10 D10; have ST := Lib.hid (StAt.mk (T10.blk ST4.out.blk (by simp; omega)) M10); have TM : Turned [m] w w10 := (HK.1.mono (by simp)).trans T10 (by simp); have K6 : Blk w10 b6 TR zeroR.cells := T10.blk (HK.blk (by simp)) (by simp; omega); clear T10 M10 HK)
    | ((with_reducible show wpList _ _ _ (⟨none, .store TR (.tmp 6) _, _, _, _, _⟩ :: _) _ _); refine wpList_store_blk rfl TR _ _ rfl b6 TR zeroR.cells (Rs.mk 1 [] n n).cells 4 rfl rfl K6 rfl (Rs.cellsN _) info_res ?_; intro w9 T9 K9 S9; clear S9))
  refine bodyPost_ret (results_cell1 (b := b6) (o := 0) (cs := (Rs.mk 1 [] n n).cells) Try.results43 rfl K9.rangeAll hd.out hdr info_res) rfl ⟨rfl, ST.out.keep T9 (by simp; omega) (by simp; omega), TM.trans T9 (by simp; omega)⟩

theorem drop_at (w : World) (p m : Nat) (L : List C) (h : StAt w p m L) (n : Int) (key : List UInt8) (hk : key.length ≤ 1000000) : Calls Try.prog 44 #[ptr p, .int .i64 n, .string ⟨key.toArray⟩] w fun e w' => e = .returned (.agg (if hit L key then ⟨1, [], 0, n⟩ else ⟨2, [], 0, n⟩ : Rs).cells.toArray) ∧ StAt w' p m (if hit L key then without L key else L) ∧ Turned [m] w w' := by
  obtain ⟨d, hd, hdr⟩ := row_res
  replace hd := Lib.hid hd
  obtain ⟨hpl, hml⟩ := h.lt
  have hne := h.ne
  replace h := Lib.hid h
  have LU := Lib.hid (fun (w1 : World) (h1 : StAt w1 p m L) => map_lookup h1.map key hk)
  unfold elemV at LU
  generalize (look L key 0).val = V at *
  generalize (look L key 0).ver = N at *
  cases hh : hit L key with
  | true =>
    rw [hh] at LU
    rw [if_pos rfl, if_pos rfl]
    go_enter Try.func44, Try.ntmps44
    go_wp2_with (first
      | ((with_reducible show wpList _ _ _ (⟨some 6, .alloc _, _, _, _, _⟩ :: _) _ _); refine wpList_alloc_blk rfl TR rfl _ zero_res ?_; intro w1 hn K1 S1; clear S1; have HK := ((Kept.start w).below hn).add K1; have ST := Lib.hid (h.out.below hn); have c0 : w1.cell? ⟨p, 0, none⟩ = some (.map (some m)) := ST.out.blk.cell 0; have l1 := LU.out _ ST.out; clear hn K1)
      | ((with_reducible show wpList _ _ _ (⟨some 7, .alloc _, _, _, _, _⟩ :: _) _ _); refine wpList_alloc_blk rfl TE rfl _ zero_cell ?_; intro w3 hn K3 S3; clear S3; have lo := HK.lt (List.mem_cons_self); replace ST := Lib.hid (ST.out.below hn); replace HK := (HK.below hn).add K3; clear hn K3 c0 l1; generalize w1.heap.size = b2 at *)
      | ((with_reducible show wpList _ _ _ (⟨none, .store TE (.tmp 7) _, _, _, _, _⟩ :: _) _ _); refine wpList_store_blk rfl TE _ _ rfl b2 TE (eC [] 0) (eC V N) 2 rfl rfl (HK.blk (List.mem_cons_self)) rfl (eCN _ _) info_elem ?_; intro w4 T4 K4 S4; clear S4; replace ST := Lib.hid (ST.out.keep T4 (by simp; omega) (by simp; omega)); replace HK := HK.swap T4 (by omega) (by simp <;> omega) K4; have s0 : w4.cell? ⟨p, 0, none⟩ = some (.map (some m)) := ST.out.blk.cell 0; clear T4 K4)
      | (at_delete; refine wpList_delete_map rfl _ _ rfl ST.out.map rfl key hk rfl ?_; intro w10 M10 T10 S10; clear S10; have ST2 := Lib.hid (StAt.mk (T10.blk ST.out.blk (by simp; omega)) M10); have TM : Turned [m] w w10 := (HK.1.mono (by simp)).trans T10 (by simp); have K6 : Blk w10 w.heap.size TR zeroR.cells := T10.blk (HK.blk (by simp)) (by simp; omega); clear T10 M10 HK)
      | ((with_reducible show wpList _ _ _ (⟨none, .store TR (.tmp 6) _, _, _, _, _⟩ :: _) _ _); refine wpList_store_blk rfl TR _ _ rfl w.heap.size TR zeroR.cells (Rs.mk 1 [] 0 n).cells 4 rfl rfl K6 rfl (Rs.cellsN _) info_res ?_; intro w9 T9 K9 S9; clear S9))
    refine bodyPost_ret (results_cell1 (b := w.heap.size) (o := 0) (cs := (Rs.mk 1 [] 0 n).cells) Try.results44 rfl K9.rangeAll hd.out hdr info_res) rfl ⟨rfl, ST2.out.keep T9 (by simp; omega) (by simp; omega), TM.trans T9 (fun k hk hm => by simp at hm; omega)⟩
  | false =>
    rw [hh] at LU
    rw [if_neg (by simp), if_neg (by simp)]
    go_enter Try.func44, Try.ntmps44
    go_wp2_with (first
      | ((with_reducible show wpList _ _ _ (⟨some 6, .alloc _, _, _, _, _⟩ :: _) _ _); refine wpList_alloc_blk rfl TR rfl _ zero_res ?_; intro w1 hn K1 S1; clear S1; have HK := ((Kept.start w).below hn).add K1; have ST := Lib.hid (h.out.below hn); have c0 : w1.cell? ⟨p, 0, none⟩ = some (.map (some m)) := ST.out.blk.cell 0; have l1 := LU.out _ ST.out; clear hn K1)
      | ((with_reducible show wpList _ _ _ (⟨some 7, .alloc _, _, _, _, _⟩ :: _) _ _); refine wpList_alloc_blk rfl TE rfl _ zero_cell ?_; intro w3 hn K3 S3; clear S3; have lo := HK.lt (List.mem_cons_self); replace ST := Lib.hid (ST.out.below hn); replace HK := (HK.below hn).add K3; clear hn K3 c0 l1; generalize w1.heap.size = b2 at *)
      | ((with_reducible show wpList _ _ _ (⟨none, .store TE (.tmp 7) _, _, _, _, _⟩ :: _) _ _); refine wpList_store_blk rfl TE _ _ rfl b2 TE (eC [] 0) (eC V N) 2 rfl rfl (HK.blk (List.mem_cons_self)) rfl (eCN _ _) info_elem ?_; intro w4 T4 K4 S4; clear S4; replace ST := Lib.hid (ST.out.keep T4 (by simp; omega) (by simp; omega)); replace HK := HK.swap T4 (by omega) (by simp <;> omega) K4; have s0 : w4.cell? ⟨p, 0, none⟩ = some (.map (some m)) := ST.out.blk.cell 0; clear T4 K4)
      | ((with_reducible show wpList _ _ _ (⟨none, .store TR (.tmp 6) _, _, _, _, _⟩ :: _) _ _); refine wpList_store_blk rfl TR _ _ rfl w.heap.size TR zeroR.cells (Rs.mk 2 [] 0 n).cells 4 rfl rfl (HK.blk (by simp)) rfl (Rs.cellsN _) info_res ?_; intro w9 T9 K9 S9; clear S9))
    refine bodyPost_ret (results_cell1 (b := w.heap.size) (o := 0) (cs := (Rs.mk 2 [] 0 n).cells) Try.results44 rfl K9.rangeAll hd.out hdr info_res) rfl ⟨rfl, ST.out.keep T9 (by simp; omega) (by simp; omega), (HK.1.mono (by simp)).trans T9 (fun k hk hm => by simp at hm; omega)⟩

theorem swap_at (w : World) (p m : Nat) (L : List C) (h : StAt w p m L) (hl : L.length < 1000000) (n : Int) (o : O) (y1 : o.key.length ≤ 16) : Calls Try.prog 45 #[ptr p, .int .i64 n, .agg o.cells.toArray] w fun e w' => e = .returned (.agg (if (look L o.key 0).ver ≠ o.ver then ⟨3, (look L o.key 0).val, (look L o.key 0).ver, n⟩ else ⟨1, [], n, n⟩ : Rs).cells.toArray) ∧ StAt w' p m (if (look L o.key 0).ver ≠ o.ver then L else withC L ⟨o.key, o.val, n⟩) ∧ Turned [m] w w' := by
  obtain ⟨d, hd, hdr⟩ := row_res
  replace hd := Lib.hid hd
  obtain ⟨hpl, hml⟩ := h.lt
  have hne := h.ne
  replace h := Lib.hid h
  have LU := Lib.hid (fun (w1 : World) (h1 : StAt w1 p m L) => map_look h1.map o.key (by omega))
  have PU := Lib.hid (fun (w1 : World) (h1 : StAt w1 p m L) => put_at w1 p m L h1 hl n o y1)
  unfold elemV at LU
  generalize (look L o.key 0).val = V at *
  generalize (look L o.key 0).ver = N at *
  by_cases hv : N ≠ o.ver
  · rw [if_pos hv, if_pos hv]
    have t1 : (N != o.ver) = true := by simpa using hv
    replace hv := Lib.hid hv
    go_enter Try.func45, Try.ntmps45
    go_wp2_with (first
      | ((with_reducible show wpList _ _ _ (⟨some 5, .box _ _, _, _, _, _⟩ :: _) _ _); refine wpList_box_blk rfl TO _ rfl o.cells rfl ?_; intro w1 hn K1 S1; clear S1; have HK := ((Kept.start w).below hn).add K1; have ST := Lib.hid (h.out.below hn); have z1 := hn.size; clear hn K1)
      | ((with_reducible show wpList _ _ _ (⟨some 6, .alloc _, _, _, _, _⟩ :: _) _ _); refine wpList_alloc_blk rfl TR rfl _ zero_res ?_; intro w2 hn K2 S2; clear S2; have lo := HK.lt (List.mem_cons_self); replace ST := Lib.hid (ST.out.below hn); replace HK := (HK.below hn).add K2; clear hn K2; generalize w1.heap.size = b6 at *))
    have s0 : w2.cell? ⟨p, 0, none⟩ = some (.map (some m)) := ST.out.blk.cell 0
    have o1 := HK.cell (b := w.heap.size) (T := TO) (cs := o.cells) (by simp) 1 rfl
    have TD : ∀ x, Turned [] w2 (w2.alloc x).drew := fun x => ((⟨rfl, rfl, rfl, Nat.le_refl _, fun _ _ _ => rfl⟩ : Turned [] w2 w2).alloc x).drewN 1
    have s1 : ∀ x, (w2.alloc x).cell? ⟨p, 0, none⟩ = some (.map (some m)) := fun x => (ST.out.keep (TD x) (by simp) (by simp)).blk.cell 0
    have l0 := LU.out w2.drew (ST.out.keep ((⟨rfl, rfl, rfl, Nat.le_refl _, fun _ _ _ => rfl⟩ : Turned [] w2 w2.drew)) (by simp) (by simp))
    have o1' : ∀ x, (w2.alloc x).cell? ⟨w.heap.size, 1, none⟩ = some (.string ⟨o.key.toArray⟩) := fun x => (HK.below ((Below.refl _ _).alloc (Nat.le_refl _) x)).cell (b := w.heap.size) (T := TO) (cs := o.cells) (by simp) 1 rfl
    have l1 : ∀ x, _ := fun x => LU.out (w2.alloc x).drew (ST.out.keep (TD x) (by simp) (by simp))
    have HB4 : Below w2.heap.size w2 (w2.alloc (.cells (eC V N).toArray TE)).drew := (Below.refl _ _).alloc (Nat.le_refl _) _ |>.trans ⟨rfl, rfl, rfl, Nat.le_refl _, fun _ _ => rfl⟩
    have K4 : Blk (w2.alloc (.cells (eC V N).toArray TE)).drew w2.heap.size TE (eC V N) := Blk.new w2 TE (eC V N)
    have lo7 := HK.lt (List.mem_cons_self)
    replace HB4 := Lib.hid HB4
    replace K4 := Lib.hid K4
    go_region
    all_goals
      clear s0 o1 s1 l0 l1 o1' TD
      change Exit.then _ _ _ _ (w2.alloc (.cells (eC V N).toArray TE)).drew
      generalize (w2.alloc (.cells (eC V N).toArray TE)).drew = w4 at *
      have stl := ST.out.lt
      replace ST := Lib.hid (ST.out.below HB4.out)
      replace HK := (HK.below HB4.out).add K4.out
      clear HB4 K4
      generalize w2.heap.size = b7 at *
      have e0 := HK.cell (b := b7) (T := TE) (cs := eC V N) (by simp) 0 rfl
      have e1 := HK.cell (b := b7) (T := TE) (cs := eC V N) (by simp) 1 rfl
      have o3 := HK.cell (b := w.heap.size) (T := TO) (cs := o.cells) (by simp) 3 rfl
      have g5 := ldO (HK.blk (b := w.heap.size) (T := TO) (cs := o.cells) (by simp))
      go_wp2_with (first
        | ((with_reducible show wpList _ _ _ (⟨none, .store TR (.tmp 6) _, _, _, _, _⟩ :: _) _ _); refine wpList_store_blk rfl TR _ _ rfl b6 TR zeroR.cells (Rs.mk 3 V N n).cells 4 rfl rfl (HK.blk (by simp)) rfl (Rs.cellsN _) info_res ?_; intro w9 T9 K9 S9; clear S9))
      refine bodyPost_ret (results_cell1 (b := b6) (o := 0) (cs := (Rs.mk 3 V N n).cells) Try.results45 rfl K9.rangeAll hd.out hdr info_res) rfl ⟨rfl, ST.out.keep T9 (by simp; omega) (by simp; omega), (HK.1.mono (by simp)).trans T9 (fun k hk hm => by simp at hm; omega)⟩
  · rw [if_neg hv, if_neg hv]
    have t1 : (N != o.ver) = false := by simpa using hv
    replace hv := Lib.hid hv
    go_enter Try.func45, Try.ntmps45
    go_wp2_with (first
      | ((with_reducible show wpList _ _ _ (⟨some 5, .box _ _, _, _, _, _⟩ :: _) _ _); refine wpList_box_blk rfl TO _ rfl o.cells rfl ?_; intro w1 hn K1 S1; clear S1; have HK := ((Kept.start w).below hn).add K1; have ST := Lib.hid (h.out.below hn); have z1 := hn.size; clear hn K1)
      | ((with_reducible show wpList _ _ _ (⟨some 6, .alloc _, _, _, _, _⟩ :: _) _ _); refine wpList_alloc_blk rfl TR rfl _ zero_res ?_; intro w2 hn K2 S2; clear S2; have lo := HK.lt (List.mem_cons_self); replace ST := Lib.hid (ST.out.below hn); replace HK := (HK.below hn).add K2; clear hn K2; generalize w1.heap.size = b6 at *))
    have s0 : w2.cell? ⟨p, 0, none⟩ = some (.map (some m)) := ST.out.blk.cell 0
    have o1 := HK.cell (b := w.heap.size) (T := TO) (cs := o.cells) (by simp) 1 rfl
    have TD : ∀ x, Turned [] w2 (w2.alloc x).drew := fun x => ((⟨rfl, rfl, rfl, Nat.le_refl _, fun _ _ _ => rfl⟩ : Turned [] w2 w2).alloc x).drewN 1
    have s1 : ∀ x, (w2.alloc x).cell? ⟨p, 0, none⟩ = some (.map (some m)) := fun x => (ST.out.keep (TD x) (by simp) (by simp)).blk.cell 0
    have l0 := LU.out w2.drew (ST.out.keep ((⟨rfl, rfl, rfl, Nat.le_refl _, fun _ _ _ => rfl⟩ : Turned [] w2 w2.drew)) (by simp) (by simp))
    have o1' : ∀ x, (w2.alloc x).cell? ⟨w.heap.size, 1, none⟩ = some (.string ⟨o.key.toArray⟩) := fun x => (HK.below ((Below.refl _ _).alloc (Nat.le_refl _) x)).cell (b := w.heap.size) (T := TO) (cs := o.cells) (by simp) 1 rfl
    have l1 : ∀ x, _ := fun x => LU.out (w2.alloc x).drew (ST.out.keep (TD x) (by simp) (by simp))
    have HB4 : Below w2.heap.size w2 (w2.alloc (.cells (eC V N).toArray TE)).drew := (Below.refl _ _).alloc (Nat.le_refl _) _ |>.trans ⟨rfl, rfl, rfl, Nat.le_refl _, fun _ _ => rfl⟩
    have K4 : Blk (w2.alloc (.cells (eC V N).toArray TE)).drew w2.heap.size TE (eC V N) := Blk.new w2 TE (eC V N)
    have lo7 := HK.lt (List.mem_cons_self)
    replace HB4 := Lib.hid HB4
    replace K4 := Lib.hid K4
    go_region
    all_goals
      clear s0 o1 s1 l0 l1 o1' TD
      change Exit.then _ _ _ _ (w2.alloc (.cells (eC V N).toArray TE)).drew
      generalize (w2.alloc (.cells (eC V N).toArray TE)).drew = w4 at *
      have stl := ST.out.lt
      replace ST := Lib.hid (ST.out.below HB4.out)
      replace HK := (HK.below HB4.out).add K4.out
      clear HB4 K4
      generalize w2.heap.size = b7 at *
      have e0 := HK.cell (b := b7) (T := TE) (cs := eC V N) (by simp) 0 rfl
      have e1 := HK.cell (b := b7) (T := TE) (cs := eC V N) (by simp) 1 rfl
      have o3 := HK.cell (b := w.heap.size) (T := TO) (cs := o.cells) (by simp) 3 rfl
      have g5 := ldO (HK.blk (b := w.heap.size) (T := TO) (cs := o.cells) (by simp))
      go_wp2_with (first
        | (go_at_call 43; refine (PU.out _ ST.out).mono ?_; rintro e w5 ⟨rfl, ST5, T5⟩; replace ST := Lib.hid ST5; have TM : Turned [m] w w5 := (HK.1.mono (by simp)).trans T5 (by simp); replace HK : Blk w5 b6 TR zeroR.cells := T5.blk (HK.blk (by simp)) (by simp; omega); clear ST5 T5 e0 e1 o3 g5)
        | ((with_reducible show wpList _ _ _ (⟨none, .store TR (.tmp 6) _, _, _, _, _⟩ :: _) _ _); refine wpList_store_blk rfl TR _ _ rfl b6 TR zeroR.cells (Rs.mk 1 [] n n).cells 4 rfl rfl HK rfl (Rs.cellsN _) info_res ?_; intro w9 T9 K9 S9; clear S9))
      refine bodyPost_ret (results_cell1 (b := b6) (o := 0) (cs := (Rs.mk 1 [] n n).cells) Try.results45 rfl K9.rangeAll hd.out hdr info_res) rfl ⟨rfl, ST.out.keep T9 (by simp; omega) (by simp; omega), TM.trans T9 (fun k hk hm => by simp at hm; omega)⟩

theorem apply_at (w : World) (p m : Nat) (L : List C) (h : StAt w p m L) (hl : L.length < 1000000) (n : Int) (o : O) : Calls Try.prog 32 #[ptr p, .int .i64 n, .agg o.cells.toArray] w fun e w' => e = .returned (.agg (told L n o).cells.toArray) ∧ StAt w' p m (next L n o) ∧ Turned [m] w w' := by
  obtain ⟨d, hd, hdr⟩ := row_res
  replace hd := Lib.hid hd
  obtain ⟨hpl, hml⟩ := h.lt
  have hne := h.ne
  replace h := Lib.hid h
  have CK := Lib.hid (fun w => check_any o w)
  by_cases hr : refused n o
  · have e1 : told L n o = zeroR := if_pos hr
    have e2 : next L n o = L := if_pos hr
    rw [e1, e2]
    clear e1 e2
    by_cases a1 : n < 1
    · clear hr
      go_enter Try.func32, Try.ntmps32
      go_wp2_with (first
        | ((with_reducible show wpList _ _ _ (⟨some 5, .box _ _, _, _, _, _⟩ :: _) _ _); refine wpList_box_blk rfl TO _ rfl o.cells rfl ?_; intro w1 hn K1 S1; clear S1; have HK := ((Kept.start w).below hn).add K1; have ST := Lib.hid (h.out.below hn); have z1 := hn.size; clear hn K1)
        | ((with_reducible show wpList _ _ _ (⟨some 6, .alloc _, _, _, _, _⟩ :: _) _ _); refine wpList_alloc_blk rfl TR rfl _ zero_res ?_; intro w2 hn K2 S2; clear S2; have lo := HK.lt (List.mem_cons_self); replace ST := Lib.hid (ST.out.below hn); replace HK := (HK.below hn).add K2; have g0 := ldO (HK.blk (b := w.heap.size) (T := TO) (cs := o.cells) (by simp)); have N1 := Lib.hid (none_at _ p m L ST.out); clear hn K2; generalize w1.heap.size = b6 at *)
        | (go_at_call 38; refine N1.out.mono ?_; rintro e w3 ⟨rfl, rfl⟩)
        | ((with_reducible show wpList _ _ _ (⟨none, .store TR (.tmp 6) _, _, _, _, _⟩ :: _) _ _); refine wpList_store_blk rfl TR _ _ rfl b6 TR zeroR.cells zeroR.cells 4 rfl rfl (HK.blk (by simp)) rfl (Rs.cellsN _) info_res ?_; intro w9 T9 K9 S9; clear S9))
      refine bodyPost_ret (results_cell1 (b := b6) (o := 0) (cs := (zeroR).cells) Try.results32 rfl K9.rangeAll hd.out hdr info_res) rfl ⟨rfl, ST.out.keep T9 (by simp <;> omega) (by simp <;> omega), (HK.1.mono (by simp)).trans T9 (fun k hk hm => by simp at hm; omega)⟩
    · by_cases a2 : 4096 < n
      · clear hr
        go_enter Try.func32, Try.ntmps32
        go_wp2_with (first
          | ((with_reducible show wpList _ _ _ (⟨some 5, .box _ _, _, _, _, _⟩ :: _) _ _); refine wpList_box_blk rfl TO _ rfl o.cells rfl ?_; intro w1 hn K1 S1; clear S1; have HK := ((Kept.start w).below hn).add K1; have ST := Lib.hid (h.out.below hn); have z1 := hn.size; clear hn K1)
          | ((with_reducible show wpList _ _ _ (⟨some 6, .alloc _, _, _, _, _⟩ :: _) _ _); refine wpList_alloc_blk rfl TR rfl _ zero_res ?_; intro w2 hn K2 S2; clear S2; have lo := HK.lt (List.mem_cons_self); replace ST := Lib.hid (ST.out.below hn); replace HK := (HK.below hn).add K2; have g0 := ldO (HK.blk (b := w.heap.size) (T := TO) (cs := o.cells) (by simp)); have N1 := Lib.hid (none_at _ p m L ST.out); clear hn K2; generalize w1.heap.size = b6 at *)
          | (go_at_call 38; refine N1.out.mono ?_; rintro e w3 ⟨rfl, rfl⟩)
          | ((with_reducible show wpList _ _ _ (⟨none, .store TR (.tmp 6) _, _, _, _, _⟩ :: _) _ _); refine wpList_store_blk rfl TR _ _ rfl b6 TR zeroR.cells zeroR.cells 4 rfl rfl (HK.blk (by simp)) rfl (Rs.cellsN _) info_res ?_; intro w9 T9 K9 S9; clear S9))
        refine bodyPost_ret (results_cell1 (b := b6) (o := 0) (cs := (zeroR).cells) Try.results32 rfl K9.rangeAll hd.out hdr info_res) rfl ⟨rfl, ST.out.keep T9 (by simp <;> omega) (by simp <;> omega), (HK.1.mono (by simp)).trans T9 (fun k hk hm => by simp at hm; omega)⟩
      · have hc : o.check = 2 ∨ o.check = 3 := by
          have := check_three o
          unfold refused at hr
          omega
        clear hr
        rcases hc with hc | hc
        all_goals
          rw [hc] at CK
          clear hc
          go_enter Try.func32, Try.ntmps32
          go_wp2_with (first
            | ((with_reducible show wpList _ _ _ (⟨some 5, .box _ _, _, _, _, _⟩ :: _) _ _); refine wpList_box_blk rfl TO _ rfl o.cells rfl ?_; intro w1 hn K1 S1; clear S1; have HK := ((Kept.start w).below hn).add K1; have ST := Lib.hid (h.out.below hn); have z1 := hn.size; clear hn K1)
            | ((with_reducible show wpList _ _ _ (⟨some 6, .alloc _, _, _, _, _⟩ :: _) _ _); refine wpList_alloc_blk rfl TR rfl _ zero_res ?_; intro w2 hn K2 S2; clear S2; have lo := HK.lt (List.mem_cons_self); replace ST := Lib.hid (ST.out.below hn); replace HK := (HK.below hn).add K2; have g0 := ldO (HK.blk (b := w.heap.size) (T := TO) (cs := o.cells) (by simp)); have N1 := Lib.hid (none_at _ p m L ST.out); clear hn K2; generalize w1.heap.size = b6 at *)
            | (go_at_call 38; refine N1.out.mono ?_; rintro e w3 ⟨rfl, rfl⟩)
            | (go_at_call 42; refine (CK.out _).mono ?_; rintro e w4 ⟨rfl, hn⟩; replace ST := Lib.hid (ST.out.below hn); replace HK := HK.below hn; clear g0 hn; have o0 := HK.cell (b := w.heap.size) (T := TO) (cs := o.cells) (by simp) 0 rfl; have o1 := HK.cell (b := w.heap.size) (T := TO) (cs := o.cells) (by simp) 1 rfl; have g5 := ldO (HK.blk (b := w.heap.size) (T := TO) (cs := o.cells) (by simp)))
            | ((with_reducible show wpList _ _ _ (⟨none, .store TR (.tmp 6) _, _, _, _, _⟩ :: _) _ _); refine wpList_store_blk rfl TR _ _ rfl b6 TR zeroR.cells zeroR.cells 4 rfl rfl (HK.blk (by simp)) rfl (Rs.cellsN _) info_res ?_; intro w9 T9 K9 S9; clear S9))
          refine bodyPost_ret (results_cell1 (b := b6) (o := 0) (cs := (zeroR).cells) Try.results32 rfl K9.rangeAll hd.out hdr info_res) rfl ⟨rfl, ST.out.keep T9 (by simp <;> omega) (by simp <;> omega), (HK.1.mono (by simp)).trans T9 (fun k hk hm => by simp at hm; omega)⟩
  · have hc : o.check = 0 := by unfold refused at hr; omega
    have hn1 : 1 ≤ n := by unfold refused at hr; omega
    have hn2 : n ≤ 4096 := by unfold refused at hr; omega
    obtain ⟨k1, k4, y1, y2, v2, n0, n1, vn, vv⟩ := fine_of hc
    rw [hc] at CK
    clear hc vv
    have e1 : told L n o = if o.kind = 1 then look L o.key n else if o.kind = 3 then (if (look L o.key n).code = 2 then look L o.key n else ⟨1, [], 0, n⟩) else if o.kind = 4 ∧ (look L o.key n).ver ≠ o.ver then ⟨3, (look L o.key n).val, (look L o.key n).ver, n⟩ else ⟨1, [], n, n⟩ := if_neg hr
    have e2 : next L n o = if o.kind = 1 then L else if o.kind = 3 then (if (look L o.key n).code = 2 then L else without L o.key) else if o.kind = 4 ∧ (look L o.key n).ver ≠ o.ver then L else withC L ⟨o.key, o.val, n⟩ := if_neg hr
    rw [e1, e2]
    clear e1 e2 hr
    by_cases q1 : o.kind = 1
    · rw [if_pos q1, if_pos q1]
      have LK := Lib.hid (fun (w1 : World) (h1 : StAt w1 p m L) => look_at w1 p m L h1 o.key (by omega) n)
      generalize look L o.key n = R at *
      go_enter Try.func32, Try.ntmps32
      go_wp2_with (first
        | ((with_reducible show wpList _ _ _ (⟨some 5, .box _ _, _, _, _, _⟩ :: _) _ _); refine wpList_box_blk rfl TO _ rfl o.cells rfl ?_; intro w1 hn K1 S1; clear S1; have HK := ((Kept.start w).below hn).add K1; have ST := Lib.hid (h.out.below hn); have z1 := hn.size; clear hn K1)
        | ((with_reducible show wpList _ _ _ (⟨some 6, .alloc _, _, _, _, _⟩ :: _) _ _); refine wpList_alloc_blk rfl TR rfl _ zero_res ?_; intro w2 hn K2 S2; clear S2; have lo := HK.lt (List.mem_cons_self); replace ST := Lib.hid (ST.out.below hn); replace HK := (HK.below hn).add K2; have g0 := ldO (HK.blk (b := w.heap.size) (T := TO) (cs := o.cells) (by simp)); have N1 := Lib.hid (none_at _ p m L ST.out); clear hn K2; generalize w1.heap.size = b6 at *)
        | (go_at_call 38; refine N1.out.mono ?_; rintro e w3 ⟨rfl, rfl⟩)
        | (go_at_call 42; refine (CK.out _).mono ?_; rintro e w4 ⟨rfl, hn⟩; replace ST := Lib.hid (ST.out.below hn); replace HK := HK.below hn; clear g0 hn; have o0 := HK.cell (b := w.heap.size) (T := TO) (cs := o.cells) (by simp) 0 rfl; have o1 := HK.cell (b := w.heap.size) (T := TO) (cs := o.cells) (by simp) 1 rfl; have g5 := ldO (HK.blk (b := w.heap.size) (T := TO) (cs := o.cells) (by simp)))
        | (go_at_call 28; refine (LK.out _ ST.out).mono ?_; rintro e w5 ⟨rfl, hn⟩; replace ST := Lib.hid (ST.out.below hn); replace HK := HK.below hn; clear hn o0 o1 g5)
        | ((with_reducible show wpList _ _ _ (⟨none, .store TR (.tmp 6) _, _, _, _, _⟩ :: _) _ _); refine wpList_store_blk rfl TR _ _ rfl b6 TR zeroR.cells (R).cells 4 rfl rfl (HK.blk (by simp)) rfl (Rs.cellsN _) info_res ?_; intro w9 T9 K9 S9; clear S9))
      refine bodyPost_ret (results_cell1 (b := b6) (o := 0) (cs := (R).cells) Try.results32 rfl K9.rangeAll hd.out hdr info_res) rfl ⟨rfl, ST.out.keep T9 (by simp <;> omega) (by simp <;> omega), (HK.1.mono (by simp)).trans T9 (fun k hk hm => by simp at hm; omega)⟩
    · rw [if_neg q1, if_neg q1]
      by_cases q3 : o.kind = 3
      · rw [if_pos q3, if_pos q3]
        have er : ((if (look L o.key n).code = 2 then look L o.key n else ⟨1, [], 0, n⟩ : Rs)) = (if hit L o.key then ⟨1, [], 0, n⟩ else ⟨2, [], 0, n⟩ : Rs) := by
          rw [look_there]
          cases hit L o.key <;> simp
        have el : (if (look L o.key n).code = 2 then L else without L o.key) = (if hit L o.key then without L o.key else L) := by
          rw [look_there]
          cases hit L o.key <;> simp
        rw [er, el]
        clear er el
        have DR := Lib.hid (fun (w1 : World) (h1 : StAt w1 p m L) => drop_at w1 p m L h1 n o.key (by omega))
        generalize (if hit L o.key then ⟨1, [], 0, n⟩ else ⟨2, [], 0, n⟩ : Rs) = R at *
        generalize (if hit L o.key then without L o.key else L) = M at *
        go_enter Try.func32, Try.ntmps32
        go_wp2_with (first
          | ((with_reducible show wpList _ _ _ (⟨some 5, .box _ _, _, _, _, _⟩ :: _) _ _); refine wpList_box_blk rfl TO _ rfl o.cells rfl ?_; intro w1 hn K1 S1; clear S1; have HK := ((Kept.start w).below hn).add K1; have ST := Lib.hid (h.out.below hn); have z1 := hn.size; clear hn K1)
          | ((with_reducible show wpList _ _ _ (⟨some 6, .alloc _, _, _, _, _⟩ :: _) _ _); refine wpList_alloc_blk rfl TR rfl _ zero_res ?_; intro w2 hn K2 S2; clear S2; have lo := HK.lt (List.mem_cons_self); replace ST := Lib.hid (ST.out.below hn); replace HK := (HK.below hn).add K2; have g0 := ldO (HK.blk (b := w.heap.size) (T := TO) (cs := o.cells) (by simp)); have N1 := Lib.hid (none_at _ p m L ST.out); clear hn K2; generalize w1.heap.size = b6 at *)
          | (go_at_call 38; refine N1.out.mono ?_; rintro e w3 ⟨rfl, rfl⟩)
          | (go_at_call 42; refine (CK.out _).mono ?_; rintro e w4 ⟨rfl, hn⟩; replace ST := Lib.hid (ST.out.below hn); replace HK := HK.below hn; clear g0 hn; have o0 := HK.cell (b := w.heap.size) (T := TO) (cs := o.cells) (by simp) 0 rfl; have o1 := HK.cell (b := w.heap.size) (T := TO) (cs := o.cells) (by simp) 1 rfl; have g5 := ldO (HK.blk (b := w.heap.size) (T := TO) (cs := o.cells) (by simp)))
          | (go_at_call 44; refine (DR.out _ ST.out).mono ?_; rintro e w5 ⟨rfl, ST5, T5⟩; replace ST := Lib.hid ST5; have TM : Turned [m] w w5 := (HK.1.mono (by simp)).trans T5 (by simp); replace HK : Blk w5 b6 TR zeroR.cells := T5.blk (HK.blk (by simp)) (by simp; omega); clear ST5 T5 o0 o1 g5)
          | ((with_reducible show wpList _ _ _ (⟨none, .store TR (.tmp 6) _, _, _, _, _⟩ :: _) _ _); refine wpList_store_blk rfl TR _ _ rfl b6 TR zeroR.cells (R).cells 4 rfl rfl HK rfl (Rs.cellsN _) info_res ?_; intro w9 T9 K9 S9; clear S9))
        refine bodyPost_ret (results_cell1 (b := b6) (o := 0) (cs := (R).cells) Try.results32 rfl K9.rangeAll hd.out hdr info_res) rfl ⟨rfl, ST.out.keep T9 (by simp; omega) (by simp; omega), TM.trans T9 (fun k hk hm => by simp at hm; omega)⟩
      · rw [if_neg q3, if_neg q3]
        by_cases q4 : o.kind = 4
        · have er : (if o.kind = 4 ∧ (look L o.key n).ver ≠ o.ver then ⟨3, (look L o.key n).val, (look L o.key n).ver, n⟩ else ⟨1, [], n, n⟩ : Rs) = (if (look L o.key 0).ver ≠ o.ver then ⟨3, (look L o.key 0).val, (look L o.key 0).ver, n⟩ else ⟨1, [], n, n⟩ : Rs) := by
            rw [look_n]
            simp [q4]
          have el : (if o.kind = 4 ∧ (look L o.key n).ver ≠ o.ver then L else withC L ⟨o.key, o.val, n⟩) = (if (look L o.key 0).ver ≠ o.ver then L else withC L ⟨o.key, o.val, n⟩) := by
            rw [look_n]
            simp [q4]
          rw [er, el]
          clear er el
          have DR := Lib.hid (fun (w1 : World) (h1 : StAt w1 p m L) => swap_at w1 p m L h1 hl n o y2)
          generalize (if (look L o.key 0).ver ≠ o.ver then ⟨3, (look L o.key 0).val, (look L o.key 0).ver, n⟩ else ⟨1, [], n, n⟩ : Rs) = R at *
          generalize (if (look L o.key 0).ver ≠ o.ver then L else withC L ⟨o.key, o.val, n⟩) = M at *
          go_enter Try.func32, Try.ntmps32
          go_wp2_with (first
            | ((with_reducible show wpList _ _ _ (⟨some 5, .box _ _, _, _, _, _⟩ :: _) _ _); refine wpList_box_blk rfl TO _ rfl o.cells rfl ?_; intro w1 hn K1 S1; clear S1; have HK := ((Kept.start w).below hn).add K1; have ST := Lib.hid (h.out.below hn); have z1 := hn.size; clear hn K1)
            | ((with_reducible show wpList _ _ _ (⟨some 6, .alloc _, _, _, _, _⟩ :: _) _ _); refine wpList_alloc_blk rfl TR rfl _ zero_res ?_; intro w2 hn K2 S2; clear S2; have lo := HK.lt (List.mem_cons_self); replace ST := Lib.hid (ST.out.below hn); replace HK := (HK.below hn).add K2; have g0 := ldO (HK.blk (b := w.heap.size) (T := TO) (cs := o.cells) (by simp)); have N1 := Lib.hid (none_at _ p m L ST.out); clear hn K2; generalize w1.heap.size = b6 at *)
            | (go_at_call 38; refine N1.out.mono ?_; rintro e w3 ⟨rfl, rfl⟩)
            | (go_at_call 42; refine (CK.out _).mono ?_; rintro e w4 ⟨rfl, hn⟩; replace ST := Lib.hid (ST.out.below hn); replace HK := HK.below hn; clear g0 hn; have o0 := HK.cell (b := w.heap.size) (T := TO) (cs := o.cells) (by simp) 0 rfl; have o1 := HK.cell (b := w.heap.size) (T := TO) (cs := o.cells) (by simp) 1 rfl; have g5 := ldO (HK.blk (b := w.heap.size) (T := TO) (cs := o.cells) (by simp)))
            | (go_at_call 45; refine (DR.out _ ST.out).mono ?_; rintro e w5 ⟨rfl, ST5, T5⟩; replace ST := Lib.hid ST5; have TM : Turned [m] w w5 := (HK.1.mono (by simp)).trans T5 (by simp); replace HK : Blk w5 b6 TR zeroR.cells := T5.blk (HK.blk (by simp)) (by simp; omega); clear ST5 T5 o0 o1 g5)
            | ((with_reducible show wpList _ _ _ (⟨none, .store TR (.tmp 6) _, _, _, _, _⟩ :: _) _ _); refine wpList_store_blk rfl TR _ _ rfl b6 TR zeroR.cells (R).cells 4 rfl rfl HK rfl (Rs.cellsN _) info_res ?_; intro w9 T9 K9 S9; clear S9))
          refine bodyPost_ret (results_cell1 (b := b6) (o := 0) (cs := (R).cells) Try.results32 rfl K9.rangeAll hd.out hdr info_res) rfl ⟨rfl, ST.out.keep T9 (by simp; omega) (by simp; omega), TM.trans T9 (fun k hk hm => by simp at hm; omega)⟩
        · have q5 : ¬ (o.kind = 4 ∧ (look L o.key n).ver ≠ o.ver) := fun h => q4 h.1
          rw [if_neg q5, if_neg q5]
          clear q5
          have q2 : o.kind = 2 := by omega
          have DR := Lib.hid (fun (w1 : World) (h1 : StAt w1 p m L) => put_at w1 p m L h1 hl n o y2)
          generalize withC L ⟨o.key, o.val, n⟩ = M at *
          go_enter Try.func32, Try.ntmps32
          go_wp2_with (first
            | ((with_reducible show wpList _ _ _ (⟨some 5, .box _ _, _, _, _, _⟩ :: _) _ _); refine wpList_box_blk rfl TO _ rfl o.cells rfl ?_; intro w1 hn K1 S1; clear S1; have HK := ((Kept.start w).below hn).add K1; have ST := Lib.hid (h.out.below hn); have z1 := hn.size; clear hn K1)
            | ((with_reducible show wpList _ _ _ (⟨some 6, .alloc _, _, _, _, _⟩ :: _) _ _); refine wpList_alloc_blk rfl TR rfl _ zero_res ?_; intro w2 hn K2 S2; clear S2; have lo := HK.lt (List.mem_cons_self); replace ST := Lib.hid (ST.out.below hn); replace HK := (HK.below hn).add K2; have g0 := ldO (HK.blk (b := w.heap.size) (T := TO) (cs := o.cells) (by simp)); have N1 := Lib.hid (none_at _ p m L ST.out); clear hn K2; generalize w1.heap.size = b6 at *)
            | (go_at_call 38; refine N1.out.mono ?_; rintro e w3 ⟨rfl, rfl⟩)
            | (go_at_call 42; refine (CK.out _).mono ?_; rintro e w4 ⟨rfl, hn⟩; replace ST := Lib.hid (ST.out.below hn); replace HK := HK.below hn; clear g0 hn; have o0 := HK.cell (b := w.heap.size) (T := TO) (cs := o.cells) (by simp) 0 rfl; have o1 := HK.cell (b := w.heap.size) (T := TO) (cs := o.cells) (by simp) 1 rfl; have g5 := ldO (HK.blk (b := w.heap.size) (T := TO) (cs := o.cells) (by simp)))
            | (go_at_call 43; refine (DR.out _ ST.out).mono ?_; rintro e w5 ⟨rfl, ST5, T5⟩; replace ST := Lib.hid ST5; have TM : Turned [m] w w5 := (HK.1.mono (by simp)).trans T5 (by simp); replace HK : Blk w5 b6 TR zeroR.cells := T5.blk (HK.blk (by simp)) (by simp; omega); clear ST5 T5 o0 o1 g5)
            | ((with_reducible show wpList _ _ _ (⟨none, .store TR (.tmp 6) _, _, _, _, _⟩ :: _) _ _); refine wpList_store_blk rfl TR _ _ rfl b6 TR zeroR.cells (Rs.mk 1 [] n n).cells 4 rfl rfl HK rfl (Rs.cellsN _) info_res ?_; intro w9 T9 K9 S9; clear S9))
          refine bodyPost_ret (results_cell1 (b := b6) (o := 0) (cs := (Rs.mk 1 [] n n).cells) Try.results32 rfl K9.rangeAll hd.out hdr info_res) rfl ⟨rfl, ST.out.keep T9 (by simp; omega) (by simp; omega), TM.trans T9 (fun k hk hm => by simp at hm; omega)⟩
end Go.Proofs.Ytbmepaglhkndpaa.Kv
