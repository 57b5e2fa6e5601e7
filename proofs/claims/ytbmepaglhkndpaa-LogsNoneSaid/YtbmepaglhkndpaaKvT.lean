/-
  Contract of the document's answer for stores (fairwayref10): Apply. Conditions: those that it names.
-/
import Derived.Test.YtbmepaglhkndpaaKvS
import Derived.Test.YtbmepaglhkndpaaQuiet
import Derived.BigRegion
namespace Go.Proofs.Ytbmepaglhkndpaa.Kv
open Go.RowKit Go.Proofs.Ytbmepaglhkndpaa.Mem Go.Proofs.Ytbmepaglhkndpaa.Ops
set_option maxRecDepth 100000

theorem results_tcell {P : Program} {fn : Func} {p u : Tmp} {ty : TypeId} {tmps : Array Value} {w : World} {b o : Nat} {cs : List Value} {d : TypeDesc} (h : fn.results = #[.tmp u, .cell p ty]) (hp : tmps.getD p undef = .pointer (some ⟨b, o, none⟩))
    (hc : w.rangeAt b o cs) (hu : P.underlying ty = some d) (hd : d.isRow = true) (hi : (P.info? ty).map (·.size) = some cs.length) : (results fn tmps).run P w = .ok (.tuple #[tmps.getD u undef, .agg cs.toArray]) w := by
  have hl := run_loadVar_mid w b o ty cs d hc hu hd hi
  simp only [results, h]
  simp only [Array.getD_eq_getD_getElem?] at hp
  simp [hp, asAddr, hl]
section
variable (ρ : Operand → Value) (dst : Option Tmp) (x y : Operand) (tt : TypeId) (pos : String) (af : Array Edge) (g : Option (Nat × Bool)) (w : World)
theorem execLoadR : (execOp ρ ⟨dst, .load TR x, tt, pos, af, g⟩).run Try.prog w = ldRun Try.prog TR w (ρ x) := exec_load _ _ _ _ _ _ _ _ _
theorem execStoreR : (execOp ρ ⟨dst, .store TR x y, tt, pos, af, g⟩).run Try.prog w = stRun Try.prog TR w (ρ x) (ρ y) := exec_store _ _ _ _ _ _ _ _ _ _
end
theorem ldR {w : World} {b : Nat} {r : Rs} (h : Blk w b TR r.cells) : ldRun Try.prog TR w (.pointer (some ⟨b, 0, none⟩)) = .ok (.value (.agg r.cells.toArray)) w := by
  have := ldRun_row w b 0 TR 4 _ Try.underlying38 rfl info_res (h.rows (n := 4) rfl).1
  rw [(h.rows (n := 4) rfl).2] at this
  exact this
theorem stR {w : World} {b : Nat} {r r' : Rs} (h : Blk w b TR r.cells) : stRun Try.prog TR w (.pointer (some ⟨b, 0, none⟩)) (.agg r'.cells.toArray) = .ok .skip (w.setCells b 0 r'.cells) :=
  stRun_row w b 0 TR 4 r'.cells.toArray info_res (h.there 0 4 (by simp [Rs.cells])) r'.cellsN
theorem splice_all {cs ds : List Value} (h : cs.length = ds.length) : splice cs 0 ds = ds := by simp [splice, h]
theorem stB {w : World} {b : Nat} {r r' : Rs} (h : Blk w b TR r.cells) : Blk (w.setCells b 0 r'.cells) b TR r'.cells := by
  have := h.sets r'.cells 0 (by simp [Rs.cells])
  rwa [splice_all (by simp [Rs.cells])] at this
attribute [local go_sem ↓] execLoadO execLoadR execStoreR

/-- What Apply answers. -/
def ApplyP (base : Nat) (v : Value) (w : World) (L : List C) (n : Int) (o : O) (e : Ending) (w' : World) : Prop :=
  ∃ v', e = .returned (.tuple #[v', .agg (told L n o).cells.toArray]) ∧ CsO w' base v' (next L n o) ∧ Below w.heap.size w w' ∧ (v' = v ∨ ∀ k, v'.ownBlock = some k → w.heap.size ≤ k)
theorem ret_vr {v v' : Value} {r r' : Rs} (hv : v = v') (h : r = r') : Ending.returned (.tuple #[v, .agg r.cells.toArray]) = .returned (.tuple #[v', .agg r'.cells.toArray]) := by rw [hv, h]
theorem turned_refl' (S : List Nat) (w : World) : Turned S w w := ⟨rfl, rfl, rfl, Nat.le_refl _, fun _ _ _ => rfl⟩
/-- The cells of a block of results. -/
structure RCells (w : World) (b : Nat) (r : Rs) : Prop where
  c0 : w.cell? ⟨b, 0, none⟩ = some (.int .i64 r.code)
  c1 : w.cell? ⟨b, 1, none⟩ = some (.string ⟨r.val.toArray⟩)
  c2 : w.cell? ⟨b, 2, none⟩ = some (.int .i64 r.ver)
theorem rcells {w : World} {b : Nat} {r : Rs} (h : Blk w b TR r.cells) : RCells w b r := ⟨h.cell 0, h.cell 1, h.cell 2⟩
theorem refusedWays (n : Int) (o : O) (h : refused n o) : n < 1 ∨ (¬ n < 1 ∧ 4096 < n) ∨ (¬ n < 1 ∧ ¬ 4096 < n ∧ (o.check = 2 ∨ o.check = 3)) := by
  have := check_three o
  unfold refused at h
  omega
theorem kinds {n : Int} {o : O} (h : ¬ refused n o) : (¬ n < 1 ∧ ¬ 4096 < n ∧ o.check = 0) ∧ (o.kind = 1 ∨ o.kind = 2 ∨ o.kind = 3 ∨ o.kind = 4) := by
  unfold refused at h
  have hc : o.check = 0 := by omega
  obtain ⟨h1, h2, _⟩ := fine_of hc
  exact ⟨⟨by omega, by omega, hc⟩, by omega⟩

set_option maxHeartbeats 4000000 in
theorem rapply_any (w : World) (base : Nat) (v : Value) (L : List C) (h : CsO w base v L) (n : Int) (o : O) (hl : L.length ≤ 1000000) (hb : base ≤ w.heap.size) :
    Calls Try.prog 40 #[v, .int .i64 n, .agg o.cells.toArray] w (ApplyP base v w L n o) := by
  obtain ⟨d, hd, hdr⟩ := row_res
  replace hd := Lib.hid hd
  obtain ⟨d1, hd1, hdr1⟩ := row_op
  replace hd1 := Lib.hid hd1
  have CH := Lib.hid (rcheck_any o)
  have LK := Lib.hid (fun w1 (hw : CsO w1 base v L) => rlook_any w1 base v L hw o.key n hl)
  have WO := Lib.hid (fun w1 (hw : CsO w1 base v L) => rwithout_any w1 base v L hw o.key hl)
  have WI := Lib.hid (fun w1 (hw : CsO w1 base v L) => rwith_any w1 base v L hw ⟨o.key, o.val, n⟩ hl)
  have vlt : ∀ k, v.ownBlock = some k → k < w.heap.size := fun k hk => by
    rcases h.2 with ⟨rfl, _⟩ | ⟨g, cap, cur, rfl, _, h2, _⟩
    · simp [Value.ownBlock] at hk
    · simp [Value.ownBlock] at hk
      subst hk
      exact lt_of_block h2
  replace vlt := Lib.hid vlt
  by_cases hr : refused n o
  · have hq1 := Lib.hid (show next L n o = L from if_pos hr)
    have hq2 := Lib.hid (show told L n o = zeroR from if_pos hr)
    rcases refusedWays n o hr with a1 | ⟨a1, a2⟩ | ⟨a1, a2, a3 | a3⟩
    all_goals try rw [a3] at CH
    all_goals try clear a3
    all_goals clear hr
    all_goals
      go_enter Try.func40, Try.ntmps40
      go_wp2_with (first
        | ((with_reducible show wpList _ _ _ (⟨_, .box _ _, _, _, _, _⟩ :: _) _ _); refine wpList_box_blk rfl TO _ rfl o.cells rfl ?_; intro W1 B1 K1 S1; clear S1; have l1 := K1.lt; have HK := Lib.hid (((Kept.start w).below B1).add K1); have hM := Lib.hid (h.below B1); clear K1 B1)
        | ((with_reducible show wpList _ _ _ (⟨some 7, .alloc _, _, _, _, _⟩ :: _) _ _); refine wpList_alloc_blk rfl TR rfl _ zero_res ?_; intro W2 B2 K2 S2; clear S2; replace HK := Lib.hid ((HK.out.below B2).add K2); replace hM := Lib.hid (hM.out.below B2); have l2 := K2.lt; have r1 := ldO (HK.out.blk (b := w.heap.size) (T := TO) (cs := o.cells) (by simp)); clear K2 B2)
        | (go_at_call 33; refine (CH.out _).mono ?_; rintro e w3 ⟨rfl, hn⟩; replace HK := Lib.hid (HK.out.below hn); replace hM := Lib.hid (hM.out.below hn); have s3 := hn.size; obtain ⟨_, c1, _, _⟩ := ocells (HK.out.blk (b := w.heap.size) (T := TO) (cs := o.cells) (by simp)); clear hn r1)
        | ((with_reducible show wpList _ _ _ (⟨none, .store TR (.tmp 7) _, _, _, _, _⟩ :: _) _ _); refine wpList_store_blk rfl TR _ _ rfl W1.heap.size TR zeroR.cells (zeroR).cells 4 rfl rfl (HK.out.blk (by simp)) rfl (Rs.cellsN _) info_res ?_; intro WA TA KA SA; clear SA))
      refine bodyPost_ret (results_tcell (b := W1.heap.size) (o := 0) (cs := (zeroR).cells) Try.results40 rfl KA.rangeAll hd.out hdr info_res) rfl ⟨v, ret_vr rfl hq2.out.symm, ?_, HK.out.ends.trans (TA.below HK.out.1.size (by simp; omega)), .inl rfl⟩
      rw [hq1.out]
      exact hM.out.turned TA (fun k hk e => by have := vlt.out _ e; simp at hk; omega)
  · obtain ⟨⟨a1, a2, hc⟩, hk⟩ := kinds hr
    rw [hc] at CH
    clear hc
    have hq1 : next L n o = _ := if_neg hr
    have hq2 : told L n o = _ := if_neg hr
    clear hr
    unfold LookP at LK
    generalize hR : look L o.key n = R at *
    obtain ⟨k, y, vv, m⟩ := o
    simp only at hk hq1 hq2 LK WO WI hR
    replace hR := Lib.hid hR
    replace hq1 := Lib.hid hq1
    replace hq2 := Lib.hid hq2
    rcases hk with rfl | rfl | rfl | rfl
    · -- kind 1
      replace hq1 : Hid (next L n ⟨1, y, vv, m⟩ = L) := Lib.hid (by have := hq1.out; simpa using this)
      replace hq2 : Hid (told L n ⟨1, y, vv, m⟩ = R) := Lib.hid (by have := hq2.out; simpa using this)
      go_enter Try.func40, Try.ntmps40
      go_wp2_with (first
        | ((with_reducible show wpList _ _ _ (⟨_, .box _ _, _, _, _, _⟩ :: _) _ _); refine wpList_box_blk rfl TO _ rfl (O.mk 1 y vv m).cells rfl ?_; intro W1 B1 K1 S1; clear S1; have l1 := K1.lt; have HK := Lib.hid (((Kept.start w).below B1).add K1); have hM := Lib.hid (h.below B1); clear K1 B1)
        | ((with_reducible show wpList _ _ _ (⟨some 7, .alloc _, _, _, _, _⟩ :: _) _ _); refine wpList_alloc_blk rfl TR rfl _ zero_res ?_; intro W2 B2 K2 S2; clear S2; replace HK := Lib.hid ((HK.out.below B2).add K2); replace hM := Lib.hid (hM.out.below B2); have l2 := K2.lt; have r1 := ldO (HK.out.blk (b := w.heap.size) (T := TO) (cs := (O.mk 1 y vv m).cells) (by simp)); clear K2 B2)
        | (go_at_call 33; refine (CH.out _).mono ?_; rintro e w3 ⟨rfl, hn⟩; replace HK := Lib.hid (HK.out.below hn); replace hM := Lib.hid (hM.out.below hn); have s3 := hn.size; obtain ⟨_, c1, _, _⟩ := ocells (HK.out.blk (b := w.heap.size) (T := TO) (cs := (O.mk 1 y vv m).cells) (by simp)); clear hn r1)
        | (go_at_call 30; refine (LK.out _ hM.out).mono ?_; rintro e w4 ⟨rfl, hn⟩; replace HK := Lib.hid (HK.out.below hn); replace hM := Lib.hid (hM.out.below hn); have s4 := hn.size; clear hn c1)
        | ((with_reducible show wpList _ _ _ (⟨some 8, .alloc _, _, _, _, _⟩ :: _) _ _); refine wpList_alloc_blk rfl TR rfl _ zero_res ?_; intro W5 B5 K5 S5; clear S5; replace HK := Lib.hid (HK.out.below B5); replace hM := Lib.hid (hM.out.below B5); clear B5)
        | ((with_reducible show wpList _ _ _ (⟨none, .store TR (.tmp 8) _, _, _, _, _⟩ :: _) _ _); refine wpList_store_blk rfl TR _ _ rfl w4.heap.size TR zeroR.cells R.cells 4 rfl rfl K5 rfl (Rs.cellsN _) info_res ?_; intro W6 T6 K6 S6; clear S6; replace HK := Lib.hid ((HK.out.turned T6 (by omega) (fun x hx => by simp at hx; rcases hx with rfl | rfl <;> (simp; omega))).add K6); replace hM := Lib.hid (hM.out.turned T6 (fun k hk e => by have := vlt.out _ e; simp at hk; omega)); have l6 := K6.lt; obtain ⟨x0, x1, x2⟩ := rcells K6; obtain ⟨c0, c1, c2, c3⟩ := ocells (HK.out.blk (b := w.heap.size) (T := TO) (cs := (O.mk 1 y vv m).cells) (by simp)); clear K5 K6 T6))
      have HX : Hid (Kept w [(w4.heap.size, TR, R.cells), (W1.heap.size, TR, zeroR.cells), (w.heap.size, TO, (O.mk 1 y vv m).cells)] W6.drew) := Lib.hid HK.out.drew
      replace hM : Hid (CsO W6.drew base v L) := Lib.hid hM.out
      have g1 := ldR (HX.out.blk (b := w4.heap.size) (T := TR) (cs := R.cells) (by simp))
      obtain ⟨x0, x1, x2⟩ := rcells (HX.out.blk (b := w4.heap.size) (T := TR) (cs := R.cells) (by simp))
      have KZ := HX.out.blk (b := W1.heap.size) (T := TR) (cs := zeroR.cells) (by simp)
      have g2 : stRun Try.prog TR W6.drew (.pointer (some ⟨W1.heap.size, 0, none⟩)) (.agg (R).cells.toArray) = .ok .skip (W6.drew.setCells W1.heap.size 0 (R).cells) := stR KZ
      have KA := stB (r' := R) KZ
      have TA : Turned [W1.heap.size] W6.drew (W6.drew.setCells W1.heap.size 0 (R).cells) := (turned_refl' _ _).setCells (.inl (by simp)) _ _
      replace HK := HX
      clear HX KZ
      go_region
      all_goals go_wp2_with fail
      all_goals
        refine bodyPost_ret (results_tcell (b := W1.heap.size) (o := 0) (cs := (R).cells) Try.results40 rfl KA.rangeAll hd.out hdr info_res) rfl ⟨v, ret_vr rfl hq2.out.symm, ?_, HK.out.ends.trans (TA.below HK.out.1.size (by simp; omega)), .inl rfl⟩
        rw [hq1.out]
        exact hM.out.turned TA (fun k hk e => by have := vlt.out _ e; simp at hk; omega)
    · -- kind 2
      replace hq1 : Hid (next L n ⟨2, y, vv, m⟩ = withC L ⟨y, vv, n⟩) := Lib.hid (by have := hq1.out; simpa using this)
      replace hq2 : Hid (told L n ⟨2, y, vv, m⟩ = ⟨1, [], n, n⟩) := Lib.hid (by have := hq2.out; simpa using this)
      go_enter Try.func40, Try.ntmps40
      go_wp2_with (first
        | ((with_reducible show wpList _ _ _ (⟨_, .box _ _, _, _, _, _⟩ :: _) _ _); refine wpList_box_blk rfl TO _ rfl (O.mk 2 y vv m).cells rfl ?_; intro W1 B1 K1 S1; clear S1; have l1 := K1.lt; have HK := Lib.hid (((Kept.start w).below B1).add K1); have hM := Lib.hid (h.below B1); clear K1 B1)
        | ((with_reducible show wpList _ _ _ (⟨some 7, .alloc _, _, _, _, _⟩ :: _) _ _); refine wpList_alloc_blk rfl TR rfl _ zero_res ?_; intro W2 B2 K2 S2; clear S2; replace HK := Lib.hid ((HK.out.below B2).add K2); replace hM := Lib.hid (hM.out.below B2); have l2 := K2.lt; have r1 := ldO (HK.out.blk (b := w.heap.size) (T := TO) (cs := (O.mk 2 y vv m).cells) (by simp)); clear K2 B2)
        | (go_at_call 33; refine (CH.out _).mono ?_; rintro e w3 ⟨rfl, hn⟩; replace HK := Lib.hid (HK.out.below hn); replace hM := Lib.hid (hM.out.below hn); have s3 := hn.size; obtain ⟨_, c1, _, _⟩ := ocells (HK.out.blk (b := w.heap.size) (T := TO) (cs := (O.mk 2 y vv m).cells) (by simp)); clear hn r1)
        | (go_at_call 30; refine (LK.out _ hM.out).mono ?_; rintro e w4 ⟨rfl, hn⟩; replace HK := Lib.hid (HK.out.below hn); replace hM := Lib.hid (hM.out.below hn); have s4 := hn.size; clear hn c1)
        | ((with_reducible show wpList _ _ _ (⟨some 8, .alloc _, _, _, _, _⟩ :: _) _ _); refine wpList_alloc_blk rfl TR rfl _ zero_res ?_; intro W5 B5 K5 S5; clear S5; replace HK := Lib.hid (HK.out.below B5); replace hM := Lib.hid (hM.out.below B5); clear B5)
        | ((with_reducible show wpList _ _ _ (⟨none, .store TR (.tmp 8) _, _, _, _, _⟩ :: _) _ _); refine wpList_store_blk rfl TR _ _ rfl w4.heap.size TR zeroR.cells R.cells 4 rfl rfl K5 rfl (Rs.cellsN _) info_res ?_; intro W6 T6 K6 S6; clear S6; replace HK := Lib.hid ((HK.out.turned T6 (by omega) (fun x hx => by simp at hx; rcases hx with rfl | rfl <;> (simp; omega))).add K6); replace hM := Lib.hid (hM.out.turned T6 (fun k hk e => by have := vlt.out _ e; simp at hk; omega)); have l6 := K6.lt; obtain ⟨x0, x1, x2⟩ := rcells K6; obtain ⟨c0, c1, c2, c3⟩ := ocells (HK.out.blk (b := w.heap.size) (T := TO) (cs := (O.mk 2 y vv m).cells) (by simp)); clear K5 K6 T6)
        | (go_at_call 48; refine (WI.out _ hM.out).mono ?_; rintro e w9 ⟨v9, rfl, hM9, hn, ho9⟩; replace HK := Lib.hid (HK.out.below hn); have s9 := hn.size; replace hM9 := Lib.hid hM9; replace ho9 := Lib.hid ho9; clear hn x0 x1 x2 c0 c1 c2 c3)
        | ((with_reducible show wpList _ _ _ (⟨none, .store TR (.tmp 7) _, _, _, _, _⟩ :: _) _ _); refine wpList_store_blk rfl TR _ _ rfl W1.heap.size TR zeroR.cells (Rs.mk 1 [] n n).cells 4 rfl rfl (HK.out.blk (by simp)) rfl (Rs.cellsN _) info_res ?_; intro WA TA KA SA; clear SA))
      refine bodyPost_ret (results_tcell (b := W1.heap.size) (o := 0) (cs := (Rs.mk 1 [] n n).cells) Try.results40 rfl KA.rangeAll hd.out hdr info_res) rfl ⟨v9, ret_vr rfl hq2.out.symm, ?_, HK.out.ends.trans (TA.below HK.out.1.size (by simp; omega)), .inr (fun k hk => Nat.le_trans (by omega) (ho9.out k hk))⟩
      rw [hq1.out]
      exact (hM9.out.turned TA (fun k hk e => by have := ho9.out _ e; simp at hk; omega)).lower (by omega)
    · by_cases h2 : R.code = 2
      · -- kind 3
        replace hq1 : Hid (next L n ⟨3, y, vv, m⟩ = L) := Lib.hid (by have := hq1.out; simpa [h2] using this)
        replace hq2 : Hid (told L n ⟨3, y, vv, m⟩ = R) := Lib.hid (by have := hq2.out; simpa [h2] using this)
        have t2 : (R.code == 2) = true := by simpa using h2
        replace h2 := Lib.hid h2
        go_enter Try.func40, Try.ntmps40
        go_wp2_with (first
          | ((with_reducible show wpList _ _ _ (⟨_, .box _ _, _, _, _, _⟩ :: _) _ _); refine wpList_box_blk rfl TO _ rfl (O.mk 3 y vv m).cells rfl ?_; intro W1 B1 K1 S1; clear S1; have l1 := K1.lt; have HK := Lib.hid (((Kept.start w).below B1).add K1); have hM := Lib.hid (h.below B1); clear K1 B1)
          | ((with_reducible show wpList _ _ _ (⟨some 7, .alloc _, _, _, _, _⟩ :: _) _ _); refine wpList_alloc_blk rfl TR rfl _ zero_res ?_; intro W2 B2 K2 S2; clear S2; replace HK := Lib.hid ((HK.out.below B2).add K2); replace hM := Lib.hid (hM.out.below B2); have l2 := K2.lt; have r1 := ldO (HK.out.blk (b := w.heap.size) (T := TO) (cs := (O.mk 3 y vv m).cells) (by simp)); clear K2 B2)
          | (go_at_call 33; refine (CH.out _).mono ?_; rintro e w3 ⟨rfl, hn⟩; replace HK := Lib.hid (HK.out.below hn); replace hM := Lib.hid (hM.out.below hn); have s3 := hn.size; obtain ⟨_, c1, _, _⟩ := ocells (HK.out.blk (b := w.heap.size) (T := TO) (cs := (O.mk 3 y vv m).cells) (by simp)); clear hn r1)
          | (go_at_call 30; refine (LK.out _ hM.out).mono ?_; rintro e w4 ⟨rfl, hn⟩; replace HK := Lib.hid (HK.out.below hn); replace hM := Lib.hid (hM.out.below hn); have s4 := hn.size; clear hn c1)
          | ((with_reducible show wpList _ _ _ (⟨some 8, .alloc _, _, _, _, _⟩ :: _) _ _); refine wpList_alloc_blk rfl TR rfl _ zero_res ?_; intro W5 B5 K5 S5; clear S5; replace HK := Lib.hid (HK.out.below B5); replace hM := Lib.hid (hM.out.below B5); clear B5)
          | ((with_reducible show wpList _ _ _ (⟨none, .store TR (.tmp 8) _, _, _, _, _⟩ :: _) _ _); refine wpList_store_blk rfl TR _ _ rfl w4.heap.size TR zeroR.cells R.cells 4 rfl rfl K5 rfl (Rs.cellsN _) info_res ?_; intro W6 T6 K6 S6; clear S6; replace HK := Lib.hid ((HK.out.turned T6 (by omega) (fun x hx => by simp at hx; rcases hx with rfl | rfl <;> (simp; omega))).add K6); replace hM := Lib.hid (hM.out.turned T6 (fun k hk e => by have := vlt.out _ e; simp at hk; omega)); have l6 := K6.lt; obtain ⟨x0, x1, x2⟩ := rcells K6; obtain ⟨c0, c1, c2, c3⟩ := ocells (HK.out.blk (b := w.heap.size) (T := TO) (cs := (O.mk 3 y vv m).cells) (by simp)); clear K5 K6 T6))
        have HX : Hid (Kept w [(w4.heap.size, TR, R.cells), (W1.heap.size, TR, zeroR.cells), (w.heap.size, TO, (O.mk 3 y vv m).cells)] W6.drew) := Lib.hid HK.out.drew
        replace hM : Hid (CsO W6.drew base v L) := Lib.hid hM.out
        have g1 := ldR (HX.out.blk (b := w4.heap.size) (T := TR) (cs := R.cells) (by simp))
        obtain ⟨x0, x1, x2⟩ := rcells (HX.out.blk (b := w4.heap.size) (T := TR) (cs := R.cells) (by simp))
        have KZ := HX.out.blk (b := W1.heap.size) (T := TR) (cs := zeroR.cells) (by simp)
        have g2 : stRun Try.prog TR W6.drew (.pointer (some ⟨W1.heap.size, 0, none⟩)) (.agg (R).cells.toArray) = .ok .skip (W6.drew.setCells W1.heap.size 0 (R).cells) := stR KZ
        have KA := stB (r' := R) KZ
        have TA : Turned [W1.heap.size] W6.drew (W6.drew.setCells W1.heap.size 0 (R).cells) := (turned_refl' _ _).setCells (.inl (by simp)) _ _
        replace HK := HX
        clear HX KZ
        go_region
        all_goals go_wp2_with fail
        all_goals
          refine bodyPost_ret (results_tcell (b := W1.heap.size) (o := 0) (cs := (R).cells) Try.results40 rfl KA.rangeAll hd.out hdr info_res) rfl ⟨v, ret_vr rfl hq2.out.symm, ?_, HK.out.ends.trans (TA.below HK.out.1.size (by simp; omega)), .inl rfl⟩
          rw [hq1.out]
          exact hM.out.turned TA (fun k hk e => by have := vlt.out _ e; simp at hk; omega)
      · -- kind 3
        replace hq1 : Hid (next L n ⟨3, y, vv, m⟩ = without L y) := Lib.hid (by have := hq1.out; simpa [h2] using this)
        replace hq2 : Hid (told L n ⟨3, y, vv, m⟩ = ⟨1, [], 0, n⟩) := Lib.hid (by have := hq2.out; simpa [h2] using this)
        have t2 : (R.code == 2) = false := by simpa using h2
        replace h2 := Lib.hid h2
        go_enter Try.func40, Try.ntmps40
        go_wp2_with (first
          | ((with_reducible show wpList _ _ _ (⟨_, .box _ _, _, _, _, _⟩ :: _) _ _); refine wpList_box_blk rfl TO _ rfl (O.mk 3 y vv m).cells rfl ?_; intro W1 B1 K1 S1; clear S1; have l1 := K1.lt; have HK := Lib.hid (((Kept.start w).below B1).add K1); have hM := Lib.hid (h.below B1); clear K1 B1)
          | ((with_reducible show wpList _ _ _ (⟨some 7, .alloc _, _, _, _, _⟩ :: _) _ _); refine wpList_alloc_blk rfl TR rfl _ zero_res ?_; intro W2 B2 K2 S2; clear S2; replace HK := Lib.hid ((HK.out.below B2).add K2); replace hM := Lib.hid (hM.out.below B2); have l2 := K2.lt; have r1 := ldO (HK.out.blk (b := w.heap.size) (T := TO) (cs := (O.mk 3 y vv m).cells) (by simp)); clear K2 B2)
          | (go_at_call 33; refine (CH.out _).mono ?_; rintro e w3 ⟨rfl, hn⟩; replace HK := Lib.hid (HK.out.below hn); replace hM := Lib.hid (hM.out.below hn); have s3 := hn.size; obtain ⟨_, c1, _, _⟩ := ocells (HK.out.blk (b := w.heap.size) (T := TO) (cs := (O.mk 3 y vv m).cells) (by simp)); clear hn r1)
          | (go_at_call 30; refine (LK.out _ hM.out).mono ?_; rintro e w4 ⟨rfl, hn⟩; replace HK := Lib.hid (HK.out.below hn); replace hM := Lib.hid (hM.out.below hn); have s4 := hn.size; clear hn c1)
          | ((with_reducible show wpList _ _ _ (⟨some 8, .alloc _, _, _, _, _⟩ :: _) _ _); refine wpList_alloc_blk rfl TR rfl _ zero_res ?_; intro W5 B5 K5 S5; clear S5; replace HK := Lib.hid (HK.out.below B5); replace hM := Lib.hid (hM.out.below B5); clear B5)
          | ((with_reducible show wpList _ _ _ (⟨none, .store TR (.tmp 8) _, _, _, _, _⟩ :: _) _ _); refine wpList_store_blk rfl TR _ _ rfl w4.heap.size TR zeroR.cells R.cells 4 rfl rfl K5 rfl (Rs.cellsN _) info_res ?_; intro W6 T6 K6 S6; clear S6; replace HK := Lib.hid ((HK.out.turned T6 (by omega) (fun x hx => by simp at hx; rcases hx with rfl | rfl <;> (simp; omega))).add K6); replace hM := Lib.hid (hM.out.turned T6 (fun k hk e => by have := vlt.out _ e; simp at hk; omega)); have l6 := K6.lt; obtain ⟨x0, x1, x2⟩ := rcells K6; obtain ⟨c0, c1, c2, c3⟩ := ocells (HK.out.blk (b := w.heap.size) (T := TO) (cs := (O.mk 3 y vv m).cells) (by simp)); clear K5 K6 T6)
          | (go_at_call 47; refine (WO.out _ hM.out).mono ?_; rintro e w9 ⟨v9, rfl, hM9, hn, ho9⟩; replace HK := Lib.hid (HK.out.below hn); have s9 := hn.size; replace hM9 := Lib.hid hM9; replace ho9 := Lib.hid ho9; clear hn x0 x1 x2 c0 c1 c2 c3)
          | ((with_reducible show wpList _ _ _ (⟨none, .store TR (.tmp 7) _, _, _, _, _⟩ :: _) _ _); refine wpList_store_blk rfl TR _ _ rfl W1.heap.size TR zeroR.cells (Rs.mk 1 [] 0 n).cells 4 rfl rfl (HK.out.blk (by simp)) rfl (Rs.cellsN _) info_res ?_; intro WA TA KA SA; clear SA))
        refine bodyPost_ret (results_tcell (b := W1.heap.size) (o := 0) (cs := (Rs.mk 1 [] 0 n).cells) Try.results40 rfl KA.rangeAll hd.out hdr info_res) rfl ⟨v9, ret_vr rfl hq2.out.symm, ?_, HK.out.ends.trans (TA.below HK.out.1.size (by simp; omega)), .inr (fun k hk => Nat.le_trans (by omega) (ho9.out k hk))⟩
        rw [hq1.out]
        exact (hM9.out.turned TA (fun k hk e => by have := ho9.out _ e; simp at hk; omega)).lower (by omega)
    · by_cases h2 : R.ver = m
      · -- kind 4
        replace hq1 : Hid (next L n ⟨4, y, vv, m⟩ = withC L ⟨y, vv, n⟩) := Lib.hid (by have := hq1.out; simpa [h2] using this)
        replace hq2 : Hid (told L n ⟨4, y, vv, m⟩ = ⟨1, [], n, n⟩) := Lib.hid (by have := hq2.out; simpa [h2] using this)
        have t2 : (R.ver == m) = true := by simpa using h2
        have t3 : ¬ ¬ R.ver = m := fun f => f h2
        replace h2 := Lib.hid h2
        go_enter Try.func40, Try.ntmps40
        go_wp2_with (first
          | ((with_reducible show wpList _ _ _ (⟨_, .box _ _, _, _, _, _⟩ :: _) _ _); refine wpList_box_blk rfl TO _ rfl (O.mk 4 y vv m).cells rfl ?_; intro W1 B1 K1 S1; clear S1; have l1 := K1.lt; have HK := Lib.hid (((Kept.start w).below B1).add K1); have hM := Lib.hid (h.below B1); clear K1 B1)
          | ((with_reducible show wpList _ _ _ (⟨some 7, .alloc _, _, _, _, _⟩ :: _) _ _); refine wpList_alloc_blk rfl TR rfl _ zero_res ?_; intro W2 B2 K2 S2; clear S2; replace HK := Lib.hid ((HK.out.below B2).add K2); replace hM := Lib.hid (hM.out.below B2); have l2 := K2.lt; have r1 := ldO (HK.out.blk (b := w.heap.size) (T := TO) (cs := (O.mk 4 y vv m).cells) (by simp)); clear K2 B2)
          | (go_at_call 33; refine (CH.out _).mono ?_; rintro e w3 ⟨rfl, hn⟩; replace HK := Lib.hid (HK.out.below hn); replace hM := Lib.hid (hM.out.below hn); have s3 := hn.size; obtain ⟨_, c1, _, _⟩ := ocells (HK.out.blk (b := w.heap.size) (T := TO) (cs := (O.mk 4 y vv m).cells) (by simp)); clear hn r1)
          | (go_at_call 30; refine (LK.out _ hM.out).mono ?_; rintro e w4 ⟨rfl, hn⟩; replace HK := Lib.hid (HK.out.below hn); replace hM := Lib.hid (hM.out.below hn); have s4 := hn.size; clear hn c1)
          | ((with_reducible show wpList _ _ _ (⟨some 8, .alloc _, _, _, _, _⟩ :: _) _ _); refine wpList_alloc_blk rfl TR rfl _ zero_res ?_; intro W5 B5 K5 S5; clear S5; replace HK := Lib.hid (HK.out.below B5); replace hM := Lib.hid (hM.out.below B5); clear B5)
          | ((with_reducible show wpList _ _ _ (⟨none, .store TR (.tmp 8) _, _, _, _, _⟩ :: _) _ _); refine wpList_store_blk rfl TR _ _ rfl w4.heap.size TR zeroR.cells R.cells 4 rfl rfl K5 rfl (Rs.cellsN _) info_res ?_; intro W6 T6 K6 S6; clear S6; replace HK := Lib.hid ((HK.out.turned T6 (by omega) (fun x hx => by simp at hx; rcases hx with rfl | rfl <;> (simp; omega))).add K6); replace hM := Lib.hid (hM.out.turned T6 (fun k hk e => by have := vlt.out _ e; simp at hk; omega)); have l6 := K6.lt; obtain ⟨x0, x1, x2⟩ := rcells K6; obtain ⟨c0, c1, c2, c3⟩ := ocells (HK.out.blk (b := w.heap.size) (T := TO) (cs := (O.mk 4 y vv m).cells) (by simp)); clear K5 K6 T6)
          | (go_at_call 48; refine (WI.out _ hM.out).mono ?_; rintro e w9 ⟨v9, rfl, hM9, hn, ho9⟩; replace HK := Lib.hid (HK.out.below hn); have s9 := hn.size; replace hM9 := Lib.hid hM9; replace ho9 := Lib.hid ho9; clear hn x0 x1 x2 c0 c1 c2 c3)
          | ((with_reducible show wpList _ _ _ (⟨none, .store TR (.tmp 7) _, _, _, _, _⟩ :: _) _ _); refine wpList_store_blk rfl TR _ _ rfl W1.heap.size TR zeroR.cells (Rs.mk 1 [] n n).cells 4 rfl rfl (HK.out.blk (by simp)) rfl (Rs.cellsN _) info_res ?_; intro WA TA KA SA; clear SA))
        refine bodyPost_ret (results_tcell (b := W1.heap.size) (o := 0) (cs := (Rs.mk 1 [] n n).cells) Try.results40 rfl KA.rangeAll hd.out hdr info_res) rfl ⟨v9, ret_vr rfl hq2.out.symm, ?_, HK.out.ends.trans (TA.below HK.out.1.size (by simp; omega)), .inr (fun k hk => Nat.le_trans (by omega) (ho9.out k hk))⟩
        rw [hq1.out]
        exact (hM9.out.turned TA (fun k hk e => by have := ho9.out _ e; simp at hk; omega)).lower (by omega)
      · -- kind 4
        replace hq1 : Hid (next L n ⟨4, y, vv, m⟩ = L) := Lib.hid (by have := hq1.out; simpa [h2] using this)
        replace hq2 : Hid (told L n ⟨4, y, vv, m⟩ = ⟨3, R.val, R.ver, n⟩) := Lib.hid (by have := hq2.out; simpa [h2] using this)
        have t2 : (R.ver == m) = false := by simpa using h2
        go_enter Try.func40, Try.ntmps40
        go_wp2_with (first
          | ((with_reducible show wpList _ _ _ (⟨_, .box _ _, _, _, _, _⟩ :: _) _ _); refine wpList_box_blk rfl TO _ rfl (O.mk 4 y vv m).cells rfl ?_; intro W1 B1 K1 S1; clear S1; have l1 := K1.lt; have HK := Lib.hid (((Kept.start w).below B1).add K1); have hM := Lib.hid (h.below B1); clear K1 B1)
          | ((with_reducible show wpList _ _ _ (⟨some 7, .alloc _, _, _, _, _⟩ :: _) _ _); refine wpList_alloc_blk rfl TR rfl _ zero_res ?_; intro W2 B2 K2 S2; clear S2; replace HK := Lib.hid ((HK.out.below B2).add K2); replace hM := Lib.hid (hM.out.below B2); have l2 := K2.lt; have r1 := ldO (HK.out.blk (b := w.heap.size) (T := TO) (cs := (O.mk 4 y vv m).cells) (by simp)); clear K2 B2)
          | (go_at_call 33; refine (CH.out _).mono ?_; rintro e w3 ⟨rfl, hn⟩; replace HK := Lib.hid (HK.out.below hn); replace hM := Lib.hid (hM.out.below hn); have s3 := hn.size; obtain ⟨_, c1, _, _⟩ := ocells (HK.out.blk (b := w.heap.size) (T := TO) (cs := (O.mk 4 y vv m).cells) (by simp)); clear hn r1)
          | (go_at_call 30; refine (LK.out _ hM.out).mono ?_; rintro e w4 ⟨rfl, hn⟩; replace HK := Lib.hid (HK.out.below hn); replace hM := Lib.hid (hM.out.below hn); have s4 := hn.size; clear hn c1)
          | ((with_reducible show wpList _ _ _ (⟨some 8, .alloc _, _, _, _, _⟩ :: _) _ _); refine wpList_alloc_blk rfl TR rfl _ zero_res ?_; intro W5 B5 K5 S5; clear S5; replace HK := Lib.hid (HK.out.below B5); replace hM := Lib.hid (hM.out.below B5); clear B5)
          | ((with_reducible show wpList _ _ _ (⟨none, .store TR (.tmp 8) _, _, _, _, _⟩ :: _) _ _); refine wpList_store_blk rfl TR _ _ rfl w4.heap.size TR zeroR.cells R.cells 4 rfl rfl K5 rfl (Rs.cellsN _) info_res ?_; intro W6 T6 K6 S6; clear S6; replace HK := Lib.hid ((HK.out.turned T6 (by omega) (fun x hx => by simp at hx; rcases hx with rfl | rfl <;> (simp; omega))).add K6); replace hM := Lib.hid (hM.out.turned T6 (fun k hk e => by have := vlt.out _ e; simp at hk; omega)); have l6 := K6.lt; obtain ⟨x0, x1, x2⟩ := rcells K6; obtain ⟨c0, c1, c2, c3⟩ := ocells (HK.out.blk (b := w.heap.size) (T := TO) (cs := (O.mk 4 y vv m).cells) (by simp)); clear K5 K6 T6))
        have HX : Hid (Kept w [(w4.heap.size, TR, R.cells), (W1.heap.size, TR, zeroR.cells), (w.heap.size, TO, (O.mk 4 y vv m).cells)] W6.drew) := Lib.hid HK.out.drew
        replace hM : Hid (CsO W6.drew base v L) := Lib.hid hM.out
        have g1 := ldR (HX.out.blk (b := w4.heap.size) (T := TR) (cs := R.cells) (by simp))
        obtain ⟨x0, x1, x2⟩ := rcells (HX.out.blk (b := w4.heap.size) (T := TR) (cs := R.cells) (by simp))
        have KZ := HX.out.blk (b := W1.heap.size) (T := TR) (cs := zeroR.cells) (by simp)
        have g2 : stRun Try.prog TR W6.drew (.pointer (some ⟨W1.heap.size, 0, none⟩)) (.agg (Rs.mk 3 R.val R.ver n).cells.toArray) = .ok .skip (W6.drew.setCells W1.heap.size 0 (Rs.mk 3 R.val R.ver n).cells) := stR KZ
        replace g2 : stRun Try.prog TR W6.drew (.pointer (some ⟨W1.heap.size, 0, none⟩)) (.agg #[.int .i64 3, .string ⟨R.val.toArray⟩, .int .i64 R.ver, .int .i64 n]) = .ok .skip (W6.drew.setCells W1.heap.size 0 (Rs.mk 3 R.val R.ver n).cells) := g2
        have KA := stB (r' := Rs.mk 3 R.val R.ver n) KZ
        have TA : Turned [W1.heap.size] W6.drew (W6.drew.setCells W1.heap.size 0 (Rs.mk 3 R.val R.ver n).cells) := (turned_refl' _ _).setCells (.inl (by simp)) _ _
        replace HK := HX
        clear HX KZ
        go_region
        all_goals go_wp2_with fail
        all_goals
          refine bodyPost_ret (results_tcell (b := W1.heap.size) (o := 0) (cs := (Rs.mk 3 R.val R.ver n).cells) Try.results40 rfl KA.rangeAll hd.out hdr info_res) rfl ⟨v, ret_vr rfl hq2.out.symm, ?_, HK.out.ends.trans (TA.below HK.out.1.size (by simp; omega)), .inl rfl⟩
          rw [hq1.out]
          exact hM.out.turned TA (fun k hk e => by have := vlt.out _ e; simp at hk; omega)
end Go.Proofs.Ytbmepaglhkndpaa.Kv
