/-
  Entries compared; an entry's operation written in a row of entries that the call owns. Conditions: those that each names.
-/
import Derived.Test.YtbmepaglhkndpaaLogC
import Derived.Test.YtbmepaglhkndpaaLogEq
import Derived.Test.YtbmepaglhkndpaaLogV
import Derived.Test.YtbmepaglhkndpaaLogO
import Derived.Test.YtbmepaglhkndpaaLogG
namespace Go.Proofs.Ytbmepaglhkndpaa.Logs
open Go.RowKit Go.Proofs.Ytbmepaglhkndpaa.Mem Go.Proofs.Ytbmepaglhkndpaa.Ops Go.Proofs.Ytbmepaglhkndpaa.Kv

theorem splice_mid (A M B : List Value) (o : Nat) (vs : List Value) (h : o + vs.length ≤ M.length) : splice (A ++ (M ++ B)) (A.length + o) vs = A ++ (splice M o vs ++ B) := by
  unfold splice
  rw [List.take_append, List.take_of_length_le (by omega : A.length ≤ A.length + o), show A.length + o - A.length = o from by omega, List.take_append_of_le_length (by omega)]
  rw [show A.length + o + vs.length = A.length + (o + vs.length) from by omega, List.drop_append, List.drop_of_length_le (by omega : A.length ≤ A.length + (o + vs.length)), show A.length + (o + vs.length) - A.length = o + vs.length from by omega, List.drop_append_of_le_length (by omega)]
  simp
theorem take_splice (L : List Value) (n o : Nat) (vs : List Value) (h : o + vs.length ≤ n) (hn : n ≤ L.length) : (splice L o vs).take n = splice (L.take n) o vs := by
  unfold splice
  rw [List.take_append, List.length_take, Nat.min_eq_left (by omega), List.take_append, List.take_of_length_le (by simp; omega), List.take_of_length_le (by omega : vs.length ≤ n - o), List.take_take, List.drop_take, Nat.min_eq_left (by omega)]
  rw [show n - o - vs.length = n - (o + vs.length) from by omega]
theorem row_setOp {L : List E} {n : Nat} {e : E} (o : O) (h : L[n]? = some e) : kE.row (setOp L n o) = splice (kE.row L) (n * 7 + 3) o.cells := by
  have hn := (List.getElem?_eq_some_iff.1 h).1
  have hs : setOp L n o = L.take n ++ ({ e with op := o } : E) :: L.drop (n + 1) := by
    unfold setOp
    rw [h]
    simp only [List.set_eq_take_append_cons_drop, if_pos hn]
  have hL : L = L.take n ++ e :: L.drop (n + 1) := by
    rw [← (List.getElem?_eq_some_iff.1 h).2, List.getElem_cons_drop, List.take_append_drop]
  have hrow : kE.row L = kE.row (L.take n) ++ (e.cells ++ kE.row (L.drop (n + 1))) := by
    have : kE.row L = kE.row (L.take n ++ ([e] ++ L.drop (n + 1))) := by rw [show [e] ++ L.drop (n + 1) = e :: L.drop (n + 1) from rfl, ← hL]
    rw [this, kE.row_app, kE.row_app, kE.row_one]; rfl
  have hlen : (kE.row (L.take n)).length = n * 7 := by
    rw [kE.row_len, List.length_take, Nat.min_eq_left (by omega)]; rfl
  rw [hs, hrow, ← hlen, splice_mid _ _ _ 3 _ (by simp [E.cells, O.cells]), kE.row_app, show ({ e with op := o } : E) :: L.drop (n + 1) = [({ e with op := o } : E)] ++ L.drop (n + 1) from rfl, kE.row_app, kE.row_one]
  rfl
theorem own_setOp {w : World} {base : Nat} {v : Value} {L : List E} {n : Nat} {e : E} (o : O) (h : kE.Own w base v L) (hn : L[n]? = some e) :
    ∃ g cap cs, v = .slice (some ⟨g, 0, none⟩) L.length cap ∧ base ≤ g ∧ Blk w g TEn cs ∧ n * 7 + 7 ≤ cs.length ∧ ∀ W, Turned [g] w W → Blk W g TEn (splice cs (n * 7 + 3) o.cells) → kE.Own W base v (setOp L n o) := by
  have hlt := (List.getElem?_eq_some_iff.1 hn).1
  obtain ⟨hx, hy⟩ := h
  rcases hy with ⟨rfl, h0⟩ | ⟨g, cap, cur, rfl, h1, h2, h3, h4, h5, h6⟩
  · omega
  · have h5' : cur.size = cap * 7 := h5
    have h6' : cur.toList.take (L.length * 7) = kE.row L := h6
    refine ⟨g, cap, cur.toList, rfl, h1, by have h2' : w.heap[g]? = some (Obj.cells cur TEn) := h2; unfold Blk; simpa using h2', by simp; omega, fun W hT hB => ?_⟩
    have hl : (setOp L n o).length = L.length := setOp_len _ _ _
    refine ⟨by rw [kE.row_len], .inr ⟨g, cap, (splice cur.toList (n * 7 + 3) o.cells).toArray, by rw [hl], h1, hB, by rw [hl]; exact h3, h4, ?_, ?_⟩⟩
    · show (splice cur.toList (n * 7 + 3) o.cells).toArray.size = cap * 7
      simp [splice, O.cells]
      omega
    · show (splice cur.toList (n * 7 + 3) o.cells).toArray.toList.take ((setOp L n o).length * 7) = kE.row (setOp L n o)
      rw [hl, List.toList_toArray, take_splice _ _ _ _ (by simp [O.cells]; omega) (by simp; omega), h6', row_setOp o hn]
/-- A row of entries that the call owns. -/
def rowOb (base : Nat) (v : Value) (L : List E) : Ob := ⟨v.ownBlock.toList, fun W => kE.Own W base v L, fun h t hd => h.turned t (fun k hk e => hd k (by simp [e]) hk), fun h x hx => (h.lt x (by simpa using hx)).2⟩
section
variable {w0 W W' : World} {obs post : List Ob} {o1 o2 o3 o4 o5 o6 : Ob} {p x base : Nat} {S S' : List Nat} {v : Value} {L L' : List E} {T : TypeId} {cs cs' : List Value}
theorem sepRow (h : Hid (Sep w0 obs W)) (ho : rowOb base v L ∈ obs) : kE.Own W base v L := h.out.has _ ho
theorem sepLgEnd (obs : List Ob) (h : Hid (Sep w0 obs W)) (hb : Below W.heap.size W W') (hI : LgAt W' p S L) (hS : ∀ b ∈ S, W.heap.size ≤ b) : Hid (Sep w0 (obs ++ [lgOb p S L]) W') :=
  Lib.hid ((h.out.push hb (lgOb p S L) hI hS).perm (by have := (List.perm_append_comm (l₁ := [lgOb p S L]) (l₂ := obs)); simpa using this))
theorem sepRowEnd (obs : List Ob) (h : Hid (Sep w0 obs W)) (hb : Below W.heap.size W W') (hI : kE.Own W' W.heap.size v L) : Hid (Sep w0 (obs ++ [rowOb w0.heap.size v L]) W') :=
  Lib.hid ((h.out.push hb (rowOb w0.heap.size v L) (hI.lower h.out.size) (fun b hb' => (hI.lt b (by simpa [rowOb] using hb')).1)).perm (by have := (List.perm_append_comm (l₁ := [rowOb w0.heap.size v L]) (l₂ := obs)); simpa using this))
theorem sepEnd3 (h : Hid (Sep w0 [o1, o2, o3] W)) : Hid (Sep w0 [o1, o2, o3, blkOb W.heap.size T cs] (W.alloc (.cells cs.toArray T))) := sepEnd [o1, o2, o3] h ((Below.refl _ _).alloc (Nat.le_refl _) _) (Blk.new W T cs) (Nat.le_refl _)
theorem sepSet3 (h : Hid (Sep w0 (o1 :: o2 :: o3 :: blkOb x T cs :: post) W)) (hl : cs.length = cs'.length) : Hid (Sep w0 (o1 :: o2 :: o3 :: blkOb x T cs' :: post) (W.setCells x 0 cs')) := Lib.hid (Sep.turn [o1, o2, o3] h.out (turnedSets 0 cs') (blkSets (h.out.blk (by simp)) hl))
theorem sepTop3 (h : Hid (Sep w0 (o1 :: o2 :: o3 :: post) W)) : Hid (Sep w0 [o1, o2, o3] W) := Lib.hid (h.out.less (List.sublist_append_left [o1, o2, o3] post))
theorem sepTop4 (h : Hid (Sep w0 (o1 :: o2 :: o3 :: o4 :: post) W)) : Hid (Sep w0 [o1, o2, o3, o4] W) := Lib.hid (h.out.less (List.sublist_append_left [o1, o2, o3, o4] post))
theorem sepBlk6 (h : Hid (Sep w0 (o1 :: o2 :: o3 :: o4 :: o5 :: o6 :: blkOb x T cs :: post) W)) (t : Turned [x] W W') (hI : Blk W' x T cs') : Hid (Sep w0 (o1 :: o2 :: o3 :: o4 :: o5 :: o6 :: blkOb x T cs' :: post) W') := Lib.hid (Sep.turn [o1, o2, o3, o4, o5, o6] h.out t hI)
theorem sepBlk3 (h : Hid (Sep w0 (o1 :: o2 :: o3 :: blkOb x T cs :: post) W)) (t : Turned [x] W W') (hI : Blk W' x T cs') : Hid (Sep w0 (o1 :: o2 :: o3 :: blkOb x T cs' :: post) W') := Lib.hid (Sep.turn [o1, o2, o3] h.out t hI)
theorem sepRow3 (h : Hid (Sep w0 (o1 :: o2 :: o3 :: rowOb base v L :: post) W)) (t : Turned v.ownBlock.toList W W') (hI : kE.Own W' base v L') : Hid (Sep w0 (o1 :: o2 :: o3 :: rowOb base v L' :: post) W') := Lib.hid (Sep.act [o1, o2, o3] h.out t (rowOb base v L') hI (fun _ hx => .inl hx))
end
theorem ldActAt {w : World} {b off : Nat} {a : A} (hr : w.rangeAt b off a.cells) : ldRun Try.prog TA w (.pointer (some ⟨b, off, none⟩)) = .ok (.value (.agg a.cells.toArray)) w := by
  have := ldRun_row w b off TA 8 _ Try.underlying36 rfl info_actN (hasRow_of_range (n := 8) hr rfl)
  rw [row_of_range (n := 8) hr rfl] at this
  exact this
theorem stEn {w : World} {b : Nat} {e e' : E} (h : Blk w b TEn e.cells) : stRun Try.prog TEn w (.pointer (some ⟨b, 0, none⟩)) (.agg e'.cells.toArray) = .ok .skip (w.setCells b 0 e'.cells) :=
  stRun_row w b 0 TEn 7 e'.cells.toArray info_entryN (h.there 0 7 (by simp [E.cells, O.cells])) e'.cellsN
theorem wpList_store_part {P : Program} {ops : Array Oper} {rest : List Oper} {op : Oper} {a : Act} {w : World} {Q : Exit → Act → World → Prop} (hgd : op.guard = none) (ty : TypeId) (x y : Operand) (ho : op.op = .store ty x y)
    (b o : Nat) (T : TypeId) (zs cs : List Value) (n : Nat) (hx : a.eval x = .pointer (some ⟨b, o, none⟩)) (hy : a.eval y = .agg cs.toArray) (hb : Blk w b T zs) (hz : o + n ≤ zs.length) (hc : CellsN n cs.toArray) (hi : (P.info? ty).map (·.size) = some n)
    (h : ∀ W, Turned [b] w W → Blk W b T (splice zs o cs) → wpList P ops Q rest (a.put op.dst undef) W) : wpList P ops Q (op :: rest) a w := by
  have hcl : cs.length = n := by simpa using hc.1
  refine wpList_store_mid hgd ty x y ho b o cs.toArray hx hy (by rw [hc.1]; exact hb.there o n hz) (by rw [hc.1]; exact hi) hc.2 (h _ ?_ ?_)
  · exact turnedSets o cs
  · exact hb.sets cs o (by omega)
theorem tmod_u8 {a : Int} (h0 : 0 ≤ a) (h1 : a ≤ 255) (n : Nat) : (wrap64 a).tmod (n : Int) = ((a.toNat % n : Nat) : Int) := by
  obtain ⟨m, rfl⟩ := Int.eq_ofNat_of_zero_le h0
  rw [show wrap64 (m : Int) = (m : Int) by unfold wrap64; omega, Int.tmod_eq_emod_of_nonneg (Int.natCast_nonneg m)]
  simp
end Go.Proofs.Ytbmepaglhkndpaa.Logs
