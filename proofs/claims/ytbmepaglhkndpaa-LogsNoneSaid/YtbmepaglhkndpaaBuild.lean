/-
  A slice literal of one struct ([]T{x}): its one element's cells are x's. No program's text is named here.
-/
import Derived.Test.YtbmepaglhkndpaaBlk
import Derived.Great.BuildSlice
namespace Go.Proofs.Ytbmepaglhkndpaa.Mem
open Go.RowKit

theorem foldl_set (l : List Value) : ∀ (k : Nat) (B : Array Value), k + l.length ≤ B.size → ((l.zipIdx k).foldl (fun cs (x : Value × Nat) => cs.setIfInBounds x.2 x.1) B).toList = B.toList.take k ++ (l ++ B.toList.drop (k + l.length)) := by
  induction l with
  | nil => intro k B _; simp
  | cons v r ih =>
    intro k B h
    simp only [List.zipIdx_cons, List.foldl_cons, List.length_cons] at h ⊢
    rw [ih (k + 1) _ (by simp; omega)]
    have e := splice_cons B.toList k v r (by simpa using h)
    unfold splice at e
    rw [Array.toList_setIfInBounds, e]
    simp

theorem fill_one (n : Nat) (B : Array Value) (cs : Array Value) (hB : B.size = n) (hc : cs.size = n) : Instr.fill (fun i => some (i * n, n)) B [(0, .agg cs)] = some cs := by
  have e := foldl_set cs.toList 0 B (by simp; omega)
  simp only [List.take_zero, List.nil_append, Nat.zero_add] at e
  rw [List.drop_of_length_le (by simp; omega), List.append_nil] at e
  have hz : (Value.agg cs).cells = cs := rfl
  have hfold : Array.foldl (fun cs (x : Value × Nat) => cs.setIfInBounds x.2 x.1) B cs.zipIdx 0 n = cs := by
    rw [show n = cs.zipIdx.size by simp [hc]]
    apply Array.toList_inj.1
    rw [← e, ← Array.foldl_toList]
    simp
  simp [Instr.fill, hz, hB, hc, hfold]

theorem wpList_slice1_blk {P : Program} {ops : Array Oper} {rest : List Oper} {op : Oper} {a : Act} {w : World} {Q : Exit → Act → World → Prop} (hg : op.guard = none) (t e : TypeId) (x : Operand) (ho : op.op = .buildSlice t 1 #[(0, x)])
    (cs : List Value) (ie : TypeInfo) (z : Value) (hx : a.eval x = .agg cs.toArray)
    (hu : P.underlying t = some (.slice e)) (hie : P.info? e = some ie) (hz : ie.zero = some z) (hsz : ie.size = cs.length) (h0 : 0 < cs.length) (hb : cs.length ≤ 16777216)
    (h : ∀ W, Below w.heap.size w W → Blk W w.heap.size e cs → W.heap.size = w.heap.size + 1 → wpList P ops Q rest (a.put op.dst (.slice (some ⟨w.heap.size, 0, none⟩) 1 1)) W) : wpList P ops Q (op :: rest) a w := by
  refine wpList_buildSlice hg t e 1 _ ho cs.toArray ie z hu hie hz (by rw [hsz]; simpa using hb) (by rw [hsz]; omega) ?_ (h _ ((Below.refl _ _).alloc (Nat.le_refl _) _) (Blk.new w e cs) (by simp))
  simp only [Array.toList_map, List.map_cons, List.map_nil, hx]
  exact fill_one _ _ _ (by simp) (by simpa using hsz.symm)

/-! ### append onto what the call owns, from a slice value of whatever kind (nil, too) -/
theorem run_append_sl {P : Program} (w : World) (base : Nat) (t ty e : TypeId) (i : TypeInfo) (z : Value) (size bytes : Nat) (ht : P.underlying t = some (.slice e)) (hi : P.info? e = some i) (hz : i.zero = some z)
    (hsize : i.size = size) (hby : i.bytes = bytes) (hzs : z.cells.size = size) (hsz : 0 < size)
    (v : Value) (n : Nat) (xs : List Value) (hown : w.ownsRow base e size v n xs) (y : Value) (m : Nat) (news : List Value) (I : List Nat) (hsl : SlAt w y m news I) (hl : news.length = m * size) (h1 : ∀ u ∈ news, u.oneCell' = true)
    (h63 : n + m ≤ maxLen) (hbytes : (n + m) * bytes ≤ 140737488355328) (hbase : base ≤ w.heap.size) :
    ∃ v' w', (Builtin.append_ #[t, t] ty #[v, y]).run P w = .ok v' w' ∧ w'.ownsRow base e size v' (n + m) (xs ++ news) ∧ w.grownBy w' v.ownBlock := by
  obtain ⟨ao, cap, rfl, _, _, hnil, hat⟩ := hsl
  cases ao with
  | none =>
    obtain ⟨rfl, rfl, rfl⟩ := hnil rfl
    have hrun := run_append_owned_none (P := P) (w := w) base t ty e i size ht hi v n xs hown
    exact ⟨v, w, hrun, by simpa using hown, World.grownBy.refl _ _⟩
  | some a =>
    obtain ⟨hsp, hr⟩ := hat _ rfl
    have hcell : ∀ j u, news[j]? = some u → w.cell? (a.add j) = some u := fun j u hu => by
      have hn0 : 0 < m := by
        rcases Nat.eq_zero_or_pos m with rfl | h0
        · have e0 : news = [] := List.length_eq_zero_iff.1 (by simpa using hl)
          rw [e0] at hu; cases hu
        · exact h0
      obtain ⟨b, o, sp⟩ := a
      obtain rfl : sp = none := (hsp hn0).1
      exact cellsAt_of_range hr j u hu
    obtain ⟨v', w', h1, h2, h3, _⟩ := run_append_own (P := P) w base t ty e i z size bytes ht hi hz hsize hby hzs hsz v n xs hown a m cap news hl hcell h1 h63 hbytes hbase
    exact ⟨v', w', h1, h2, h3⟩

theorem wp_append_sl {P : Program} {o : Oper} {a : Act} {w : World} {K : Act → World → Prop} {Q : Exit → Act → World → Prop} (s x : Operand) (t : TypeId) (ho : o.op = .call { callee := .builtin .append, args := #[s, x], argTypes := #[t, t] })
    (base : Nat) (e : TypeId) (i : TypeInfo) (z : Value) (size bytes : Nat) (ht : P.underlying t = some (.slice e)) (hi : P.info? e = some i) (hz : i.zero = some z)
    (hsize : i.size = size) (hby : i.bytes = bytes) (hzs : z.cells.size = size) (hsz : 0 < size)
    (v : Value) (n : Nat) (xs : List Value) (hs : a.eval s = v) (hown : w.ownsRow base e size v n xs) (y : Value) (m : Nat) (news : List Value) (I : List Nat) (hx : a.eval x = y) (hsl : SlAt w y m news I) (hl : news.length = m * size) (h1 : ∀ u ∈ news, u.oneCell' = true)
    (h63 : n + m ≤ maxLen) (hbytes : (n + m) * bytes ≤ 140737488355328) (hbase : base ≤ w.heap.size)
    (h : ∀ v' w', w'.ownsRow base e size v' (n + m) (xs ++ news) → w.grownBy w' v.ownBlock → K (a.put o.dst v') w') : o.wp P a w K Q := by
  obtain ⟨v', w', hr, h2, h3⟩ := run_append_sl (P := P) w base t o.type e i z size bytes ht hi hz hsize hby hzs hsz v n xs hown y m news I hsl hl h1 h63 hbytes hbase
  unfold Oper.wp execOp
  simp only [ho, resolve, invoke, builtin, Sem.run_bind, Sem.run_pure, Result.andThen_ok, List.map_toArray, List.map_cons, List.map_nil, hs, hx, hr]
  exact h v' w' h2 h3

theorem wpList_append_sl {P : Program} {ops : Array Oper} {rest : List Oper} {o : Oper} {a : Act} {w : World} {Q : Exit → Act → World → Prop} (hgd : o.guard = none) (s x : Operand) (t : TypeId) (ho : o.op = .call { callee := .builtin .append, args := #[s, x], argTypes := #[t, t] })
    (base : Nat) (e : TypeId) (i : TypeInfo) (z : Value) (size bytes : Nat) (ht : P.underlying t = some (.slice e)) (hi : P.info? e = some i) (hz : i.zero = some z)
    (hsize : i.size = size) (hby : i.bytes = bytes) (hzs : z.cells.size = size) (hsz : 0 < size)
    (v : Value) (n : Nat) (xs : List Value) (hs : a.eval s = v) (hown : w.ownsRow base e size v n xs) (y : Value) (m : Nat) (news : List Value) (I : List Nat) (hx : a.eval x = y) (hsl : SlAt w y m news I) (hl : news.length = m * size) (h1 : ∀ u ∈ news, u.oneCell' = true)
    (h63 : n + m ≤ maxLen) (hbytes : (n + m) * bytes ≤ 140737488355328) (hbase : base ≤ w.heap.size)
    (h : ∀ v' w', w'.ownsRow base e size v' (n + m) (xs ++ news) → w.grownBy w' v.ownBlock → wpList P ops Q rest (a.put o.dst v') w') : wpList P ops Q (o :: rest) a w :=
  wpList_plain hgd fun _ hK => wp_append_sl s x t ho base e i z size bytes ht hi hz hsize hby hzs hsz v n xs hs hown y m news I hx hsl hl h1 h63 hbytes hbase fun v' w' h2 h3 => hK _ _ (h v' w' h2 h3)

/-- As one step of a region that draws its order. -/
theorem step_append_sl {P : Program} {ops : Array Oper} {o : Oper} {a : Act} {w : World} {K : Act → World → Prop} {Q : Exit → Act → World → Prop} {E : Prop} (hg : o.guard = none) (s x : Operand) (t : TypeId) (ho : o.op = .call { callee := .builtin .append, args := #[s, x], argTypes := #[t, t] })
    (base : Nat) (e : TypeId) (i : TypeInfo) (z : Value) (size bytes : Nat) (ht : P.underlying t = some (.slice e)) (hi : P.info? e = some i) (hz : i.zero = some z)
    (hsize : i.size = size) (hby : i.bytes = bytes) (hzs : z.cells.size = size) (hsz : 0 < size)
    (v : Value) (n : Nat) (xs : List Value) (hs : a.eval s = v) (hown : w.ownsRow base e size v n xs) (y : Value) (m : Nat) (news : List Value) (I : List Nat) (hx : a.eval x = y) (hsl : SlAt w y m news I) (hl : news.length = m * size) (h1 : ∀ u ∈ news, u.oneCell' = true)
    (h63 : n + m ≤ maxLen) (hbytes : (n + m) * bytes ≤ 140737488355328) (hbase : base ≤ w.heap.size)
    (h : ∀ v' w', w'.ownsRow base e size v' (n + m) (xs ++ news) → w.grownBy w' v.ownBlock → K (a.put o.dst v') w') :
    if Region.wanted o (yielded ops a.tmps) = true then Oper.wp P o a w K Q else E := by
  have hw : Region.wanted o (yielded ops a.tmps) = true := by simp [Region.wanted, hg]
  rw [if_pos hw]
  exact wp_append_sl s x t ho base e i z size bytes ht hi hz hsize hby hzs hsz v n xs hs hown y m news I hx hsl hl h1 h63 hbytes hbase h

/-- A slice literal of one struct, as the walk's rules meet it at the whole operation. -/
def s1Run (P : Program) (t : TypeId) (w : World) (v : Value) : Result Next := ((Instr.buildSlice t 1 #[(0, v)]).run P w).andThen fun x w' => .ok (.value x) w'
theorem exec_slice1 {P : Program} (t : TypeId) (ρ : Operand → Value) (dst : Option Tmp) (x : Operand) (tt : TypeId) (pos : String) (af : Array Edge) (g : Option (Nat × Bool)) (w : World) :
    (execOp ρ ⟨dst, .buildSlice t 1 #[(0, x)], tt, pos, af, g⟩).run P w = s1Run P t w (ρ x) := by
  simp only [execOp, s1Run, Sem.run_bind, List.map_toArray, List.map_cons, List.map_nil]
  rfl
theorem s1Run_row {P : Program} (w : World) (t e : TypeId) (n : Nat) (cells : Array Value) (ie : TypeInfo) (z : Value) (hu : P.underlying t = some (.slice e)) (hie : P.info? e = some ie) (hz : ie.zero = some z) (hsz : ie.size = n) (h0 : 0 < n) (hb : n ≤ 16777216) (hc : CellsN n cells) :
    s1Run P t w (.agg cells) = .ok (.value (.slice (some ⟨w.heap.size, 0, none⟩) 1 1)) (w.alloc (.cells cells e)) := by
  have := run_buildSlice (P := P) w t e 1 #[(0, .agg cells)] cells ie z hu hie hz (by rw [hsz]; simpa using hb) (by rw [hsz]; omega) (by
    rw [hsz]
    exact fill_one n _ cells (by simp) hc.1)
  rw [s1Run, this]; rfl
end Go.Proofs.Ytbmepaglhkndpaa.Mem
