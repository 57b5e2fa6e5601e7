/-
  An append onto a slice that the call owns as one step of a drawn region, with where the new slice lies; the landed log in the midst of an append: what each of its stores leaves. Conditions: those that each names.
-/
import Derived.Test.YtbmepaglhkndpaaLogX
import Derived.Maps.AppendAt
import Derived.Deep.RegionLaw
namespace Go.Proofs.Ytbmepaglhkndpaa.Logs
open Go.RowKit Go.Proofs.Ytbmepaglhkndpaa.Mem Go.Proofs.Ytbmepaglhkndpaa.Ops Go.Proofs.Ytbmepaglhkndpaa.Kv
set_option maxRecDepth 100000

theorem step_append_at {P : Program} {ops : Array Oper} {o : Oper} {a : Act} {w : World} {K : Act → World → Prop} {Q : Exit → Act → World → Prop} {E : Prop} (hg : o.guard = none) (s x : Operand) (t : TypeId) (ho : o.op = .call { callee := .builtin .append, args := #[s, x], argTypes := #[t, t] })
    (base : Nat) (e : TypeId) (i : TypeInfo) (z : Value) (size bytes : Nat) (ht : P.underlying t = some (.slice e)) (hi : P.info? e = some i) (hz : i.zero = some z)
    (hsize : i.size = size) (hby : i.bytes = bytes) (hzs : z.cells.size = size) (hsz : 0 < size)
    (v : Value) (n : Nat) (xs : List Value) (hs : a.eval s = v) (hown : w.ownsRow base e size v n xs) (b m c : Nat) (news : List Value) (hx : a.eval x = .slice (some ⟨b, 0, none⟩) m c) (hnews : w.rangeAt b 0 news) (hl : news.length = m * size) (h1 : ∀ u ∈ news, u.oneCell' = true)
    (h63 : n + m ≤ maxLen) (hbytes : (n + m) * bytes ≤ 140737488355328) (hbase : base ≤ w.heap.size)
    (h : ∀ v' w', w'.ownsRow base e size v' (n + m) (xs ++ news) → w.grownBy w' v.ownBlock → (v'.ownBlock = v.ownBlock ∨ v'.ownBlock = some w.heap.size) → K (a.put o.dst v') w') :
    if Region.wanted o (yielded ops a.tmps) = true then Oper.wp P o a w K Q else E := by
  have hw : Region.wanted o (yielded ops a.tmps) = true := by simp [Region.wanted, hg]
  rw [if_pos hw]
  obtain ⟨v', w', hr, h2, h3, _, h5⟩ := run_append_own_at (P := P) w base t o.type e i z size bytes ht hi hz hsize hby hzs hsz v n xs hown ⟨b, 0, none⟩ m c news hl (fun j u hu => by rw [Addr.add_mid]; exact hnews j u hu) h1 h63 hbytes hbase
  unfold Oper.wp execOp
  simp only [ho, resolve, invoke, builtin, Sem.run_bind, Sem.run_pure, Result.andThen_ok, List.map_toArray, List.map_cons, List.map_nil, hs, hx, hr]
  exact h v' w' h2 h3 h5

/-- A row's block is none of another type. -/
theorem own_ne_blk {α : Type} {K : Kind α} {w : World} {base b : Nat} {v : Value} {L : List α} {T : TypeId} {cs : List Value} (h : K.Own w base v L) (hb : Blk w b T cs) (hT : K.T ≠ T) : v.ownBlock ≠ some b := fun hk => by
  rcases h.2 with ⟨rfl, _⟩ | ⟨g, cap, cur, rfl, _, h2, _⟩
  · simp [Value.ownBlock] at hk
  · simp [Value.ownBlock] at hk
    subst hk
    unfold Blk at hb
    rw [hb] at h2
    simp at h2
    exact hT h2.2.symm
theorem own_ne_map {α : Type} {K : Kind α} {w : World} {base m : Nat} {v : Value} {L : List α} {M : List C} (h : K.Own w base v L) (hm : MapAt w m M) : v.ownBlock ≠ some m := fun hk => by
  obtain ⟨es, clock, h1, _⟩ := hm.owns
  rcases h.2 with ⟨rfl, _⟩ | ⟨g, cap, cur, rfl, _, h2, _⟩
  · simp [Value.ownBlock] at hk
  · simp [Value.ownBlock] at hk
    subst hk
    rw [h1] at h2
    cases h2
theorem blk_ne {w : World} {b b' : Nat} {T T' : TypeId} {cs cs' : List Value} (h : Blk w b T cs) (h' : Blk w b' T' cs') (hT : T ≠ T') : b ≠ b' := fun e => by
  subst e
  unfold Blk at h h'
  rw [h] at h'
  simp at h'
  exact hT h'.2
theorem blk_ne_map {w : World} {b m : Nat} {T : TypeId} {cs : List Value} {M : List C} (h : Blk w b T cs) (hm : MapAt w m M) : b ≠ m := fun e => by
  subst e
  obtain ⟨es, clock, h1, _⟩ := hm.owns
  unfold Blk at h
  rw [h] at h1
  cases h1

/-- The log in the midst of an append of y: its cells cs, both rows, the store, the call's own two blocks. -/
structure Mid (S : List Nat) (w X : World) (p : Nat) (cs : List Value) (ve vr : Value) (A : List E) (B : List Rs) (s m : Nat) (M : List C) (bY b4 : Nat) (y : E) (R : Rs) : Prop where
  blk : Blk X p TLg cs
  ent : kE.Own X 0 ve A
  res : kR.Own X 0 vr B
  st : StAt X s m M
  ky : Blk X bY TEn y.cells
  k4 : Blk X b4 TR R.cells
  t : Turned S w X
  p_in : p ∈ S
  e_in : ∀ k, ve.ownBlock = some k → k ∈ S ∨ w.heap.size ≤ k
  r_in : ∀ k, vr.ownBlock = some k → k ∈ S ∨ w.heap.size ≤ k
  ne1 : ve.ownBlock ≠ some bY
  ne2 : vr.ownBlock ≠ some b4
section
variable {S : List Nat} {w X W : World} {p : Nat} {cs : List Value} {ve vr v : Value} {A : List E} {B : List Rs} {s m : Nat} {M : List C} {bY b4 : Nat} {y : E} {R : Rs}
theorem Mid.drew (h : Mid S w X p cs ve vr A B s m M bY b4 y R) : Mid S w X.drew p cs ve vr A B s m M bY b4 y R :=
  ⟨h.blk, h.ent.turned ((⟨rfl, rfl, rfl, Nat.le_refl _, fun _ _ _ => rfl⟩ : Turned [] X X.drew)) (by simp), h.res.turned ((⟨rfl, rfl, rfl, Nat.le_refl _, fun _ _ _ => rfl⟩ : Turned [] X X.drew)) (by simp), h.st.below (below_drew X), h.ky, h.k4, h.t.drewN 1, h.p_in, h.e_in, h.r_in, h.ne1, h.ne2⟩
/-- Behind a block of the call's own, and an append onto the entries, and a store of these. -/
theorem Mid.entries {o : Obj} (h : Mid S w X p cs ve vr A B s m M bY b4 y R) (hown : W.ownsRow 0 TEn 7 v (A.length + 1) (kE.row A ++ y.cells)) (hgrow : (X.drew.alloc o).grownBy W ve.ownBlock) (hat : v.ownBlock = ve.ownBlock ∨ v.ownBlock = some (X.drew.alloc o).heap.size) :
    Mid S w (W.setCell ⟨p, 0, none⟩ v) p (cs.set 0 v) v vr (A ++ [y]) B s m M bY b4 y R := by
  have hE : kE.Own W 0 v (A ++ [y]) := by
    show World.ownsRow _ _ _ _ _ _ _
    rw [List.length_append, kE.row_app, kE.row_one]
    exact hown
  have T1 : Turned ve.ownBlock.toList X W := by
    have := turned_grown hgrow
    exact ((((Turned.of_below (Below.refl X.heap.size X)).mono (S' := ve.ownBlock.toList) (fun _ _ hk => by cases hk)).drewN 1).alloc o).trans this (fun _ _ hk => hk)
  have nin : ∀ {b : Nat}, ve.ownBlock ≠ some b → b ∉ ve.ownBlock.toList := fun hb hm => hb (by simpa using hm)
  have hs := T1.size
  have sz : X.heap.size < (X.drew.alloc o).heap.size := by simp
  have T2 : Turned [p] W (W.setCell ⟨p, 0, none⟩ v) := (⟨rfl, rfl, rfl, Nat.le_refl _, fun _ _ _ => rfl⟩ : Turned [p] W W).setCell (.inl (by simp)) _
  have nep := own_ne_blk h.ent h.blk (by decide)
  have kp : Blk W p TLg cs := T1.blk h.blk (nin nep)
  have kY := T1.blk h.ky (nin h.ne1)
  have k4 := T1.blk h.k4 (nin (own_ne_blk h.ent h.k4 (by decide)))
  have hR : kR.Own W 0 vr B := h.res.turned T1 (fun k hk => Kind.own_apart (K := kR) (K' := kE) (by decide) h.res h.ent k (by simpa using hk))
  have hst : StAt W s m M := h.st.keep T1 (nin (own_ne_blk h.ent h.st.blk (by decide))) (nin (own_ne_map h.ent h.st.map))
  refine ⟨by have := kp.set 0 v; exact this, hE.turned T2 (fun k hk => by simp at hk; subst hk; exact own_ne_blk hE kp (by decide)), hR.turned T2 (fun k hk => by simp at hk; subst hk; exact own_ne_blk hR kp (by decide)), hst.keep T2 (by simp; exact fun e => blk_ne hst.blk kp (by decide) e) (by simp; exact fun e => blk_ne_map kp hst.map e.symm), T2.blk kY (by simp; exact blk_ne kY kp (by decide)), T2.blk k4 (by simp; exact blk_ne k4 kp (by decide)), ?_, h.p_in, ?_, h.r_in, ?_, h.ne2⟩
  · refine (h.t.trans T1 (fun k hk hm => ?_)).trans T2 (fun k _ hm => by simp at hm; subst hm; exact h.p_in)
    rcases h.e_in k (by simpa using hm) with e | e
    · exact e
    · omega
  · intro k hk
    rcases hat with e | e
    · exact h.e_in k (by rw [← e]; exact hk)
    · have := h.t.size
      rw [e] at hk
      cases hk
      exact .inr (by omega)
  · intro e
    rcases hat with e' | e'
    · exact h.ne1 (by rw [← e']; exact e)
    · rw [e'] at e
      have := h.ky.lt
      cases e
      omega
theorem Mid.results {o : Obj} (h : Mid S w X p cs ve vr A B s m M bY b4 y R) (hown : W.ownsRow 0 TR 4 v (B.length + 1) (kR.row B ++ R.cells)) (hgrow : (X.drew.alloc o).grownBy W vr.ownBlock) (hat : v.ownBlock = vr.ownBlock ∨ v.ownBlock = some (X.drew.alloc o).heap.size) :
    Mid S w (W.setCell ⟨p, 1, none⟩ v) p (cs.set 1 v) ve v A (B ++ [R]) s m M bY b4 y R := by
  have hR : kR.Own W 0 v (B ++ [R]) := by
    show World.ownsRow _ _ _ _ _ _ _
    rw [List.length_append, kR.row_app, kR.row_one]
    exact hown
  have T1 : Turned vr.ownBlock.toList X W := by
    have := turned_grown hgrow
    exact ((((Turned.of_below (Below.refl X.heap.size X)).mono (S' := vr.ownBlock.toList) (fun _ _ hk => by cases hk)).drewN 1).alloc o).trans this (fun _ _ hk => hk)
  have nin : ∀ {b : Nat}, vr.ownBlock ≠ some b → b ∉ vr.ownBlock.toList := fun hb hm => hb (by simpa using hm)
  have hs := T1.size
  have sz : X.heap.size < (X.drew.alloc o).heap.size := by simp
  have T2 : Turned [p] W (W.setCell ⟨p, 1, none⟩ v) := (⟨rfl, rfl, rfl, Nat.le_refl _, fun _ _ _ => rfl⟩ : Turned [p] W W).setCell (.inl (by simp)) _
  have nep := own_ne_blk h.res h.blk (by decide)
  have kp : Blk W p TLg cs := T1.blk h.blk (nin nep)
  have kY := T1.blk h.ky (nin (own_ne_blk h.res h.ky (by decide)))
  have k4 := T1.blk h.k4 (nin h.ne2)
  have hE : kE.Own W 0 ve A := h.ent.turned T1 (fun k hk => Kind.own_apart (K := kE) (K' := kR) (by decide) h.ent h.res k (by simpa using hk))
  have hst : StAt W s m M := h.st.keep T1 (nin (own_ne_blk h.res h.st.blk (by decide))) (nin (own_ne_map h.res h.st.map))
  refine ⟨by have := kp.set 1 v; exact this, hE.turned T2 (fun k hk => by simp at hk; subst hk; exact own_ne_blk hE kp (by decide)), hR.turned T2 (fun k hk => by simp at hk; subst hk; exact own_ne_blk hR kp (by decide)), hst.keep T2 (by simp; exact fun e => blk_ne hst.blk kp (by decide) e) (by simp; exact fun e => blk_ne_map kp hst.map e.symm), T2.blk kY (by simp; exact blk_ne kY kp (by decide)), T2.blk k4 (by simp; exact blk_ne k4 kp (by decide)), ?_, h.p_in, h.e_in, ?_, h.ne1, ?_⟩
  · refine (h.t.trans T1 (fun k hk hm => ?_)).trans T2 (fun k _ hm => by simp at hm; subst hm; exact h.p_in)
    rcases h.r_in k (by simpa using hm) with e | e
    · exact e
    · omega
  · intro k hk
    rcases hat with e | e
    · exact h.r_in k (by rw [← e]; exact hk)
    · have := h.t.size
      rw [e] at hk
      cases hk
      exact .inr (by omega)
  · intro e
    rcases hat with e' | e'
    · exact h.ne2 (by rw [← e']; exact e)
    · rw [e'] at e
      have := h.k4.lt
      cases e
      omega
/-- A cell of the log. -/
theorem Mid.cell {cs' : List Value} (h : Mid S w X p cs ve vr A B s m M bY b4 y R) (t : Turned [p] X W) (hb : Blk W p TLg cs') : Mid S w W p cs' ve vr A B s m M bY b4 y R :=
  ⟨hb, h.ent.turned t (fun k hk => by simp at hk; subst hk; exact own_ne_blk h.ent h.blk (by decide)), h.res.turned t (fun k hk => by simp at hk; subst hk; exact own_ne_blk h.res h.blk (by decide)), h.st.keep t (by simp; exact fun e => blk_ne h.st.blk h.blk (by decide) e) (by simp; exact fun e => blk_ne_map h.blk h.st.map e.symm), t.blk h.ky (by simp; exact blk_ne h.ky h.blk (by decide)), t.blk h.k4 (by simp; exact blk_ne h.k4 h.blk (by decide)), h.t.trans t (fun k _ hm => by simp at hm; subst hm; exact h.p_in), h.p_in, h.e_in, h.r_in, h.ne1, h.ne2⟩
/-- The call's own result. -/
theorem Mid.answer {R' : Rs} (h : Mid S w X p cs ve vr A B s m M bY b4 y R) (t : Turned [b4] X W) (h4 : w.heap.size ≤ b4) (hb : Blk W b4 TR R'.cells) : Mid S w W p cs ve vr A B s m M bY b4 y R' :=
  ⟨t.blk h.blk (by simp; exact fun e => blk_ne h.k4 h.blk (by decide) e.symm), h.ent.turned t (fun k hk => by simp at hk; subst hk; exact own_ne_blk h.ent h.k4 (by decide)), h.res.turned t (fun k hk => by simp at hk; subst hk; exact h.ne2), h.st.keep t (by simp; exact fun e => blk_ne h.st.blk h.k4 (by decide) e) (by simp; exact fun e => blk_ne_map h.k4 h.st.map e.symm), t.blk h.ky (by simp; exact blk_ne h.ky h.k4 (by decide)), hb, h.t.trans t (fun k hk hm => by simp at hm; omega), h.p_in, h.e_in, h.r_in, h.ne1, h.ne2⟩
/-- The store. -/
theorem Mid.store {M' : List C} (h : Mid S w X p cs ve vr A B s m M bY b4 y R) (t : Turned [m] X W) (hm : m ∈ S) (hst : StAt W s m M') : Mid S w W p cs ve vr A B s m M' bY b4 y R :=
  ⟨t.blk h.blk (by simp; exact blk_ne_map h.blk h.st.map), h.ent.turned t (fun k hk => by simp at hk; subst hk; exact own_ne_map h.ent h.st.map), h.res.turned t (fun k hk => by simp at hk; subst hk; exact own_ne_map h.res h.st.map), hst, t.blk h.ky (by simp; exact blk_ne_map h.ky h.st.map), t.blk h.k4 (by simp; exact blk_ne_map h.k4 h.st.map), h.t.trans t (fun k _ hk => by simp at hk; subst hk; exact hm), h.p_in, h.e_in, h.r_in, h.ne1, h.ne2⟩
end
end Go.Proofs.Ytbmepaglhkndpaa.Logs
