/-
  Operations as lists of bytes: what is wrong with one, its bytes, and the one that stands ahead of bytes (P9.1 to P9.4, as plain mathematics). No program's text is named here. Conditions: those that each lemma names.
-/
import Derived.Test.YtbmepaglhkndpaaCodecMath
namespace Go.Proofs.Ytbmepaglhkndpaa.Ops
open Go.Proofs.Ytbmepaglhkndpaa.Codec

/-- An operation. -/
structure O where
  kind : Int
  key : List UInt8
  val : List UInt8
  ver : Int
def zeroO : O := ⟨0, [], [], 0⟩
def O.valued (o : O) : Prop := o.kind = 2 ∨ o.kind = 4
instance (o : O) : Decidable o.valued := by unfold O.valued; infer_instance
/-- What may not be in it; what is too long. -/
def O.bad (o : O) : Prop := o.kind < 1 ∨ 4 < o.kind ∨ o.key.length = 0 ∨ o.ver < 0 ∨ 4096 < o.ver ∨ (o.ver ≠ 0 ∧ o.kind ≠ 4) ∨ (o.val.length ≠ 0 ∧ o.kind ≠ 2 ∧ o.kind ≠ 4)
def O.long (o : O) : Prop := 16 < o.key.length ∨ 64 < o.val.length
instance (o : O) : Decidable o.bad := by unfold O.bad; infer_instance
instance (o : O) : Decidable o.long := by unfold O.long; infer_instance
def O.check (o : O) : Int := if o.bad then 2 else if o.long then 3 else 0
def O.bytes (o : O) : List UInt8 := intB o.kind ++ textB o.key ++ (if o.kind = 2 ∨ o.kind = 4 then textB o.val else []) ++ (if o.kind = 4 then intB o.ver else [])
/-- What Put answers, and Cost, and Reads. -/
def O.put (o : O) : List UInt8 := if o.check = 0 then o.bytes else []
def O.cost (o : O) : Int := if o.check = 0 then 16 + o.key.length + o.val.length else 0
def O.reads (o : O) : Bool := decide (o.kind = 1) && decide (o.check = 0)

theorem check_ok {o : O} : o.check = 0 ↔ ¬ o.bad ∧ ¬ o.long := by
  unfold O.check
  split
  · simp [*]
  · split <;> simp [*]
theorem check_bad {o : O} (h : o.bad) : o.check = 2 := by unfold O.check; rw [if_pos h]
theorem check_long {o : O} (h : ¬ o.bad) (k : o.long) : o.check = 3 := by unfold O.check; rw [if_neg h, if_pos k]
theorem check_three (o : O) : o.check = 0 ∨ o.check = 2 ∨ o.check = 3 := by
  unfold O.check
  split
  · exact .inr (.inl rfl)
  · split
    · exact .inr (.inr rfl)
    · exact .inl rfl
/-- What is known of one that may be. -/
structure O.Fine (o : O) : Prop where
  k1 : 1 ≤ o.kind
  k4 : o.kind ≤ 4
  y1 : 1 ≤ o.key.length
  y2 : o.key.length ≤ 16
  v2 : o.val.length ≤ 64
  n0 : 0 ≤ o.ver
  n1 : o.ver ≤ 4096
  vn : o.kind ≠ 4 → o.ver = 0
  vv : o.kind ≠ 2 → o.kind ≠ 4 → o.val = []
theorem fine_of {o : O} (h : o.check = 0) : o.Fine := by
  obtain ⟨h1, h2⟩ := check_ok.1 h
  unfold O.bad at h1
  unfold O.long at h2
  refine ⟨by omega, by omega, by omega, by omega, by omega, by omega, by omega, fun _ => by omega, fun _ _ => ?_⟩
  cases hv : o.val with
  | nil => rfl
  | cons a b => exfalso; rw [hv] at h1; simp at h1; omega
theorem cost_bd {o : O} (h : o.check = 0) : 17 ≤ o.cost ∧ o.cost ≤ 96 := by
  obtain ⟨_, _, _, _, _, _, _, _, _⟩ := fine_of h
  unfold O.cost
  rw [if_pos h]
  omega

/-- The operation that stands ahead, and what is behind it. -/
def parse (s : List UInt8) : Option (O × List UInt8) := (unintS s).bind fun x => (cutS x.2).bind fun y =>
  if x.1 = 2 ∨ x.1 = 4 then (cutS y.2).bind fun z => if x.1 = 4 then (unintS z.2).bind fun u => some (⟨x.1, y.1, z.1, u.1⟩, u.2) else some (⟨x.1, y.1, z.1, 0⟩, z.2)
  else some (⟨x.1, y.1, [], 0⟩, y.2)
/-- The operation that may be whose bytes these are. -/
def getS (s : List UInt8) : Option O := (parse s).bind fun x => if x.2 = [] ∧ x.1.check = 0 then some x.1 else none
def got (s : List UInt8) : O := (getS s).getD zeroO
def gotE (s : List UInt8) : Int := if (getS s).isSome then 0 else 10

theorem parse_put {o : O} (h : o.check = 0) (r : List UInt8) : parse (o.bytes ++ r) = some (o, r) := by
  obtain ⟨k, y, v, n⟩ := o
  obtain ⟨h1, h2, h3, h4, h5, h6, h7, h8, h9⟩ := fine_of h
  simp only at *
  unfold parse O.bytes
  simp only [List.append_assoc]
  rw [unint_put k (by omega) (by omega)]
  simp only [Option.bind_some]
  rw [cut_put y (by omega)]
  simp only [Option.bind_some]
  by_cases hk : k = 2 ∨ k = 4
  · simp only [if_pos hk]
    rw [cut_put v (by omega)]
    simp only [Option.bind_some]
    by_cases h4' : k = 4
    · simp only [if_pos h4']
      rw [unint_put n (by omega) (by omega)]
      rfl
    · simp only [if_neg h4', List.nil_append]
      rw [h8 h4']
  · simp only [if_neg hk, if_neg (show ¬ k = 4 by omega), List.nil_append]
    rw [h8 (by omega), h9 (by omega) (by omega)]
theorem parse_form {s : List UInt8} {o : O} {r : List UInt8} (h : parse s = some (o, r)) : o.bytes ++ r = s := by
  unfold parse at h
  cases hx : unintS s with
  | none => rw [hx] at h; cases h
  | some x =>
    obtain ⟨k, a⟩ := x
    rw [hx] at h
    simp only [Option.bind_some] at h
    obtain ⟨ea, _, _⟩ := unint_form hx
    cases hy : cutS a with
    | none => rw [hy] at h; cases h
    | some y =>
      obtain ⟨y, b⟩ := y
      rw [hy] at h
      simp only [Option.bind_some] at h
      obtain ⟨eb, _⟩ := cut_form hy
      by_cases hk : k = 2 ∨ k = 4
      · rw [if_pos hk] at h
        cases hz : cutS b with
        | none => rw [hz] at h; cases h
        | some z =>
          obtain ⟨v, c⟩ := z
          rw [hz] at h
          simp only [Option.bind_some] at h
          obtain ⟨ec, _⟩ := cut_form hz
          by_cases h4 : k = 4
          · rw [if_pos h4] at h
            cases hu : unintS c with
            | none => rw [hu] at h; cases h
            | some u =>
              obtain ⟨n, d⟩ := u
              rw [hu] at h
              simp only [Option.bind_some, Option.some.injEq, Prod.mk.injEq] at h
              obtain ⟨rfl, rfl⟩ := h
              obtain ⟨ed, _, _⟩ := unint_form hu
              unfold O.bytes
              simp only [if_pos hk, if_pos h4, List.append_assoc]
              rw [ed, ec, eb, ea]
          · rw [if_neg h4] at h
            simp only [Option.some.injEq, Prod.mk.injEq] at h
            obtain ⟨rfl, rfl⟩ := h
            unfold O.bytes
            simp only [if_pos hk, if_neg h4, List.append_assoc, List.nil_append]
            rw [ec, eb, ea]
      · rw [if_neg hk] at h
        simp only [Option.some.injEq, Prod.mk.injEq] at h
        obtain ⟨rfl, rfl⟩ := h
        unfold O.bytes
        simp only [if_neg hk, if_neg (show ¬ k = 4 by omega), List.append_assoc, List.nil_append]
        rw [eb, ea]

theorem get_put {o : O} (h : o.check = 0) : getS o.bytes = some o := by
  unfold getS
  have := parse_put h []
  rw [List.append_nil] at this
  rw [this]
  simp [h]
theorem get_form {s : List UInt8} {o : O} (h : getS s = some o) : o.check = 0 ∧ o.bytes = s := by
  unfold getS at h
  cases hp : parse s with
  | none => rw [hp] at h; cases h
  | some x =>
    obtain ⟨o', r⟩ := x
    rw [hp] at h
    simp only [Option.bind_some] at h
    split at h
    · rename_i hc
      obtain ⟨rfl, hc⟩ := hc
      simp only [Option.some.injEq] at h
      subst h
      exact ⟨hc, by simpa using parse_form hp⟩
    · cases h
/-- What is cut off is none; nor is what has something behind it. -/
theorem get_cut {o : O} (h : o.check = 0) {p q : List UInt8} (e : p ++ q = o.bytes) (hq : q ≠ []) : getS p = none := by
  cases hg : getS p with
  | none => rfl
  | some x =>
    obtain ⟨hx, rfl⟩ := get_form hg
    have a := parse_put hx q
    have b := parse_put h []
    rw [List.append_nil] at b
    rw [e, b] at a
    simp only [Option.some.injEq, Prod.mk.injEq] at a
    exact absurd a.2.symm hq
theorem get_more {o : O} (h : o.check = 0) {q : List UInt8} (hq : q ≠ []) : getS (o.bytes ++ q) = none := by
  cases hg : getS (o.bytes ++ q) with
  | none => rfl
  | some x =>
    obtain ⟨hx, e⟩ := get_form hg
    have a := parse_put h q
    have b := parse_put hx []
    rw [List.append_nil] at b
    rw [← e, b] at a
    simp only [Option.some.injEq, Prod.mk.injEq] at a
    exact absurd a.2.symm hq
theorem bytes_len {o : O} (h : o.check = 0) : 1 ≤ o.bytes.length ∧ o.bytes.length ≤ 116 := by
  obtain ⟨h1, h2, h3, h4, h5, h6, h7, h8, h9⟩ := fine_of h
  have a : 1 ≤ (intB o.kind).length ∧ (intB o.kind).length ≤ 9 := by unfold intB; rw [if_neg (by omega)]; exact numB_len _
  have b : (textB o.key).length ≤ 9 + o.key.length := by have := numB_len o.key.length; simp [textB]; omega
  have c : (textB o.val).length ≤ 9 + o.val.length := by have := numB_len o.val.length; simp [textB]; omega
  have d : 1 ≤ (intB o.ver).length ∧ (intB o.ver).length ≤ 9 := by unfold intB; rw [if_neg (by omega)]; exact numB_len _
  unfold O.bytes
  generalize intB o.kind = A at *
  generalize textB o.key = B at *
  generalize textB o.val = C at *
  generalize intB o.ver = D at *
  split <;> split <;> simp only [List.length_append, List.length_nil] <;> omega

/-- As the document's answer gets it: what its bytes say, if that one's are these. -/
def ref (s : List UInt8) : O :=
  let x := (unintS s).getD (0, []); let y := (cutS x.2).getD ([], []); let z := (cutS y.2).getD ([], []); let u := (unintS z.2).getD (0, [])
  ⟨x.1, y.1, if x.1 = 2 ∨ x.1 = 4 then z.1 else [], if x.1 = 4 then u.1 else 0⟩
theorem ref_put {o : O} (h : o.check = 0) : ref o.bytes = o := by
  obtain ⟨k, y, v, n⟩ := o
  obtain ⟨h1, h2, h3, h4, h5, h6, h7, h8, h9⟩ := fine_of h
  simp only at *
  have e1 := fun r => unint_put k (by omega) (by omega) r
  have e2 := fun r => cut_put y (by omega) r
  have e3 := fun r => cut_put v (by omega) r
  have e4 := fun r => unint_put n (by omega) (by omega) r
  unfold ref O.bytes
  simp only [List.append_assoc, e1, e2, Option.getD_some]
  by_cases hk : k = 2 ∨ k = 4
  · simp only [if_pos hk, e3, Option.getD_some]
    by_cases h4' : k = 4
    · have := e4 []
      rw [List.append_nil] at this
      simp only [if_pos h4', this, Option.getD_some]
    · simp only [if_neg h4']
      rw [h8 h4']
  · simp only [if_neg hk, if_neg (show ¬ k = 4 by omega)]
    rw [h8 (by omega), h9 (by omega) (by omega)]
theorem ref_get (s : List UInt8) : getS s = if (ref s).check = 0 ∧ (ref s).bytes = s then some (ref s) else none := by
  split
  · rename_i h
    have := get_put h.1
    rwa [h.2] at this
  · rename_i h
    cases hg : getS s with
    | none => rfl
    | some o =>
      obtain ⟨h1, rfl⟩ := get_form hg
      rw [ref_put h1] at h
      exact absurd ⟨h1, rfl⟩ h
theorem put_ok {o : O} (h : o.check = 0) : o.put = o.bytes := if_pos h
theorem put_no {o : O} (h : o.check ≠ 0) : o.put = [] := if_neg h
end Go.Proofs.Ytbmepaglhkndpaa.Ops
