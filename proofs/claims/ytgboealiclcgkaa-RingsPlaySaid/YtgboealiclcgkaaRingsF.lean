/-
  Frames and acts as arguments: by their shapes; and 'Great' of fairwaylaw03: what it lets pass has few members.
-/
import Derived.Test.YtgboealiclcgkaaRingsE
import Derived.Test.YtgboealiclcgkaaTyped
namespace Go.Proofs.Ytgboealiclcgkaa.Rings
open Go.RowKit Go.Proofs.Ytgboealiclcgkaa.Mem
attribute [local go_sem ↓] execLoadF
attribute [local go_sem] loadF

def tI : Ty := .int .i64
def opTy : Ty := .pair tI (.pair .str (.pair .str (.pair tI .unit)))
def resTy : Ty := .pair tI (.pair .str (.pair tI (.pair tI .unit)))
def entryTy : Ty := .pair tI (.pair tI (.pair tI (.pair opTy .unit)))
def memTy : Ty := .pair tI (.pair tI .unit)
def chainTy : Ty := .pair tI (.pair (.slice memTy) (.pair tI .unit))
def frameTy : Ty := .pair tI (.pair tI (.pair tI (.pair tI (.pair tI (.pair tI (.pair tI (.pair opTy (.pair resTy (.pair tI (.pair entryTy (.pair chainTy (.pair tI (.pair tI (.pair tI .unit))))))))))))))
def actTy : Ty := .pair (.int .u8) (.pair frameTy (.pair tI .unit))

/-- The numbers and texts of a frame, and its members. -/
structure FrV where
  i0 : Int
  i1 : Int
  i2 : Int
  i3 : Int
  i4 : Int
  i5 : Int
  i6 : Int
  o0 : Int
  o1 : ByteArray
  o2 : ByteArray
  o3 : Int
  r0 : Int
  r1 : ByteArray
  r2 : Int
  r3 : Int
  rs : Int
  e0 : Int
  e1 : Int
  e2 : Int
  p0 : Int
  p1 : ByteArray
  p2 : ByteArray
  p3 : Int
  c0 : Int
  c2 : Int
  x0 : Int
  x1 : Int
  x2 : Int
  ms : List (Int × Int)
def nI (n : Int) : Value := .int .i64 n
def memC (ms : List (Int × Int)) : List Value := ms.flatMap fun m => [nI m.1, nI m.2]
def FrV.fr (v : FrV) : Fr :=
  ⟨[nI v.i0, nI v.i1, nI v.i2, nI v.i3, nI v.i4, nI v.i5, nI v.i6, nI v.o0, .string v.o1, .string v.o2, nI v.o3, nI v.r0, .string v.r1, nI v.r2, nI v.r3, nI v.rs, nI v.e0, nI v.e1, nI v.e2, nI v.p0, .string v.p1, .string v.p2, nI v.p3, nI v.c0],
   [nI v.c2, nI v.x0, nI v.x1, nI v.x2], memC v.ms⟩
theorem memC_len (ms : List (Int × Int)) : (memC ms).length = ms.length * 2 := by
  induction ms with
  | nil => rfl
  | cons m r ih => simp [memC] at ih ⊢; omega
theorem FrV.n_eq (v : FrV) : v.fr.n = v.ms.length := by
  show (memC v.ms).length / 2 = _
  rw [memC_len]; omega
theorem memC_one (ms : List (Int × Int)) : ∀ u ∈ memC ms, u.oneCell' = true := by
  intro u hu
  simp [memC] at hu
  obtain ⟨a, b, _, rfl | rfl⟩ := hu <;> rfl
theorem FrV.ok (v : FrV) (h : v.ms.length ≤ 1000000) : FrOk v.fr v.fr.n :=
  ⟨rfl, rfl, by rw [FrV.n_eq]; exact memC_len _, by simp [FrV.fr, nI, Value.oneCell'], memC_one _, by rw [FrV.n_eq]; exact h⟩

theorem FrOk.of_at {w : World} {fc : List Value} {x : FrV} {n : Nat} {I : List Nat} (h : FrAt w fc x.fr n I) : fc.length = 29 := by
  obtain ⟨v, rfl, _⟩ := h
  rfl

theorem fits_int {w : World} {k : IntKind} {cs : List Value} (h : Fits w (.int k) cs) : ∃ n, cs = [.int k n] ∧ (Lit.int k n).wf = true := h
/-- A slice of members. -/
theorem fits_mems {w : World} {cs : List Value} (h : Fits w (.slice memTy) cs) : ∃ (v : Value) (ms : List (Int × Int)) (I : List Nat), cs = [v] ∧ SlAt w v ms.length (memC ms) I ∧ ∀ b ∈ I, b < w.heap.size := by
  rcases h with rfl | ⟨a, len, cap, rfl, h1, h2, h3⟩
  · exact ⟨_, [], [], rfl, ⟨none, 0, rfl, Nat.le_refl _, by simp [maxLen], fun _ => ⟨rfl, rfl, rfl⟩, fun _ h => by cases h⟩, by simp⟩
  · have key : ∀ n, n ≤ len → ∃ ms : List (Int × Int), ms.length = n ∧ w.rangeAt a.block a.off (memC ms) ∧ (0 < n → a.block < w.heap.size) := by
      intro n
      induction n with
      | zero => exact fun _ => ⟨[], rfl, fun j v hv => by simp [memC] at hv, by simp⟩
      | succ n ih =>
        intro hn
        obtain ⟨ms, hl, hr, _⟩ := ih (by omega)
        obtain ⟨_, es, hes, hre, x, y, rfl, ⟨p, rfl, _⟩, z, t, rfl, ⟨q, rfl, _⟩, ht⟩ := h3 n (by omega)
        subst ht
        refine ⟨ms ++ [(p, q)], by simp [hl], ?_, fun _ => World.block_lt_of_cell? w ⟨a.block, a.off + n * memTy.size + 0, none⟩ (hre 0 _ rfl)⟩
        have e : memC (ms ++ [(p, q)]) = memC ms ++ [nI p, nI q] := by simp [memC]
        rw [e]
        intro j v hv
        have hml := memC_len ms
        by_cases hj : j < (memC ms).length
        · rw [List.getElem?_append_left hj] at hv
          exact hr j v hv
        · rw [List.getElem?_append_right (by omega)] at hv
          have := hre (j - (memC ms).length) v hv
          simp only [memTy, tI, Ty.size] at this
          rw [show a.off + n * (1 + (1 + 0)) + (j - (memC ms).length) = a.off + j by omega] at this
          exact this
    obtain ⟨ms, hl, hr, hb⟩ := key len (Nat.le_refl _)
    refine ⟨_, ms, if len = 0 then [] else [a.block], rfl, ⟨some a, cap, by rw [hl], by omega, h2, by simp, fun a' ha => ?_⟩, fun b hb' => ?_⟩
    · cases ha
      rw [hl]
      exact ⟨fun h0 => ⟨(h3 0 h0).1, by rw [if_neg (by omega)]; simp⟩, hr⟩
    · split at hb'
      · cases hb'
      · simp at hb'; subst hb'; exact hb (by omega)

/-- A frame. -/
theorem fits_frame {w : World} {cs : List Value} (h : Fits w frameTy cs) : ∃ (x : FrV) (I : List Nat), FrAt w cs x.fr x.fr.n I ∧ ∀ b ∈ I, b < w.heap.size := by
  obtain ⟨_, t0, rfl, ⟨i0, rfl, _⟩, _, t1, rfl, ⟨i1, rfl, _⟩, _, t2, rfl, ⟨i2, rfl, _⟩, _, t3, rfl, ⟨i3, rfl, _⟩, _, t4, rfl, ⟨i4, rfl, _⟩, _, t5, rfl, ⟨i5, rfl, _⟩, _, t6, rfl, ⟨i6, rfl, _⟩, h⟩ := h
  obtain ⟨_, t7, rfl, ⟨_, u0, rfl, ⟨o0, rfl, _⟩, _, u1, rfl, ⟨o1, rfl, _⟩, _, u2, rfl, ⟨o2, rfl, _⟩, _, u3, rfl, ⟨o3, rfl, _⟩, rfl⟩, h⟩ := h
  obtain ⟨_, t8, rfl, ⟨_, v0, rfl, ⟨r0, rfl, _⟩, _, v1, rfl, ⟨r1, rfl, _⟩, _, v2, rfl, ⟨r2, rfl, _⟩, _, v3, rfl, ⟨r3, rfl, _⟩, rfl⟩, h⟩ := h
  obtain ⟨_, t9, rfl, ⟨rs, rfl, _⟩, h⟩ := h
  obtain ⟨_, t10, rfl, ⟨_, e0', rfl, ⟨e0, rfl, _⟩, _, e1', rfl, ⟨e1, rfl, _⟩, _, e2', rfl, ⟨e2, rfl, _⟩, _, e3', rfl, ⟨_, p0', rfl, ⟨p0, rfl, _⟩, _, p1', rfl, ⟨p1, rfl, _⟩, _, p2', rfl, ⟨p2, rfl, _⟩, _, p3', rfl, ⟨p3, rfl, _⟩, rfl⟩, rfl⟩, h⟩ := h
  obtain ⟨_, t11, rfl, ⟨_, c0', rfl, ⟨c0, rfl, _⟩, _, c1', rfl, hm, _, c2', rfl, ⟨c2, rfl, _⟩, rfl⟩, h⟩ := h
  obtain ⟨_, t12, rfl, ⟨x0, rfl, _⟩, _, t13, rfl, ⟨x1, rfl, _⟩, _, t14, rfl, ⟨x2, rfl, _⟩, rfl⟩ := h
  obtain ⟨v, ms, I, rfl, hs, hI⟩ := fits_mems hm
  exact ⟨⟨i0, i1, i2, i3, i4, i5, i6, o0, o1, o2, o3, r0, r1, r2, r3, rs, e0, e1, e2, p0, p1, p2, p3, c0, c2, x0, x1, x2, ms⟩, I, ⟨v, rfl, by rw [FrV.n_eq]; exact hs⟩, hI⟩

/-- An act: its kind, its frame, its number. -/
theorem fits_act {w : World} {cs : List Value} (h : Fits w actTy cs) : ∃ (k i : Int) (fc : List Value) (x : FrV) (I : List Nat), cs = .int .u8 k :: (fc ++ [nI i]) ∧ (Lit.int .u8 k).wf = true ∧ (Lit.int .i64 i).wf = true ∧ FrAt w fc x.fr x.fr.n I ∧ ∀ b ∈ I, b < w.heap.size := by
  obtain ⟨_, t0, rfl, ⟨k, rfl, hk⟩, fc, t1, rfl, hf, _, t2, rfl, ⟨i, rfl, hi⟩, rfl⟩ := h
  obtain ⟨x, I, hx, hI⟩ := fits_frame hf
  exact ⟨k, i, fc, x, I, rfl, hk, hi, hx, hI⟩
end Go.Proofs.Ytgboealiclcgkaa.Rings
