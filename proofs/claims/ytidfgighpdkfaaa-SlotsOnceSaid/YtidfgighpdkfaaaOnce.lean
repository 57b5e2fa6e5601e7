/-
  Contracts of sync.Once in the run of one goroutine: the two calls that 'doSlow' defers, the lock, 'doSlow', 'Do' (not yet done, done). Conditions: the Once's word is 0 and its lock free; or its word is not 0. The walks follow the guide's worked example of sync.Once.
-/
import Derived.Test.YtidfgighpdkfaaaProg
import Derived.Test.YtidfgighpdkfaaaBlk
import Derived.Tactics
import Derived.Tactics2
import Derived.Defers
import Derived.Laws.Pointers
import Derived.Laws.LoneSync
import Derived.RegionTactic
import Derived.RegionCalls
import Derived.ChangeAlike
import Derived.Laws.NewBlocks
namespace Go.Proofs.Ytidfgighpdkfaaa.Once
open Go.RowKit Go.Proofs.Ytidfgighpdkfaaa.Mem

theorem disable (w : World) : (callFunc 25 #[]).run Try.prog w = .ok (.value (.tuple #[])) w := run_call_mark0 Try.func25 (by kernel_rfl) (by kernel_rfl) (by kernel_rfl) .disable (by kernel_rfl) w
theorem enable (w : World) : (callFunc 27 #[]).run Try.prog w = .ok (.value (.tuple #[])) w := run_call_mark0 Try.func27 (by kernel_rfl) (by kernel_rfl) (by kernel_rfl) .enable (by kernel_rfl) w
theorem acquire (a : Addr) (w : World) : (callFunc 28 #[.pointer (some a)]).run Try.prog w = .ok (.value (.tuple #[])) w := run_call_marked Try.func28 (by kernel_rfl) (by kernel_rfl) (by kernel_rfl) .acquire (by kernel_rfl) a w
theorem releaseMerge (a : Addr) (w : World) : (callFunc 30 #[.pointer (some a)]).run Try.prog w = .ok (.value (.tuple #[])) w := run_call_marked Try.func30 (by kernel_rfl) (by kernel_rfl) (by kernel_rfl) .releaseMerge (by kernel_rfl) a w

theorem store_deferred (a : Addr) (x : Value) (u : FrameMode) (w : World) (hc : w.cell? a = some x) (hz : w.frozen? a = false) :
    CallsD Try.prog 24 #[.pointer (some a), .bool true] u w fun e u' w' => u' = u ∧ (e = .returned (.tuple #[]) ∧ w' = w.drew.setCell a (.int .u32 1)) := by
  have hc' : w.drew.cell? a = some x := by go_simp
  have hz' : w.drew.frozen? a = false := by go_simp
  have hst := run_call_store (P := Try.prog) Try.func33 (by kernel_rfl) (by kernel_rfl) (by kernel_rfl) (by kernel_rfl) (k := .u32) (y := 1) hc' hz'
  go_enter_d Try.func24, Try.ntmps24
  go_wp2
  go_region_calls
  all_goals (go_end0; exact ⟨rfl, rfl⟩)

theorem unlock_deferred (a : Addr) (u : FrameMode) (w : World) (hc : w.cell? a = some (.int .i32 1)) (hz : w.frozen? a = false) :
    CallsD Try.prog 18 #[.pointer (some a)] u w fun e u' w' => u' = u ∧ (e = .returned (.tuple #[]) ∧ w' = w.setCell a (.int .i32 0)) := by
  have hd := disable
  have he := enable
  have hr := releaseMerge
  have hadd := run_call_add (P := Try.prog) Try.func31 (by kernel_rfl) (by kernel_rfl) (by kernel_rfl) .i32 (by kernel_rfl) (y := -1) (s := 0) hc hz (by simp [go_sem]; rfl)
  have hcv := run_convert_to_unsafe (P := Try.prog) (src := 60) (dst := 64) Try.underlying60 Try.underlying64 (by kernel_rfl) hc
  go_enter_d Try.func18, Try.ntmps18
  go_wp2
  go_end0
  go_wp2
  go_end0
  exact ⟨rfl, rfl⟩

theorem lock_free (a : Addr) (w : World) (hc : w.cell? a = some (.int .i32 0)) (hz : w.frozen? a = false) :
    Calls Try.prog 17 #[.pointer (some a)] w fun e w' => e = .returned (.tuple #[]) ∧ w' = w.setCell a (.int .i32 1) := by
  have hd := disable
  have he := enable
  have ha := acquire
  have hcas := run_call_cas_hit (P := Try.prog) Try.func26 (by kernel_rfl) (by kernel_rfl) (by kernel_rfl) .i32 (by kernel_rfl) (y := 1) hc hz
  have hc' : (w.setCell a (.int .i32 1)).cell? a = some (.int .i32 1) := World.cell?_setCell_same w a _ hc
  have hcv := run_convert_to_unsafe (P := Try.prog) (src := 60) (dst := 64) Try.underlying60 Try.underlying64 (by kernel_rfl) hc'
  go_enter Try.func17, Try.ntmps17
  go_wp2
  first | go_end0 | (simp only [Exit.inBlock, Exit.then]; refine bodyPost_ret (results_none rfl _ _ _) rfl ?_) | refine bodyPost_ret (results_none rfl _ _ _) rfl ?_
  go_wp2
  go_end0
  exact ⟨rfl, rfl⟩

theorem load_bool (a : Addr) (w : World) (d : Int) (hc : w.cell? a = some (.int .u32 d)) : Calls Try.prog 19 #[.pointer (some a)] w fun e w' => e = .returned (.bool (d != 0)) ∧ w' = w := by
  have hl := run_call_load (P := Try.prog) Try.func23 (by kernel_rfl) (by kernel_rfl) (by kernel_rfl) .u32 (by kernel_rfl) hc
  go_enter Try.func19, Try.ntmps19
  go_wp2
  go_ret
  exact ⟨rfl, rfl⟩

/-- The Once at b, off: its word, and its lock's. -/
structure OnceAt (w : World) (b off : Nat) (d l : Int) : Prop where
  c0 : w.cell? ⟨b, off, none⟩ = some (.int .u32 d)
  c1 : w.cell? ⟨b, off + 1, none⟩ = some (.int .i32 l)
  f0 : w.frozen? ⟨b, off, none⟩ = false
  f1 : w.frozen? ⟨b, off + 1, none⟩ = false

section
variable (b off : Nat) (x0 x1 x2 : Value) (w : World) (h : OnceAt w b off 0 0) (Q : World → Prop)
  (hf : Calls Try.prog 15 #[x0, x1, x2] (w.setCell ⟨b, off + 1, none⟩ (.int .i32 1)) fun e w' => e = .returned (.tuple #[]) ∧ Q w') (hQ : ∀ w', Q w' → OnceAt w' b off 0 1)
include h hf hQ
set_option maxRecDepth 100000 in
set_option maxHeartbeats 1600000 in
theorem slow_any : Calls Try.prog 20 #[.pointer (some ⟨b, off, none⟩), .func (.func 15) #[] #[x0, x1, x2]] w fun e w' => e = .returned (.tuple #[]) ∧
    ∃ w1, Q w1 ∧ w' = (w1.drew.setCell ⟨b, off, none⟩ (.int .u32 1)).setCell ⟨b, off + 1, none⟩ (.int .i32 0) := by
  obtain ⟨c0, c1, f0, f1⟩ := h
  have c0' : (w.setCell ⟨b, off + 1, none⟩ (.int .i32 1)).cell? ⟨b, off, none⟩ = some (.int .u32 0) := (World.cell?_setCell_other _ ⟨b, off + 1, none⟩ ⟨b, off, none⟩ _ (by simp)).trans c0
  have L := Lib.hid (load_bool ⟨b, off, none⟩ (w.setCell ⟨b, off + 1, none⟩ (.int .i32 1)) 0 c0')
  have hnot : ∀ (x : Bool) (w : World), (Op.unary .not (.bool x)).run Try.prog w = .ok (.bool (!x)) w := fun _ _ => rfl
  replace hf := Lib.hid hf
  replace hQ := Lib.hid hQ
  go_enter_defers Try.func20, Try.ntmps20
  go_wp2_with (first
    | (go_at_call 17; refine (lock_free ⟨b, off + 1, none⟩ _ c1 f1).mono ?_; rintro e w' ⟨rfl, rfl⟩)
    | (go_at_call 19; refine L.out.mono ?_; rintro e w' ⟨rfl, rfl⟩)
    | (go_at_call 15; refine hf.out.mono ?_; rintro e w1 ⟨rfl, hq⟩))
  obtain ⟨k0, k1, z0, z1⟩ := hQ.out _ hq
  have k1' : (w1.drew.setCell ⟨b, off, none⟩ (.int .u32 1)).cell? ⟨b, off + 1, none⟩ = some (.int .i32 1) := (World.cell?_setCell_other _ ⟨b, off, none⟩ ⟨b, off + 1, none⟩ _ (by simp)).trans k1
  have z1' : (w1.drew.setCell ⟨b, off, none⟩ (.int .u32 1)).frozen? ⟨b, off + 1, none⟩ = false := by rw [World.frozen?_setCell]; exact z1
  replace hq := Lib.hid hq
  refine leaves_cons (f := 24) (args := #[.pointer (some ⟨b, off, none⟩), .bool true]) (by simp) (by simp [go_sem]) ?_
  refine (store_deferred ⟨b, off, none⟩ (.int .u32 0) .returning _ k0 z0).mono ?_
  rintro e u' w'' ⟨rfl, rfl, rfl⟩
  refine leaves_cons (f := 18) (args := #[.pointer (some ⟨b, off + 1, none⟩)]) (by simp [settle]) (by simp [go_sem]) ?_
  refine (unlock_deferred ⟨b, off + 1, none⟩ _ _ k1' z1').mono ?_
  rintro e u' w'' ⟨rfl, rfl, rfl⟩
  simp [Leaves, settle, results, Try.results20]
  exact ⟨w1, hq.out, rfl⟩
theorem do_first : Calls Try.prog 14 #[.pointer (some ⟨b, off, none⟩), .func (.func 15) #[] #[x0, x1, x2]] w fun e w' => e = .returned (.tuple #[]) ∧
    ∃ w1, Q w1 ∧ w' = (w1.drew.setCell ⟨b, off, none⟩ (.int .u32 1)).setCell ⟨b, off + 1, none⟩ (.int .i32 0) := by
  have L := Lib.hid (load_bool ⟨b, off, none⟩ w 0 h.c0)
  have hnot : ∀ (x : Bool) (w : World), (Op.unary .not (.bool x)).run Try.prog w = .ok (.bool (!x)) w := fun _ _ => rfl
  have S := Lib.hid (slow_any b off x0 x1 x2 w h Q hf hQ)
  clear hf hQ h
  go_enter Try.func14, Try.ntmps14
  go_wp2_with (first
    | (go_at_call 19; refine L.out.mono ?_; rintro e w' ⟨rfl, rfl⟩)
    | (go_at_call 20; refine S.out.mono ?_; rintro e w' ⟨rfl, hw⟩))
  go_end0
  exact ⟨rfl, hw⟩
end
theorem do_done (b off : Nat) (fv : Value) (w : World) (h : OnceAt w b off 1 0) : Calls Try.prog 14 #[.pointer (some ⟨b, off, none⟩), fv] w fun e w' => e = .returned (.tuple #[]) ∧ w' = w := by
  have L := Lib.hid (load_bool ⟨b, off, none⟩ w 1 h.c0)
  have hnot : ∀ (x : Bool) (w : World), (Op.unary .not (.bool x)).run Try.prog w = .ok (.bool (!x)) w := fun _ _ => rfl
  clear h
  go_enter Try.func14, Try.ntmps14
  go_wp2_with (go_at_call 19; refine L.out.mono ?_; rintro e w' ⟨rfl, rfl⟩)
  go_end0
  exact ⟨rfl, rfl⟩
end Go.Proofs.Ytidfgighpdkfaaa.Once
