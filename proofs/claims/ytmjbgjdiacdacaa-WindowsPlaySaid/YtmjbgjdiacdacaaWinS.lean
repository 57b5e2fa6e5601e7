/-
  'alike' of fairwaylaw04: of a window and the document's one at the same five numbers. Conditions: both in memory.
-/
import Derived.Test.YtmjbgjdiacdacaaWinR
import Derived.Test.YtmjbgjdiacdacaaWinE
namespace Go.Proofs.Ytmjbgjdiacdacaa.Win
open Go.RowKit Go.Proofs.Ytmjbgjdiacdacaa.Mem

theorem alike_yes (w : World) (p r : Nat) (v : V) (h : WAt TW w p v) (h2 : WAt TR w r v) :
    Calls Try.prog 22 #[.pointer (some ⟨p, 0, none⟩), .pointer (some ⟨r, 0, none⟩)] w fun e w' => e = .returned (.bool true) ∧ ∃ k, w' = w.drewN k := by
  have c0 : w.cell? ⟨r, 0, none⟩ = some (.int .i64 v.c) := h2.blk.cell 0
  have c1 : w.cell? ⟨r, 1, none⟩ = some (.int .i64 v.l) := h2.blk.cell 1
  have c2 : w.cell? ⟨r, 2, none⟩ = some (.int .i64 v.d) := h2.blk.cell 2
  have c3 : w.cell? ⟨r, 3, none⟩ = some (.int .i64 v.s) := h2.blk.cell 3
  have c4 : w.cell? ⟨r, 4, none⟩ = some (.int .i64 v.m) := h2.blk.cell 4
  obtain ⟨g1, g2, g3, g4, g5, g6, g7, g8, g9⟩ := h.ok
  have H := Lib.hid h
  have H2 := Lib.hid h2
  clear h h2
  go_enter Try.func22, Try.ntmps22
  go_wp2_with fail
  go_quiet (first
    | (go_at_call 23; exact Calls.quiet_of_same (last_at _ p v (H.out.drewN _)))
    | (go_at_call 24; exact Calls.quiet_of_same (done_at _ p v (H.out.drewN _)))
    | (go_at_call 25; exact Calls.quiet_of_same (sent_at _ p v (H.out.drewN _)))
    | (go_at_call 26; exact Calls.quiet_of_same (limit_at _ p v (H.out.drewN _)))
    | (go_at_call 27; exact Calls.quiet_of (offer_at _ p v (H.out.drewN _)))
    | (go_at_call 28; exact Calls.quiet_of (free_at _ p v (H.out.drewN _)))
    | (go_at_call 30; exact Calls.quiet_of (rfree_at _ r v (H2.out.drewN _))))
  go_wp2
  go_ret
  exact ⟨rfl, _, rfl⟩
end Go.Proofs.Ytmjbgjdiacdacaa.Win
