/-
  No cell of these rows narrows 'for every input' (looked for: loops, veiled, ifaces, maps, wideKeys, modest, calm, conditions, laid).
  DERIVED. THE GIVEN ROWS OF THIS SEAT. 3 by the template 'for every input the law returns true; each argument reads behind the call as it read before'; 0 by the template 'total and deterministic' (their statements: YtmjbgjdiacdacaaTotals.lean).
  GIVEN WITH THE SEED: the statements are not yours to turn. If you find one false, say at which input.
  Laid BY PROGRAM, IN A SANDBOX (cutbox-rows.mjs): the forced cells as the released guide's own fill.sh prints them over the translation ecebd7258dd63cb1… (all of the seat's roots in one cut). By AI agents, Wed Nov 11 2026. No macro, syntax, notation, axiom, sorry.
-/
import Derived.Test.YtmjbgjdiacdacaaChecked
import GoSem.Claim
import GoSem.ClaimJoined
import GoSem.ClaimMapViews
import Derived.JoinedTies
import Derived.KernelRfl
namespace Go.Proofs.Ytmjbgjdiacdacaa
/- THE CELL 'sum', in the pinned program and in every row, IS THE sha256 OF THE DUMP (.gsa) THAT YtmjbgjdiacdacaaProg.lean LOADS. Nothing in Lean hashes anything: it is a label: what it is worth is what the hold of that sum in a sandbox is worth. -/
noncomputable def Try.pinned : Pinned := { name := "ytmjbgjdiacdacaa", sum := "ecebd7258dd63cb187f3098d37c84934f2d768f95f245f48c73f34db24cb2bf5", checked := Try.checked }
namespace Rows
def none {H : Type} : Left H := { results := [], args := [] }

/-- 'fairwaylaw04.WindowsPlay': WHATEVER THE INPUT: true; the input reads as it did. -/
def windowsPlaySpec : ChangeSpec := { name := "windowsPlay", fn := fun _ => fun
  | [d1, d2, d3] => { results := [.lit (.bool true)], args := [d1, d2, d3] }
  | _ => none }
def windowsPlayRow : OpenClaim := { program := "ytmjbgjdiacdacaa", sum := "ecebd7258dd63cb187f3098d37c84934f2d768f95f245f48c73f34db24cb2bf5", func := "fairway/fairwaylaw04.WindowsPlay", spec := "windowsPlay", apart := false }
def WindowsPlaySaid : Prop := windowsPlayRow.holds Try.pinned (OpenSpec.ofChange windowsPlaySpec)

/-- ITS FALSE NEIGHBOUR: 'it returns false'. Refute it at one input. -/
def windowsPlayWrong : ChangeSpec := { name := "windowsPlay", fn := fun _ => fun
  | [d1, d2, d3] => { results := [.lit (.bool false)], args := [d1, d2, d3] }
  | _ => none }
def WindowsPlayWrongFalsely : Prop := windowsPlayRow.holds Try.pinned (OpenSpec.ofChange windowsPlayWrong)

/-- 'fairwaylaw04.WindowsNone': WHATEVER THE INPUT: true; the input reads as it did. -/
def windowsNoneSpec : ChangeSpec := { name := "windowsNone", fn := fun _ => fun
  | [d] => { results := [.lit (.bool true)], args := [d] }
  | _ => none }
def windowsNoneRow : OpenClaim := { program := "ytmjbgjdiacdacaa", sum := "ecebd7258dd63cb187f3098d37c84934f2d768f95f245f48c73f34db24cb2bf5", func := "fairway/fairwaylaw04.WindowsNone", spec := "windowsNone", apart := false }
def WindowsNoneSaid : Prop := windowsNoneRow.holds Try.pinned (OpenSpec.ofChange windowsNoneSpec)

/-- ITS FALSE NEIGHBOUR: 'it returns false'. Refute it at one input. -/
def windowsNoneWrong : ChangeSpec := { name := "windowsNone", fn := fun _ => fun
  | [d] => { results := [.lit (.bool false)], args := [d] }
  | _ => none }
def WindowsNoneWrongFalsely : Prop := windowsNoneRow.holds Try.pinned (OpenSpec.ofChange windowsNoneWrong)

/-- 'fairwaylaw04.WindowsBounds': WHATEVER THE INPUT: true; the input reads as it did. -/
def windowsBoundsSpec : ChangeSpec := { name := "windowsBounds", fn := fun _ => fun
  | [d1, d2] => { results := [.lit (.bool true)], args := [d1, d2] }
  | _ => none }
def windowsBoundsRow : OpenClaim := { program := "ytmjbgjdiacdacaa", sum := "ecebd7258dd63cb187f3098d37c84934f2d768f95f245f48c73f34db24cb2bf5", func := "fairway/fairwaylaw04.WindowsBounds", spec := "windowsBounds", apart := false }
def WindowsBoundsSaid : Prop := windowsBoundsRow.holds Try.pinned (OpenSpec.ofChange windowsBoundsSpec)

/-- ITS FALSE NEIGHBOUR: 'it returns false'. Refute it at one input. -/
def windowsBoundsWrong : ChangeSpec := { name := "windowsBounds", fn := fun _ => fun
  | [d1, d2] => { results := [.lit (.bool false)], args := [d1, d2] }
  | _ => none }
def WindowsBoundsWrongFalsely : Prop := windowsBoundsRow.holds Try.pinned (OpenSpec.ofChange windowsBoundsWrong)

/- THE SECOND FORM. 'bulk': how many values and letters a reading holds, each counted each time it is reached (what is shared counts as often as it is met; a slice's spare places count too). A statement '..UptoSaid' is the law's where the arguments, and the package variables that the reading takes, are together of bulk at most 1048576: NARROWER than '..Said'. Prove '..Said' where nothing that the law and all that it calls make is longer than what came in: it says more and counts as full. Else prove '..UptoSaid'. A law counts once. -/
mutual
def uptoBulk {H : Type} : DataW H → Nat
  | .lit (.string bytes) => bytes.length + 1
  | .lit _ => 1
  | .nil => 1
  | .ptr d => uptoBulk d + 1
  | .slice elems spare => uptoBulkAll elems + uptoBulkAll spare + 1
  | .agg parts => uptoBulkAll parts + 1
  | .iface _ d => uptoBulk d + 1
  | .map entries => uptoBulkEntries entries + 1
  | .held _ => 1
def uptoBulkAll {H : Type} : List (DataW H) → Nat
  | [] => 0
  | d :: r => uptoBulk d + uptoBulkAll r
def uptoBulkEntries {H : Type} : List (Lit × DataW H) → Nat
  | [] => 0
  | x :: r => uptoBulkEntry x + uptoBulkEntries r
def uptoBulkEntry {H : Type} : Lit × DataW H → Nat
  | (.string bytes, d) => bytes.length + uptoBulk d + 1
  | (_, d) => uptoBulk d + 1
 end
def uptoSmall : (H : Type) → List (DataW H) → Bool := fun _ ds => decide (uptoBulkAll ds ≤ 1048576)
def OpenSpec.upto (s : _root_.Go.ChangeSpec) : _root_.Go.OpenSpec := { _root_.Go.OpenSpec.ofChange s with cond := some uptoSmall }

/-- 'fairwaylaw04.WindowsPlay', WHERE WHAT IT READS IS OF BULK AT MOST 1048576: true; the input reads as it did. -/
def windowsPlayUptoRow : OpenClaim := { program := "ytmjbgjdiacdacaa", sum := "ecebd7258dd63cb187f3098d37c84934f2d768f95f245f48c73f34db24cb2bf5", func := "fairway/fairwaylaw04.WindowsPlay", spec := "windowsPlay", apart := false, narrowed := true }
def WindowsPlayUptoSaid : Prop := windowsPlayUptoRow.holds Try.pinned (OpenSpec.upto windowsPlaySpec)

/-- 'fairwaylaw04.WindowsNone', WHERE WHAT IT READS IS OF BULK AT MOST 1048576: true; the input reads as it did. -/
def windowsNoneUptoRow : OpenClaim := { program := "ytmjbgjdiacdacaa", sum := "ecebd7258dd63cb187f3098d37c84934f2d768f95f245f48c73f34db24cb2bf5", func := "fairway/fairwaylaw04.WindowsNone", spec := "windowsNone", apart := false, narrowed := true }
def WindowsNoneUptoSaid : Prop := windowsNoneUptoRow.holds Try.pinned (OpenSpec.upto windowsNoneSpec)

/-- 'fairwaylaw04.WindowsBounds', WHERE WHAT IT READS IS OF BULK AT MOST 1048576: true; the input reads as it did. -/
def windowsBoundsUptoRow : OpenClaim := { program := "ytmjbgjdiacdacaa", sum := "ecebd7258dd63cb187f3098d37c84934f2d768f95f245f48c73f34db24cb2bf5", func := "fairway/fairwaylaw04.WindowsBounds", spec := "windowsBounds", apart := false, narrowed := true }
def WindowsBoundsUptoSaid : Prop := windowsBoundsUptoRow.holds Try.pinned (OpenSpec.upto windowsBoundsSpec)

end Rows
end Go.Proofs.Ytmjbgjdiacdacaa
