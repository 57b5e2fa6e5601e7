/-
  No cell of these rows narrows 'for every input' (looked for: loops, veiled, ifaces, maps, wideKeys, modest, calm, conditions, laid).
  DERIVED. THE GIVEN ROWS OF THIS SEAT. 3 by the template 'for every input the law returns true; each argument reads behind the call as it read before'; 0 by the template 'total and deterministic' (their statements: YtbmepaglhkndpaaTotals.lean).
  GIVEN WITH THE SEED: the statements are not yours to turn. If you find one false, say at which input.
  Laid BY PROGRAM, IN A SANDBOX (cutbox-rows.mjs): the forced cells as the released guide's own fill.sh prints them over the translation ea392937cfa9af98… (all of the seat's roots in one cut). By AI agents, Wed Nov 11 2026. No macro, syntax, notation, axiom, sorry.
-/
import Derived.Test.YtbmepaglhkndpaaChecked
import GoSem.Claim
import GoSem.ClaimJoined
import GoSem.ClaimMapViews
import Derived.JoinedTies
import Derived.KernelRfl
namespace Go.Proofs.Ytbmepaglhkndpaa
/- THE CELL 'sum', in the pinned program and in every row, IS THE sha256 OF THE DUMP (.gsa) THAT YtbmepaglhkndpaaProg.lean LOADS. Nothing in Lean hashes anything: it is a label: what it is worth is what the hold of that sum in a sandbox is worth. -/
noncomputable def Try.pinned : Pinned := { name := "ytbmepaglhkndpaa", sum := "ea392937cfa9af987e73ca510e7ed2da640b8850d777bace930597a071d5c77f", checked := Try.checked }
namespace Rows
def none {H : Type} : Left H := { results := [], args := [] }

/-- 'fairwaylaw11.LogsPlay': WHATEVER THE INPUT: true; the input reads as it did. -/
def logsPlaySpec : ChangeSpec := { name := "logsPlay", fn := fun _ => fun
  | [d] => { results := [.lit (.bool true)], args := [d] }
  | _ => none }
def logsPlayRow : OpenClaim := { program := "ytbmepaglhkndpaa", sum := "ea392937cfa9af987e73ca510e7ed2da640b8850d777bace930597a071d5c77f", func := "fairway/fairwaylaw11.LogsPlay", spec := "logsPlay", inPlace := ["maps.clone"], apart := false }
def LogsPlaySaid : Prop := logsPlayRow.holds Try.pinned (OpenSpec.ofChange logsPlaySpec)

/-- ITS FALSE NEIGHBOUR: 'it returns false'. Refute it at one input. -/
def logsPlayWrong : ChangeSpec := { name := "logsPlay", fn := fun _ => fun
  | [d] => { results := [.lit (.bool false)], args := [d] }
  | _ => none }
def LogsPlayWrongFalsely : Prop := logsPlayRow.holds Try.pinned (OpenSpec.ofChange logsPlayWrong)

/-- 'fairwaylaw11.LogsNone': WHATEVER THE INPUT: true; the input reads as it did. -/
def logsNoneSpec : ChangeSpec := { name := "logsNone", fn := fun _ => fun
  | [d] => { results := [.lit (.bool true)], args := [d] }
  | _ => none }
def logsNoneRow : OpenClaim := { program := "ytbmepaglhkndpaa", sum := "ea392937cfa9af987e73ca510e7ed2da640b8850d777bace930597a071d5c77f", func := "fairway/fairwaylaw11.LogsNone", spec := "logsNone", inPlace := ["maps.clone"], apart := false }
def LogsNoneSaid : Prop := logsNoneRow.holds Try.pinned (OpenSpec.ofChange logsNoneSpec)

/-- ITS FALSE NEIGHBOUR: 'it returns false'. Refute it at one input. -/
def logsNoneWrong : ChangeSpec := { name := "logsNone", fn := fun _ => fun
  | [d] => { results := [.lit (.bool false)], args := [d] }
  | _ => none }
def LogsNoneWrongFalsely : Prop := logsNoneRow.holds Try.pinned (OpenSpec.ofChange logsNoneWrong)

/-- 'fairwaylaw11.LogsSame': WHATEVER THE INPUT: true; the input reads as it did. -/
def logsSameSpec : ChangeSpec := { name := "logsSame", fn := fun _ => fun
  | [d1, d2] => { results := [.lit (.bool true)], args := [d1, d2] }
  | _ => none }
def logsSameRow : OpenClaim := { program := "ytbmepaglhkndpaa", sum := "ea392937cfa9af987e73ca510e7ed2da640b8850d777bace930597a071d5c77f", func := "fairway/fairwaylaw11.LogsSame", spec := "logsSame", inPlace := ["maps.clone"], apart := false }
def LogsSameSaid : Prop := logsSameRow.holds Try.pinned (OpenSpec.ofChange logsSameSpec)

/-- ITS FALSE NEIGHBOUR: 'it returns false'. Refute it at one input. -/
def logsSameWrong : ChangeSpec := { name := "logsSame", fn := fun _ => fun
  | [d1, d2] => { results := [.lit (.bool false)], args := [d1, d2] }
  | _ => none }
def LogsSameWrongFalsely : Prop := logsSameRow.holds Try.pinned (OpenSpec.ofChange logsSameWrong)

/- THE SECOND FORM. 'bulk': how many values and letters a reading holds, each counted each time it is reached (what is shared counts as often as it is met; a slice's spare places count too). A statement '..UptoSaid' is the law's where the arguments, and the package variables that the reading takes, are together of bulk at most 1048576: NARROWER than '..Said'. Prove '..Said' where nothing that the law and all that it calls make is longer than what came in: it says more and counts as full. Else prove '..UptoSaid'. A law counts once. -/
mutual
def uptoBulk {H : Type} : DataW H → Nat
  | .lit (.string bytes) => bytes.length + 1
  | .lit _ => 1
  | .nil => 1
  | .ptr d => uptoBulk d + 1
  | .slice elems spare => uptoBulkAll elems + uptoBulkAll spare + 1
  | .agg parts => uptoBulkAll parts + 1
  | .iface _ d => uptoBulk d + 1
  | .map entries => uptoBulkEntries entries + 1
  | .held _ => 1
def uptoBulkAll {H : Type} : List (DataW H) → Nat
  | [] => 0
  | d :: r => uptoBulk d + uptoBulkAll r
def uptoBulkEntries {H : Type} : List (Lit × DataW H) → Nat
  | [] => 0
  | x :: r => uptoBulkEntry x + uptoBulkEntries r
def uptoBulkEntry {H : Type} : Lit × DataW H → Nat
  | (.string bytes, d) => bytes.length + uptoBulk d + 1
  | (_, d) => uptoBulk d + 1
 end
def uptoSmall : (H : Type) → List (DataW H) → Bool := fun _ ds => decide (uptoBulkAll ds ≤ 1048576)
def OpenSpec.upto (s : _root_.Go.ChangeSpec) : _root_.Go.OpenSpec := { _root_.Go.OpenSpec.ofChange s with cond := some uptoSmall }

/-- 'fairwaylaw11.LogsPlay', WHERE WHAT IT READS IS OF BULK AT MOST 1048576: true; the input reads as it did. -/
def logsPlayUptoRow : OpenClaim := { program := "ytbmepaglhkndpaa", sum := "ea392937cfa9af987e73ca510e7ed2da640b8850d777bace930597a071d5c77f", func := "fairway/fairwaylaw11.LogsPlay", spec := "logsPlay", inPlace := ["maps.clone"], apart := false, narrowed := true }
def LogsPlayUptoSaid : Prop := logsPlayUptoRow.holds Try.pinned (OpenSpec.upto logsPlaySpec)

/-- 'fairwaylaw11.LogsNone', WHERE WHAT IT READS IS OF BULK AT MOST 1048576: true; the input reads as it did. -/
def logsNoneUptoRow : OpenClaim := { program := "ytbmepaglhkndpaa", sum := "ea392937cfa9af987e73ca510e7ed2da640b8850d777bace930597a071d5c77f", func := "fairway/fairwaylaw11.LogsNone", spec := "logsNone", inPlace := ["maps.clone"], apart := false, narrowed := true }
def LogsNoneUptoSaid : Prop := logsNoneUptoRow.holds Try.pinned (OpenSpec.upto logsNoneSpec)

/-- 'fairwaylaw11.LogsSame', WHERE WHAT IT READS IS OF BULK AT MOST 1048576: true; the input reads as it did. -/
def logsSameUptoRow : OpenClaim := { program := "ytbmepaglhkndpaa", sum := "ea392937cfa9af987e73ca510e7ed2da640b8850d777bace930597a071d5c77f", func := "fairway/fairwaylaw11.LogsSame", spec := "logsSame", inPlace := ["maps.clone"], apart := false, narrowed := true }
def LogsSameUptoSaid : Prop := logsSameUptoRow.holds Try.pinned (OpenSpec.upto logsSameSpec)

end Rows
end Go.Proofs.Ytbmepaglhkndpaa
