/-
  No cell of these rows narrows 'for every input' (looked for: loops, veiled, ifaces, maps, wideKeys, modest, calm, conditions, laid).
  DERIVED. THE GIVEN ROWS OF THIS SEAT. 3 by the template 'for every input the law returns true; each argument reads behind the call as it read before'; 0 by the template 'total and deterministic' (their statements: YthncfpgmgpnclaaTotals.lean).
  GIVEN WITH THE SEED: the statements are not yours to turn. If you find one false, say at which input.
  Laid BY PROGRAM, IN A SANDBOX (cutbox-rows.mjs): the forced cells as the released guide's own fill.sh prints them over the translation 5170c2f3ffe88b3d… (all of the seat's roots in one cut). By AI agents, Wed Nov 11 2026. No macro, syntax, notation, axiom, sorry.
-/
import Derived.Test.YthncfpgmgpnclaaChecked
import GoSem.Claim
import GoSem.ClaimJoined
import GoSem.ClaimMapViews
import Derived.JoinedTies
import Derived.KernelRfl
namespace Go.Proofs.Ythncfpgmgpnclaa
/- THE CELL 'sum', in the pinned program and in every row, IS THE sha256 OF THE DUMP (.gsa) THAT YthncfpgmgpnclaaProg.lean LOADS. Nothing in Lean hashes anything: it is a label: what it is worth is what the hold of that sum in a sandbox is worth. -/
noncomputable def Try.pinned : Pinned := { name := "ythncfpgmgpnclaa", sum := "5170c2f3ffe88b3dc26bb886bcbad07ea7db54477d06562322a5e35d0290e7c6", checked := Try.checked }
namespace Rows
def none {H : Type} : Left H := { results := [], args := [] }

/-- 'fairwaylaw05.BucketsPlay': WHATEVER THE INPUT: true; the input reads as it did. -/
def bucketsPlaySpec : ChangeSpec := { name := "bucketsPlay", fn := fun _ => fun
  | [d1, d2, d3] => { results := [.lit (.bool true)], args := [d1, d2, d3] }
  | _ => none }
def bucketsPlayRow : OpenClaim := { program := "ythncfpgmgpnclaa", sum := "5170c2f3ffe88b3dc26bb886bcbad07ea7db54477d06562322a5e35d0290e7c6", func := "fairway/fairwaylaw05.BucketsPlay", spec := "bucketsPlay", apart := false }
def BucketsPlaySaid : Prop := bucketsPlayRow.holds Try.pinned (OpenSpec.ofChange bucketsPlaySpec)

/-- ITS FALSE NEIGHBOUR: 'it returns false'. Refute it at one input. -/
def bucketsPlayWrong : ChangeSpec := { name := "bucketsPlay", fn := fun _ => fun
  | [d1, d2, d3] => { results := [.lit (.bool false)], args := [d1, d2, d3] }
  | _ => none }
def BucketsPlayWrongFalsely : Prop := bucketsPlayRow.holds Try.pinned (OpenSpec.ofChange bucketsPlayWrong)

/-- 'fairwaylaw05.BucketsNone': WHATEVER THE INPUT: true; the input reads as it did. -/
def bucketsNoneSpec : ChangeSpec := { name := "bucketsNone", fn := fun _ => fun
  | [d] => { results := [.lit (.bool true)], args := [d] }
  | _ => none }
def bucketsNoneRow : OpenClaim := { program := "ythncfpgmgpnclaa", sum := "5170c2f3ffe88b3dc26bb886bcbad07ea7db54477d06562322a5e35d0290e7c6", func := "fairway/fairwaylaw05.BucketsNone", spec := "bucketsNone", apart := false }
def BucketsNoneSaid : Prop := bucketsNoneRow.holds Try.pinned (OpenSpec.ofChange bucketsNoneSpec)

/-- ITS FALSE NEIGHBOUR: 'it returns false'. Refute it at one input. -/
def bucketsNoneWrong : ChangeSpec := { name := "bucketsNone", fn := fun _ => fun
  | [d] => { results := [.lit (.bool false)], args := [d] }
  | _ => none }
def BucketsNoneWrongFalsely : Prop := bucketsNoneRow.holds Try.pinned (OpenSpec.ofChange bucketsNoneWrong)

/-- 'fairwaylaw05.BucketsFew': WHATEVER THE INPUT: true; the input reads as it did. -/
def bucketsFewSpec : ChangeSpec := { name := "bucketsFew", fn := fun _ => fun
  | [d1, d2, d3] => { results := [.lit (.bool true)], args := [d1, d2, d3] }
  | _ => none }
def bucketsFewRow : OpenClaim := { program := "ythncfpgmgpnclaa", sum := "5170c2f3ffe88b3dc26bb886bcbad07ea7db54477d06562322a5e35d0290e7c6", func := "fairway/fairwaylaw05.BucketsFew", spec := "bucketsFew", apart := false }
def BucketsFewSaid : Prop := bucketsFewRow.holds Try.pinned (OpenSpec.ofChange bucketsFewSpec)

/-- ITS FALSE NEIGHBOUR: 'it returns false'. Refute it at one input. -/
def bucketsFewWrong : ChangeSpec := { name := "bucketsFew", fn := fun _ => fun
  | [d1, d2, d3] => { results := [.lit (.bool false)], args := [d1, d2, d3] }
  | _ => none }
def BucketsFewWrongFalsely : Prop := bucketsFewRow.holds Try.pinned (OpenSpec.ofChange bucketsFewWrong)

/- THE SECOND FORM. 'bulk': how many values and letters a reading holds, each counted each time it is reached (what is shared counts as often as it is met; a slice's spare places count too). A statement '..UptoSaid' is the law's where the arguments, and the package variables that the reading takes, are together of bulk at most 1048576: NARROWER than '..Said'. Prove '..Said' where nothing that the law and all that it calls make is longer than what came in: it says more and counts as full. Else prove '..UptoSaid'. A law counts once. -/
mutual
def uptoBulk {H : Type} : DataW H → Nat
  | .lit (.string bytes) => bytes.length + 1
  | .lit _ => 1
  | .nil => 1
  | .ptr d => uptoBulk d + 1
  | .slice elems spare => uptoBulkAll elems + uptoBulkAll spare + 1
  | .agg parts => uptoBulkAll parts + 1
  | .iface _ d => uptoBulk d + 1
  | .map entries => uptoBulkEntries entries + 1
  | .held _ => 1
def uptoBulkAll {H : Type} : List (DataW H) → Nat
  | [] => 0
  | d :: r => uptoBulk d + uptoBulkAll r
def uptoBulkEntries {H : Type} : List (Lit × DataW H) → Nat
  | [] => 0
  | x :: r => uptoBulkEntry x + uptoBulkEntries r
def uptoBulkEntry {H : Type} : Lit × DataW H → Nat
  | (.string bytes, d) => bytes.length + uptoBulk d + 1
  | (_, d) => uptoBulk d + 1
 end
def uptoSmall : (H : Type) → List (DataW H) → Bool := fun _ ds => decide (uptoBulkAll ds ≤ 1048576)
def OpenSpec.upto (s : _root_.Go.ChangeSpec) : _root_.Go.OpenSpec := { _root_.Go.OpenSpec.ofChange s with cond := some uptoSmall }

/-- 'fairwaylaw05.BucketsPlay', WHERE WHAT IT READS IS OF BULK AT MOST 1048576: true; the input reads as it did. -/
def bucketsPlayUptoRow : OpenClaim := { program := "ythncfpgmgpnclaa", sum := "5170c2f3ffe88b3dc26bb886bcbad07ea7db54477d06562322a5e35d0290e7c6", func := "fairway/fairwaylaw05.BucketsPlay", spec := "bucketsPlay", apart := false, narrowed := true }
def BucketsPlayUptoSaid : Prop := bucketsPlayUptoRow.holds Try.pinned (OpenSpec.upto bucketsPlaySpec)

/-- 'fairwaylaw05.BucketsNone', WHERE WHAT IT READS IS OF BULK AT MOST 1048576: true; the input reads as it did. -/
def bucketsNoneUptoRow : OpenClaim := { program := "ythncfpgmgpnclaa", sum := "5170c2f3ffe88b3dc26bb886bcbad07ea7db54477d06562322a5e35d0290e7c6", func := "fairway/fairwaylaw05.BucketsNone", spec := "bucketsNone", apart := false, narrowed := true }
def BucketsNoneUptoSaid : Prop := bucketsNoneUptoRow.holds Try.pinned (OpenSpec.upto bucketsNoneSpec)

/-- 'fairwaylaw05.BucketsFew', WHERE WHAT IT READS IS OF BULK AT MOST 1048576: true; the input reads as it did. -/
def bucketsFewUptoRow : OpenClaim := { program := "ythncfpgmgpnclaa", sum := "5170c2f3ffe88b3dc26bb886bcbad07ea7db54477d06562322a5e35d0290e7c6", func := "fairway/fairwaylaw05.BucketsFew", spec := "bucketsFew", apart := false, narrowed := true }
def BucketsFewUptoSaid : Prop := bucketsFewUptoRow.holds Try.pinned (OpenSpec.upto bucketsFewSpec)

end Rows
end Go.Proofs.Ythncfpgmgpnclaa
