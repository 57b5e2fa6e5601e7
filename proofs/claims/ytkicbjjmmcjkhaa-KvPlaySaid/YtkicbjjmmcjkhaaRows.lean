/-
  No cell of these rows narrows 'for every input' (looked for: loops, veiled, ifaces, maps, wideKeys, modest, calm, conditions, laid).
  DERIVED. THE GIVEN ROWS OF THIS SEAT. 3 by the template 'for every input the law returns true; each argument reads behind the call as it read before'; 0 by the template 'total and deterministic' (their statements: YtkicbjjmmcjkhaaTotals.lean).
  GIVEN WITH THE SEED: the statements are not yours to turn. If you find one false, say at which input.
  Laid BY PROGRAM, IN A SANDBOX (cutbox-rows.mjs): the forced cells as the released guide's own fill.sh prints them over the translation 7523e8c9891784b4… (all of the seat's roots in one cut). By AI agents, Wed Nov 11 2026. No macro, syntax, notation, axiom, sorry.
-/
import Derived.Test.YtkicbjjmmcjkhaaChecked
import GoSem.Claim
import GoSem.ClaimJoined
import GoSem.ClaimMapViews
import Derived.JoinedTies
import Derived.KernelRfl
namespace Go.Proofs.Ytkicbjjmmcjkhaa
/- THE CELL 'sum', in the pinned program and in every row, IS THE sha256 OF THE DUMP (.gsa) THAT YtkicbjjmmcjkhaaProg.lean LOADS. Nothing in Lean hashes anything: it is a label: what it is worth is what the hold of that sum in a sandbox is worth. -/
noncomputable def Try.pinned : Pinned := { name := "ytkicbjjmmcjkhaa", sum := "7523e8c9891784b47728480083c10afca6ac0ac696810c3727337bb7312533a8", checked := Try.checked }
namespace Rows
def none {H : Type} : Left H := { results := [], args := [] }

/-- 'fairwaylaw10.KvPlay': WHATEVER THE INPUT: true; the input reads as it did. -/
def kvPlaySpec : ChangeSpec := { name := "kvPlay", fn := fun _ => fun
  | [d] => { results := [.lit (.bool true)], args := [d] }
  | _ => none }
def kvPlayRow : OpenClaim := { program := "ytkicbjjmmcjkhaa", sum := "7523e8c9891784b47728480083c10afca6ac0ac696810c3727337bb7312533a8", func := "fairway/fairwaylaw10.KvPlay", spec := "kvPlay", inPlace := ["maps.clone"], unfollowed := true, recurses := true, apart := false }
def KvPlaySaid : Prop := kvPlayRow.holds Try.pinned (OpenSpec.ofChange kvPlaySpec)

/-- ITS FALSE NEIGHBOUR: 'it returns false'. Refute it at one input. -/
def kvPlayWrong : ChangeSpec := { name := "kvPlay", fn := fun _ => fun
  | [d] => { results := [.lit (.bool false)], args := [d] }
  | _ => none }
def KvPlayWrongFalsely : Prop := kvPlayRow.holds Try.pinned (OpenSpec.ofChange kvPlayWrong)

/-- 'fairwaylaw10.KvNone': WHATEVER THE INPUT: true; the input reads as it did. -/
def kvNoneSpec : ChangeSpec := { name := "kvNone", fn := fun _ => fun
  | [d] => { results := [.lit (.bool true)], args := [d] }
  | _ => none }
def kvNoneRow : OpenClaim := { program := "ytkicbjjmmcjkhaa", sum := "7523e8c9891784b47728480083c10afca6ac0ac696810c3727337bb7312533a8", func := "fairway/fairwaylaw10.KvNone", spec := "kvNone", inPlace := ["maps.clone"], unfollowed := true, recurses := true, apart := false }
def KvNoneSaid : Prop := kvNoneRow.holds Try.pinned (OpenSpec.ofChange kvNoneSpec)

/-- ITS FALSE NEIGHBOUR: 'it returns false'. Refute it at one input. -/
def kvNoneWrong : ChangeSpec := { name := "kvNone", fn := fun _ => fun
  | [d] => { results := [.lit (.bool false)], args := [d] }
  | _ => none }
def KvNoneWrongFalsely : Prop := kvNoneRow.holds Try.pinned (OpenSpec.ofChange kvNoneWrong)

/-- 'fairwaylaw10.KvSwap': WHATEVER THE INPUT: true; the input reads as it did. -/
def kvSwapSpec : ChangeSpec := { name := "kvSwap", fn := fun _ => fun
  | [d1, d2, d3] => { results := [.lit (.bool true)], args := [d1, d2, d3] }
  | _ => none }
def kvSwapRow : OpenClaim := { program := "ytkicbjjmmcjkhaa", sum := "7523e8c9891784b47728480083c10afca6ac0ac696810c3727337bb7312533a8", func := "fairway/fairwaylaw10.KvSwap", spec := "kvSwap", inPlace := ["maps.clone"], unfollowed := true, recurses := true, apart := false }
def KvSwapSaid : Prop := kvSwapRow.holds Try.pinned (OpenSpec.ofChange kvSwapSpec)

/-- ITS FALSE NEIGHBOUR: 'it returns false'. Refute it at one input. -/
def kvSwapWrong : ChangeSpec := { name := "kvSwap", fn := fun _ => fun
  | [d1, d2, d3] => { results := [.lit (.bool false)], args := [d1, d2, d3] }
  | _ => none }
def KvSwapWrongFalsely : Prop := kvSwapRow.holds Try.pinned (OpenSpec.ofChange kvSwapWrong)

/- THE SECOND FORM. 'bulk': how many values and letters a reading holds, each counted each time it is reached (what is shared counts as often as it is met; a slice's spare places count too). A statement '..UptoSaid' is the law's where the arguments, and the package variables that the reading takes, are together of bulk at most 1048576: NARROWER than '..Said'. Prove '..Said' where nothing that the law and all that it calls make is longer than what came in: it says more and counts as full. Else prove '..UptoSaid'. A law counts once. -/
mutual
def uptoBulk {H : Type} : DataW H → Nat
  | .lit (.string bytes) => bytes.length + 1
  | .lit _ => 1
  | .nil => 1
  | .ptr d => uptoBulk d + 1
  | .slice elems spare => uptoBulkAll elems + uptoBulkAll spare + 1
  | .agg parts => uptoBulkAll parts + 1
  | .iface _ d => uptoBulk d + 1
  | .map entries => uptoBulkEntries entries + 1
  | .held _ => 1
def uptoBulkAll {H : Type} : List (DataW H) → Nat
  | [] => 0
  | d :: r => uptoBulk d + uptoBulkAll r
def uptoBulkEntries {H : Type} : List (Lit × DataW H) → Nat
  | [] => 0
  | x :: r => uptoBulkEntry x + uptoBulkEntries r
def uptoBulkEntry {H : Type} : Lit × DataW H → Nat
  | (.string bytes, d) => bytes.length + uptoBulk d + 1
  | (_, d) => uptoBulk d + 1
 end
def uptoSmall : (H : Type) → List (DataW H) → Bool := fun _ ds => decide (uptoBulkAll ds ≤ 1048576)
def OpenSpec.upto (s : _root_.Go.ChangeSpec) : _root_.Go.OpenSpec := { _root_.Go.OpenSpec.ofChange s with cond := some uptoSmall }

/-- 'fairwaylaw10.KvPlay', WHERE WHAT IT READS IS OF BULK AT MOST 1048576: true; the input reads as it did. -/
def kvPlayUptoRow : OpenClaim := { program := "ytkicbjjmmcjkhaa", sum := "7523e8c9891784b47728480083c10afca6ac0ac696810c3727337bb7312533a8", func := "fairway/fairwaylaw10.KvPlay", spec := "kvPlay", inPlace := ["maps.clone"], unfollowed := true, recurses := true, apart := false, narrowed := true }
def KvPlayUptoSaid : Prop := kvPlayUptoRow.holds Try.pinned (OpenSpec.upto kvPlaySpec)

/-- 'fairwaylaw10.KvNone', WHERE WHAT IT READS IS OF BULK AT MOST 1048576: true; the input reads as it did. -/
def kvNoneUptoRow : OpenClaim := { program := "ytkicbjjmmcjkhaa", sum := "7523e8c9891784b47728480083c10afca6ac0ac696810c3727337bb7312533a8", func := "fairway/fairwaylaw10.KvNone", spec := "kvNone", inPlace := ["maps.clone"], unfollowed := true, recurses := true, apart := false, narrowed := true }
def KvNoneUptoSaid : Prop := kvNoneUptoRow.holds Try.pinned (OpenSpec.upto kvNoneSpec)

/-- 'fairwaylaw10.KvSwap', WHERE WHAT IT READS IS OF BULK AT MOST 1048576: true; the input reads as it did. -/
def kvSwapUptoRow : OpenClaim := { program := "ytkicbjjmmcjkhaa", sum := "7523e8c9891784b47728480083c10afca6ac0ac696810c3727337bb7312533a8", func := "fairway/fairwaylaw10.KvSwap", spec := "kvSwap", inPlace := ["maps.clone"], unfollowed := true, recurses := true, apart := false, narrowed := true }
def KvSwapUptoSaid : Prop := kvSwapUptoRow.holds Try.pinned (OpenSpec.upto kvSwapSpec)

end Rows
end Go.Proofs.Ytkicbjjmmcjkhaa
