/-
  No cell of these rows narrows 'for every input' (looked for: loops, veiled, ifaces, maps, wideKeys, modest, calm, conditions, laid).
  DERIVED. THE GIVEN ROWS OF THIS SEAT. 12 by the template 'for every input the law returns true; each argument reads behind the call as it read before'; 0 by the template 'total and deterministic' (their statements: YteiibneaihdmbaaTotals.lean).
  GIVEN WITH THE SEED: the statements are not yours to turn. If you find one false, say at which input.
  Laid BY PROGRAM, IN A SANDBOX (cutbox-rows.mjs): the forced cells as the released guide's own fill.sh prints them over the translation 53a180718cf0616b… (all of the seat's roots in one cut). By AI agents, Wed Nov 11 2026. No macro, syntax, notation, axiom, sorry.
-/
import Derived.Test.YteiibneaihdmbaaChecked
import GoSem.Claim
import GoSem.ClaimJoined
import GoSem.ClaimMapViews
import Derived.JoinedTies
import Derived.KernelRfl
namespace Go.Proofs.Yteiibneaihdmbaa
/- THE CELL 'sum', in the pinned program and in every row, IS THE sha256 OF THE DUMP (.gsa) THAT YteiibneaihdmbaaProg.lean LOADS. Nothing in Lean hashes anything: it is a label: what it is worth is what the hold of that sum in a sandbox is worth. -/
noncomputable def Try.pinned : Pinned := { name := "yteiibneaihdmbaa", sum := "53a180718cf0616be3e0a656e6fb623b79d0abf1b4639d76ede7d74467cc3c62", checked := Try.checked }
namespace Rows
def none {H : Type} : Left H := { results := [], args := [] }

/-- 'laws.FnExactMergeGates': WHATEVER THE INPUT: true; the input reads as it did. -/
def fnExactMergeGatesSpec : ChangeSpec := { name := "fnExactMergeGates", fn := fun _ => fun
  | [d] => { results := [.lit (.bool true)], args := [d] }
  | _ => none }
def fnExactMergeGatesRow : OpenClaim := { program := "yteiibneaihdmbaa", sum := "53a180718cf0616be3e0a656e6fb623b79d0abf1b4639d76ede7d74467cc3c62", func := "loop.example/g00877/laws.FnExactMergeGates", spec := "fnExactMergeGates", unfollowed := true, recurses := true, apart := false }
def FnExactMergeGatesSaid : Prop := fnExactMergeGatesRow.holds Try.pinned (OpenSpec.ofChange fnExactMergeGatesSpec)

/-- ITS FALSE NEIGHBOUR: 'it returns false'. Refute it at one input. -/
def fnExactMergeGatesWrong : ChangeSpec := { name := "fnExactMergeGates", fn := fun _ => fun
  | [d] => { results := [.lit (.bool false)], args := [d] }
  | _ => none }
def FnExactMergeGatesWrongFalsely : Prop := fnExactMergeGatesRow.holds Try.pinned (OpenSpec.ofChange fnExactMergeGatesWrong)

/-- 'laws.FnExactSimplifyCircuit': WHATEVER THE INPUT: true; the input reads as it did. -/
def fnExactSimplifyCircuitSpec : ChangeSpec := { name := "fnExactSimplifyCircuit", fn := fun _ => fun
  | [d] => { results := [.lit (.bool true)], args := [d] }
  | _ => none }
def fnExactSimplifyCircuitRow : OpenClaim := { program := "yteiibneaihdmbaa", sum := "53a180718cf0616be3e0a656e6fb623b79d0abf1b4639d76ede7d74467cc3c62", func := "loop.example/g00877/laws.FnExactSimplifyCircuit", spec := "fnExactSimplifyCircuit", unfollowed := true, recurses := true, apart := false }
def FnExactSimplifyCircuitSaid : Prop := fnExactSimplifyCircuitRow.holds Try.pinned (OpenSpec.ofChange fnExactSimplifyCircuitSpec)

/-- ITS FALSE NEIGHBOUR: 'it returns false'. Refute it at one input. -/
def fnExactSimplifyCircuitWrong : ChangeSpec := { name := "fnExactSimplifyCircuit", fn := fun _ => fun
  | [d] => { results := [.lit (.bool false)], args := [d] }
  | _ => none }
def FnExactSimplifyCircuitWrongFalsely : Prop := fnExactSimplifyCircuitRow.holds Try.pinned (OpenSpec.ofChange fnExactSimplifyCircuitWrong)

/-- 'laws.FnExactIsNetwork': WHATEVER THE INPUT: true; the input reads as it did. -/
def fnExactIsNetworkSpec : ChangeSpec := { name := "fnExactIsNetwork", fn := fun _ => fun
  | [d1, d2] => { results := [.lit (.bool true)], args := [d1, d2] }
  | _ => none }
def fnExactIsNetworkRow : OpenClaim := { program := "yteiibneaihdmbaa", sum := "53a180718cf0616be3e0a656e6fb623b79d0abf1b4639d76ede7d74467cc3c62", func := "loop.example/g00877/laws.FnExactIsNetwork", spec := "fnExactIsNetwork", unfollowed := true, recurses := true, apart := false }
def FnExactIsNetworkSaid : Prop := fnExactIsNetworkRow.holds Try.pinned (OpenSpec.ofChange fnExactIsNetworkSpec)

/-- ITS FALSE NEIGHBOUR: 'it returns false'. Refute it at one input. -/
def fnExactIsNetworkWrong : ChangeSpec := { name := "fnExactIsNetwork", fn := fun _ => fun
  | [d1, d2] => { results := [.lit (.bool false)], args := [d1, d2] }
  | _ => none }
def FnExactIsNetworkWrongFalsely : Prop := fnExactIsNetworkRow.holds Try.pinned (OpenSpec.ofChange fnExactIsNetworkWrong)

/-- 'laws.FnExactSortWith': WHATEVER THE INPUT: true; the input reads as it did. -/
def fnExactSortWithSpec : ChangeSpec := { name := "fnExactSortWith", fn := fun _ => fun
  | [d1, d2, d3] => { results := [.lit (.bool true)], args := [d1, d2, d3] }
  | _ => none }
def fnExactSortWithRow : OpenClaim := { program := "yteiibneaihdmbaa", sum := "53a180718cf0616be3e0a656e6fb623b79d0abf1b4639d76ede7d74467cc3c62", func := "loop.example/g00877/laws.FnExactSortWith", spec := "fnExactSortWith", unfollowed := true, recurses := true, apart := false }
def FnExactSortWithSaid : Prop := fnExactSortWithRow.holds Try.pinned (OpenSpec.ofChange fnExactSortWithSpec)

/-- ITS FALSE NEIGHBOUR: 'it returns false'. Refute it at one input. -/
def fnExactSortWithWrong : ChangeSpec := { name := "fnExactSortWith", fn := fun _ => fun
  | [d1, d2, d3] => { results := [.lit (.bool false)], args := [d1, d2, d3] }
  | _ => none }
def FnExactSortWithWrongFalsely : Prop := fnExactSortWithRow.holds Try.pinned (OpenSpec.ofChange fnExactSortWithWrong)

/-- 'laws.FnExactSortsAll': WHATEVER THE INPUT: true; the input reads as it did. -/
def fnExactSortsAllSpec : ChangeSpec := { name := "fnExactSortsAll", fn := fun _ => fun
  | [d1, d2] => { results := [.lit (.bool true)], args := [d1, d2] }
  | _ => none }
def fnExactSortsAllRow : OpenClaim := { program := "yteiibneaihdmbaa", sum := "53a180718cf0616be3e0a656e6fb623b79d0abf1b4639d76ede7d74467cc3c62", func := "loop.example/g00877/laws.FnExactSortsAll", spec := "fnExactSortsAll", unfollowed := true, recurses := true, apart := false }
def FnExactSortsAllSaid : Prop := fnExactSortsAllRow.holds Try.pinned (OpenSpec.ofChange fnExactSortsAllSpec)

/-- ITS FALSE NEIGHBOUR: 'it returns false'. Refute it at one input. -/
def fnExactSortsAllWrong : ChangeSpec := { name := "fnExactSortsAll", fn := fun _ => fun
  | [d1, d2] => { results := [.lit (.bool false)], args := [d1, d2] }
  | _ => none }
def FnExactSortsAllWrongFalsely : Prop := fnExactSortsAllRow.holds Try.pinned (OpenSpec.ofChange fnExactSortsAllWrong)

/-- 'laws.FnExactFirstUnsorted': WHATEVER THE INPUT: true; the input reads as it did. -/
def fnExactFirstUnsortedSpec : ChangeSpec := { name := "fnExactFirstUnsorted", fn := fun _ => fun
  | [d1, d2] => { results := [.lit (.bool true)], args := [d1, d2] }
  | _ => none }
def fnExactFirstUnsortedRow : OpenClaim := { program := "yteiibneaihdmbaa", sum := "53a180718cf0616be3e0a656e6fb623b79d0abf1b4639d76ede7d74467cc3c62", func := "loop.example/g00877/laws.FnExactFirstUnsorted", spec := "fnExactFirstUnsorted", unfollowed := true, recurses := true, apart := false }
def FnExactFirstUnsortedSaid : Prop := fnExactFirstUnsortedRow.holds Try.pinned (OpenSpec.ofChange fnExactFirstUnsortedSpec)

/-- ITS FALSE NEIGHBOUR: 'it returns false'. Refute it at one input. -/
def fnExactFirstUnsortedWrong : ChangeSpec := { name := "fnExactFirstUnsorted", fn := fun _ => fun
  | [d1, d2] => { results := [.lit (.bool false)], args := [d1, d2] }
  | _ => none }
def FnExactFirstUnsortedWrongFalsely : Prop := fnExactFirstUnsortedRow.holds Try.pinned (OpenSpec.ofChange fnExactFirstUnsortedWrong)

/-- 'laws.FnExactLayersOf': WHATEVER THE INPUT: true; the input reads as it did. -/
def fnExactLayersOfSpec : ChangeSpec := { name := "fnExactLayersOf", fn := fun _ => fun
  | [d1, d2] => { results := [.lit (.bool true)], args := [d1, d2] }
  | _ => none }
def fnExactLayersOfRow : OpenClaim := { program := "yteiibneaihdmbaa", sum := "53a180718cf0616be3e0a656e6fb623b79d0abf1b4639d76ede7d74467cc3c62", func := "loop.example/g00877/laws.FnExactLayersOf", spec := "fnExactLayersOf", unfollowed := true, recurses := true, apart := false }
def FnExactLayersOfSaid : Prop := fnExactLayersOfRow.holds Try.pinned (OpenSpec.ofChange fnExactLayersOfSpec)

/-- ITS FALSE NEIGHBOUR: 'it returns false'. Refute it at one input. -/
def fnExactLayersOfWrong : ChangeSpec := { name := "fnExactLayersOf", fn := fun _ => fun
  | [d1, d2] => { results := [.lit (.bool false)], args := [d1, d2] }
  | _ => none }
def FnExactLayersOfWrongFalsely : Prop := fnExactLayersOfRow.holds Try.pinned (OpenSpec.ofChange fnExactLayersOfWrong)

/-- 'laws.FnExactInsertionNetwork': WHATEVER THE INPUT: true; the input reads as it did. -/
def fnExactInsertionNetworkSpec : ChangeSpec := { name := "fnExactInsertionNetwork", fn := fun _ => fun
  | [d] => { results := [.lit (.bool true)], args := [d] }
  | _ => none }
def fnExactInsertionNetworkRow : OpenClaim := { program := "yteiibneaihdmbaa", sum := "53a180718cf0616be3e0a656e6fb623b79d0abf1b4639d76ede7d74467cc3c62", func := "loop.example/g00877/laws.FnExactInsertionNetwork", spec := "fnExactInsertionNetwork", unfollowed := true, recurses := true, apart := false }
def FnExactInsertionNetworkSaid : Prop := fnExactInsertionNetworkRow.holds Try.pinned (OpenSpec.ofChange fnExactInsertionNetworkSpec)

/-- ITS FALSE NEIGHBOUR: 'it returns false'. Refute it at one input. -/
def fnExactInsertionNetworkWrong : ChangeSpec := { name := "fnExactInsertionNetwork", fn := fun _ => fun
  | [d] => { results := [.lit (.bool false)], args := [d] }
  | _ => none }
def FnExactInsertionNetworkWrongFalsely : Prop := fnExactInsertionNetworkRow.holds Try.pinned (OpenSpec.ofChange fnExactInsertionNetworkWrong)

/-- 'laws.FnExactMergeNetwork': WHATEVER THE INPUT: true; the input reads as it did. -/
def fnExactMergeNetworkSpec : ChangeSpec := { name := "fnExactMergeNetwork", fn := fun _ => fun
  | [d] => { results := [.lit (.bool true)], args := [d] }
  | _ => none }
def fnExactMergeNetworkRow : OpenClaim := { program := "yteiibneaihdmbaa", sum := "53a180718cf0616be3e0a656e6fb623b79d0abf1b4639d76ede7d74467cc3c62", func := "loop.example/g00877/laws.FnExactMergeNetwork", spec := "fnExactMergeNetwork", unfollowed := true, recurses := true, apart := false }
def FnExactMergeNetworkSaid : Prop := fnExactMergeNetworkRow.holds Try.pinned (OpenSpec.ofChange fnExactMergeNetworkSpec)

/-- ITS FALSE NEIGHBOUR: 'it returns false'. Refute it at one input. -/
def fnExactMergeNetworkWrong : ChangeSpec := { name := "fnExactMergeNetwork", fn := fun _ => fun
  | [d] => { results := [.lit (.bool false)], args := [d] }
  | _ => none }
def FnExactMergeNetworkWrongFalsely : Prop := fnExactMergeNetworkRow.holds Try.pinned (OpenSpec.ofChange fnExactMergeNetworkWrong)

/-- 'laws.FnExactNeedlessSteps': WHATEVER THE INPUT: true; the input reads as it did. -/
def fnExactNeedlessStepsSpec : ChangeSpec := { name := "fnExactNeedlessSteps", fn := fun _ => fun
  | [d1, d2] => { results := [.lit (.bool true)], args := [d1, d2] }
  | _ => none }
def fnExactNeedlessStepsRow : OpenClaim := { program := "yteiibneaihdmbaa", sum := "53a180718cf0616be3e0a656e6fb623b79d0abf1b4639d76ede7d74467cc3c62", func := "loop.example/g00877/laws.FnExactNeedlessSteps", spec := "fnExactNeedlessSteps", unfollowed := true, recurses := true, apart := false }
def FnExactNeedlessStepsSaid : Prop := fnExactNeedlessStepsRow.holds Try.pinned (OpenSpec.ofChange fnExactNeedlessStepsSpec)

/-- ITS FALSE NEIGHBOUR: 'it returns false'. Refute it at one input. -/
def fnExactNeedlessStepsWrong : ChangeSpec := { name := "fnExactNeedlessSteps", fn := fun _ => fun
  | [d1, d2] => { results := [.lit (.bool false)], args := [d1, d2] }
  | _ => none }
def FnExactNeedlessStepsWrongFalsely : Prop := fnExactNeedlessStepsRow.holds Try.pinned (OpenSpec.ofChange fnExactNeedlessStepsWrong)

/-- 'laws.FnExactPruneNetwork': WHATEVER THE INPUT: true; the input reads as it did. -/
def fnExactPruneNetworkSpec : ChangeSpec := { name := "fnExactPruneNetwork", fn := fun _ => fun
  | [d1, d2] => { results := [.lit (.bool true)], args := [d1, d2] }
  | _ => none }
def fnExactPruneNetworkRow : OpenClaim := { program := "yteiibneaihdmbaa", sum := "53a180718cf0616be3e0a656e6fb623b79d0abf1b4639d76ede7d74467cc3c62", func := "loop.example/g00877/laws.FnExactPruneNetwork", spec := "fnExactPruneNetwork", unfollowed := true, recurses := true, apart := false }
def FnExactPruneNetworkSaid : Prop := fnExactPruneNetworkRow.holds Try.pinned (OpenSpec.ofChange fnExactPruneNetworkSpec)

/-- ITS FALSE NEIGHBOUR: 'it returns false'. Refute it at one input. -/
def fnExactPruneNetworkWrong : ChangeSpec := { name := "fnExactPruneNetwork", fn := fun _ => fun
  | [d1, d2] => { results := [.lit (.bool false)], args := [d1, d2] }
  | _ => none }
def FnExactPruneNetworkWrongFalsely : Prop := fnExactPruneNetworkRow.holds Try.pinned (OpenSpec.ofChange fnExactPruneNetworkWrong)

/-- 'laws.FnExactNetworkCircuit': WHATEVER THE INPUT: true; the input reads as it did. -/
def fnExactNetworkCircuitSpec : ChangeSpec := { name := "fnExactNetworkCircuit", fn := fun _ => fun
  | [d1, d2, d3] => { results := [.lit (.bool true)], args := [d1, d2, d3] }
  | _ => none }
def fnExactNetworkCircuitRow : OpenClaim := { program := "yteiibneaihdmbaa", sum := "53a180718cf0616be3e0a656e6fb623b79d0abf1b4639d76ede7d74467cc3c62", func := "loop.example/g00877/laws.FnExactNetworkCircuit", spec := "fnExactNetworkCircuit", unfollowed := true, recurses := true, apart := false }
def FnExactNetworkCircuitSaid : Prop := fnExactNetworkCircuitRow.holds Try.pinned (OpenSpec.ofChange fnExactNetworkCircuitSpec)

/-- ITS FALSE NEIGHBOUR: 'it returns false'. Refute it at one input. -/
def fnExactNetworkCircuitWrong : ChangeSpec := { name := "fnExactNetworkCircuit", fn := fun _ => fun
  | [d1, d2, d3] => { results := [.lit (.bool false)], args := [d1, d2, d3] }
  | _ => none }
def FnExactNetworkCircuitWrongFalsely : Prop := fnExactNetworkCircuitRow.holds Try.pinned (OpenSpec.ofChange fnExactNetworkCircuitWrong)

/- THE SECOND FORM. 'bulk': how many values and letters a reading holds, each counted each time it is reached (what is shared counts as often as it is met; a slice's spare places count too). A statement '..UptoSaid' is the law's where the arguments, and the package variables that the reading takes, are together of bulk at most 1048576: NARROWER than '..Said'. Prove '..Said' where nothing that the law and all that it calls make is longer than what came in: it says more and counts as full. Else prove '..UptoSaid'. A law counts once. -/
mutual
def uptoBulk {H : Type} : DataW H → Nat
  | .lit (.string bytes) => bytes.length + 1
  | .lit _ => 1
  | .nil => 1
  | .ptr d => uptoBulk d + 1
  | .slice elems spare => uptoBulkAll elems + uptoBulkAll spare + 1
  | .agg parts => uptoBulkAll parts + 1
  | .iface _ d => uptoBulk d + 1
  | .map entries => uptoBulkEntries entries + 1
  | .held _ => 1
def uptoBulkAll {H : Type} : List (DataW H) → Nat
  | [] => 0
  | d :: r => uptoBulk d + uptoBulkAll r
def uptoBulkEntries {H : Type} : List (Lit × DataW H) → Nat
  | [] => 0
  | x :: r => uptoBulkEntry x + uptoBulkEntries r
def uptoBulkEntry {H : Type} : Lit × DataW H → Nat
  | (.string bytes, d) => bytes.length + uptoBulk d + 1
  | (_, d) => uptoBulk d + 1
 end
def uptoSmall : (H : Type) → List (DataW H) → Bool := fun _ ds => decide (uptoBulkAll ds ≤ 1048576)
def OpenSpec.upto (s : _root_.Go.ChangeSpec) : _root_.Go.OpenSpec := { _root_.Go.OpenSpec.ofChange s with cond := some uptoSmall }

/-- 'laws.FnExactMergeGates', WHERE WHAT IT READS IS OF BULK AT MOST 1048576: true; the input reads as it did. -/
def fnExactMergeGatesUptoRow : OpenClaim := { program := "yteiibneaihdmbaa", sum := "53a180718cf0616be3e0a656e6fb623b79d0abf1b4639d76ede7d74467cc3c62", func := "loop.example/g00877/laws.FnExactMergeGates", spec := "fnExactMergeGates", unfollowed := true, recurses := true, apart := false, narrowed := true }
def FnExactMergeGatesUptoSaid : Prop := fnExactMergeGatesUptoRow.holds Try.pinned (OpenSpec.upto fnExactMergeGatesSpec)

/-- 'laws.FnExactSimplifyCircuit', WHERE WHAT IT READS IS OF BULK AT MOST 1048576: true; the input reads as it did. -/
def fnExactSimplifyCircuitUptoRow : OpenClaim := { program := "yteiibneaihdmbaa", sum := "53a180718cf0616be3e0a656e6fb623b79d0abf1b4639d76ede7d74467cc3c62", func := "loop.example/g00877/laws.FnExactSimplifyCircuit", spec := "fnExactSimplifyCircuit", unfollowed := true, recurses := true, apart := false, narrowed := true }
def FnExactSimplifyCircuitUptoSaid : Prop := fnExactSimplifyCircuitUptoRow.holds Try.pinned (OpenSpec.upto fnExactSimplifyCircuitSpec)

/-- 'laws.FnExactIsNetwork', WHERE WHAT IT READS IS OF BULK AT MOST 1048576: true; the input reads as it did. -/
def fnExactIsNetworkUptoRow : OpenClaim := { program := "yteiibneaihdmbaa", sum := "53a180718cf0616be3e0a656e6fb623b79d0abf1b4639d76ede7d74467cc3c62", func := "loop.example/g00877/laws.FnExactIsNetwork", spec := "fnExactIsNetwork", unfollowed := true, recurses := true, apart := false, narrowed := true }
def FnExactIsNetworkUptoSaid : Prop := fnExactIsNetworkUptoRow.holds Try.pinned (OpenSpec.upto fnExactIsNetworkSpec)

/-- 'laws.FnExactSortWith', WHERE WHAT IT READS IS OF BULK AT MOST 1048576: true; the input reads as it did. -/
def fnExactSortWithUptoRow : OpenClaim := { program := "yteiibneaihdmbaa", sum := "53a180718cf0616be3e0a656e6fb623b79d0abf1b4639d76ede7d74467cc3c62", func := "loop.example/g00877/laws.FnExactSortWith", spec := "fnExactSortWith", unfollowed := true, recurses := true, apart := false, narrowed := true }
def FnExactSortWithUptoSaid : Prop := fnExactSortWithUptoRow.holds Try.pinned (OpenSpec.upto fnExactSortWithSpec)

/-- 'laws.FnExactSortsAll', WHERE WHAT IT READS IS OF BULK AT MOST 1048576: true; the input reads as it did. -/
def fnExactSortsAllUptoRow : OpenClaim := { program := "yteiibneaihdmbaa", sum := "53a180718cf0616be3e0a656e6fb623b79d0abf1b4639d76ede7d74467cc3c62", func := "loop.example/g00877/laws.FnExactSortsAll", spec := "fnExactSortsAll", unfollowed := true, recurses := true, apart := false, narrowed := true }
def FnExactSortsAllUptoSaid : Prop := fnExactSortsAllUptoRow.holds Try.pinned (OpenSpec.upto fnExactSortsAllSpec)

/-- 'laws.FnExactFirstUnsorted', WHERE WHAT IT READS IS OF BULK AT MOST 1048576: true; the input reads as it did. -/
def fnExactFirstUnsortedUptoRow : OpenClaim := { program := "yteiibneaihdmbaa", sum := "53a180718cf0616be3e0a656e6fb623b79d0abf1b4639d76ede7d74467cc3c62", func := "loop.example/g00877/laws.FnExactFirstUnsorted", spec := "fnExactFirstUnsorted", unfollowed := true, recurses := true, apart := false, narrowed := true }
def FnExactFirstUnsortedUptoSaid : Prop := fnExactFirstUnsortedUptoRow.holds Try.pinned (OpenSpec.upto fnExactFirstUnsortedSpec)

/-- 'laws.FnExactLayersOf', WHERE WHAT IT READS IS OF BULK AT MOST 1048576: true; the input reads as it did. -/
def fnExactLayersOfUptoRow : OpenClaim := { program := "yteiibneaihdmbaa", sum := "53a180718cf0616be3e0a656e6fb623b79d0abf1b4639d76ede7d74467cc3c62", func := "loop.example/g00877/laws.FnExactLayersOf", spec := "fnExactLayersOf", unfollowed := true, recurses := true, apart := false, narrowed := true }
def FnExactLayersOfUptoSaid : Prop := fnExactLayersOfUptoRow.holds Try.pinned (OpenSpec.upto fnExactLayersOfSpec)

/-- 'laws.FnExactInsertionNetwork', WHERE WHAT IT READS IS OF BULK AT MOST 1048576: true; the input reads as it did. -/
def fnExactInsertionNetworkUptoRow : OpenClaim := { program := "yteiibneaihdmbaa", sum := "53a180718cf0616be3e0a656e6fb623b79d0abf1b4639d76ede7d74467cc3c62", func := "loop.example/g00877/laws.FnExactInsertionNetwork", spec := "fnExactInsertionNetwork", unfollowed := true, recurses := true, apart := false, narrowed := true }
def FnExactInsertionNetworkUptoSaid : Prop := fnExactInsertionNetworkUptoRow.holds Try.pinned (OpenSpec.upto fnExactInsertionNetworkSpec)

/-- 'laws.FnExactMergeNetwork', WHERE WHAT IT READS IS OF BULK AT MOST 1048576: true; the input reads as it did. -/
def fnExactMergeNetworkUptoRow : OpenClaim := { program := "yteiibneaihdmbaa", sum := "53a180718cf0616be3e0a656e6fb623b79d0abf1b4639d76ede7d74467cc3c62", func := "loop.example/g00877/laws.FnExactMergeNetwork", spec := "fnExactMergeNetwork", unfollowed := true, recurses := true, apart := false, narrowed := true }
def FnExactMergeNetworkUptoSaid : Prop := fnExactMergeNetworkUptoRow.holds Try.pinned (OpenSpec.upto fnExactMergeNetworkSpec)

/-- 'laws.FnExactNeedlessSteps', WHERE WHAT IT READS IS OF BULK AT MOST 1048576: true; the input reads as it did. -/
def fnExactNeedlessStepsUptoRow : OpenClaim := { program := "yteiibneaihdmbaa", sum := "53a180718cf0616be3e0a656e6fb623b79d0abf1b4639d76ede7d74467cc3c62", func := "loop.example/g00877/laws.FnExactNeedlessSteps", spec := "fnExactNeedlessSteps", unfollowed := true, recurses := true, apart := false, narrowed := true }
def FnExactNeedlessStepsUptoSaid : Prop := fnExactNeedlessStepsUptoRow.holds Try.pinned (OpenSpec.upto fnExactNeedlessStepsSpec)

/-- 'laws.FnExactPruneNetwork', WHERE WHAT IT READS IS OF BULK AT MOST 1048576: true; the input reads as it did. -/
def fnExactPruneNetworkUptoRow : OpenClaim := { program := "yteiibneaihdmbaa", sum := "53a180718cf0616be3e0a656e6fb623b79d0abf1b4639d76ede7d74467cc3c62", func := "loop.example/g00877/laws.FnExactPruneNetwork", spec := "fnExactPruneNetwork", unfollowed := true, recurses := true, apart := false, narrowed := true }
def FnExactPruneNetworkUptoSaid : Prop := fnExactPruneNetworkUptoRow.holds Try.pinned (OpenSpec.upto fnExactPruneNetworkSpec)

/-- 'laws.FnExactNetworkCircuit', WHERE WHAT IT READS IS OF BULK AT MOST 1048576: true; the input reads as it did. -/
def fnExactNetworkCircuitUptoRow : OpenClaim := { program := "yteiibneaihdmbaa", sum := "53a180718cf0616be3e0a656e6fb623b79d0abf1b4639d76ede7d74467cc3c62", func := "loop.example/g00877/laws.FnExactNetworkCircuit", spec := "fnExactNetworkCircuit", unfollowed := true, recurses := true, apart := false, narrowed := true }
def FnExactNetworkCircuitUptoSaid : Prop := fnExactNetworkCircuitUptoRow.holds Try.pinned (OpenSpec.upto fnExactNetworkCircuitSpec)

end Rows
end Go.Proofs.Yteiibneaihdmbaa
