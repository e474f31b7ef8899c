/-
  No cell of these rows narrows 'for every input' (looked for: loops, veiled, ifaces, maps, wideKeys, modest, calm, conditions, laid).
  DERIVED. THE GIVEN ROWS OF THIS SEAT. 9 by the template 'for every input the law returns true; each argument reads behind the call as it read before'; 0 by the template 'total and deterministic' (their statements: YtaohgbkhmgfnhaaTotals.lean).
  GIVEN WITH THE SEED: the statements are not yours to turn. If you find one false, say at which input.
  Laid BY PROGRAM, IN A SANDBOX (cutbox-rows.mjs): the forced cells as the released guide's own fill.sh prints them over the translation d220751f4365278c… (all of the seat's roots in one cut). By AI agents, Wed Nov 11 2026. No macro, syntax, notation, axiom, sorry.
-/
import Derived.Test.YtaohgbkhmgfnhaaChecked
import GoSem.Claim
import GoSem.ClaimJoined
import GoSem.ClaimMapViews
import Derived.JoinedTies
import Derived.KernelRfl
namespace Go.Proofs.Ytaohgbkhmgfnhaa
/- THE CELL 'sum', in the pinned program and in every row, IS THE sha256 OF THE DUMP (.gsa) THAT YtaohgbkhmgfnhaaProg.lean LOADS. Nothing in Lean hashes anything: it is a label: what it is worth is what the hold of that sum in a sandbox is worth. -/
noncomputable def Try.pinned : Pinned := { name := "ytaohgbkhmgfnhaa", sum := "d220751f4365278cd94732e90a5afee958b720c196874dc09ddee446b5aa6d49", checked := Try.checked }
namespace Rows
def none {H : Type} : Left H := { results := [], args := [] }

/-- 'laws.FnExactIsCircuit': WHATEVER THE INPUT: true; the input reads as it did. -/
def fnExactIsCircuitSpec : ChangeSpec := { name := "fnExactIsCircuit", fn := fun _ => fun
  | [d] => { results := [.lit (.bool true)], args := [d] }
  | _ => none }
def fnExactIsCircuitRow : OpenClaim := { program := "ytaohgbkhmgfnhaa", sum := "d220751f4365278cd94732e90a5afee958b720c196874dc09ddee446b5aa6d49", func := "loop.example/g00877/laws.FnExactIsCircuit", spec := "fnExactIsCircuit", unfollowed := true, recurses := true, apart := false }
def FnExactIsCircuitSaid : Prop := fnExactIsCircuitRow.holds Try.pinned (OpenSpec.ofChange fnExactIsCircuitSpec)

/-- ITS FALSE NEIGHBOUR: 'it returns false'. Refute it at one input. -/
def fnExactIsCircuitWrong : ChangeSpec := { name := "fnExactIsCircuit", fn := fun _ => fun
  | [d] => { results := [.lit (.bool false)], args := [d] }
  | _ => none }
def FnExactIsCircuitWrongFalsely : Prop := fnExactIsCircuitRow.holds Try.pinned (OpenSpec.ofChange fnExactIsCircuitWrong)

/-- 'laws.FnExactWireValues': WHATEVER THE INPUT: true; the input reads as it did. -/
def fnExactWireValuesSpec : ChangeSpec := { name := "fnExactWireValues", fn := fun _ => fun
  | [d1, d2, d3] => { results := [.lit (.bool true)], args := [d1, d2, d3] }
  | _ => none }
def fnExactWireValuesRow : OpenClaim := { program := "ytaohgbkhmgfnhaa", sum := "d220751f4365278cd94732e90a5afee958b720c196874dc09ddee446b5aa6d49", func := "loop.example/g00877/laws.FnExactWireValues", spec := "fnExactWireValues", unfollowed := true, recurses := true, apart := false }
def FnExactWireValuesSaid : Prop := fnExactWireValuesRow.holds Try.pinned (OpenSpec.ofChange fnExactWireValuesSpec)

/-- ITS FALSE NEIGHBOUR: 'it returns false'. Refute it at one input. -/
def fnExactWireValuesWrong : ChangeSpec := { name := "fnExactWireValues", fn := fun _ => fun
  | [d1, d2, d3] => { results := [.lit (.bool false)], args := [d1, d2, d3] }
  | _ => none }
def FnExactWireValuesWrongFalsely : Prop := fnExactWireValuesRow.holds Try.pinned (OpenSpec.ofChange fnExactWireValuesWrong)

/-- 'laws.FnExactEvalCircuit': WHATEVER THE INPUT: true; the input reads as it did. -/
def fnExactEvalCircuitSpec : ChangeSpec := { name := "fnExactEvalCircuit", fn := fun _ => fun
  | [d1, d2, d3] => { results := [.lit (.bool true)], args := [d1, d2, d3] }
  | _ => none }
def fnExactEvalCircuitRow : OpenClaim := { program := "ytaohgbkhmgfnhaa", sum := "d220751f4365278cd94732e90a5afee958b720c196874dc09ddee446b5aa6d49", func := "loop.example/g00877/laws.FnExactEvalCircuit", spec := "fnExactEvalCircuit", unfollowed := true, recurses := true, apart := false }
def FnExactEvalCircuitSaid : Prop := fnExactEvalCircuitRow.holds Try.pinned (OpenSpec.ofChange fnExactEvalCircuitSpec)

/-- ITS FALSE NEIGHBOUR: 'it returns false'. Refute it at one input. -/
def fnExactEvalCircuitWrong : ChangeSpec := { name := "fnExactEvalCircuit", fn := fun _ => fun
  | [d1, d2, d3] => { results := [.lit (.bool false)], args := [d1, d2, d3] }
  | _ => none }
def FnExactEvalCircuitWrongFalsely : Prop := fnExactEvalCircuitRow.holds Try.pinned (OpenSpec.ofChange fnExactEvalCircuitWrong)

/-- 'laws.FnExactCountGates': WHATEVER THE INPUT: true; the input reads as it did. -/
def fnExactCountGatesSpec : ChangeSpec := { name := "fnExactCountGates", fn := fun _ => fun
  | [d] => { results := [.lit (.bool true)], args := [d] }
  | _ => none }
def fnExactCountGatesRow : OpenClaim := { program := "ytaohgbkhmgfnhaa", sum := "d220751f4365278cd94732e90a5afee958b720c196874dc09ddee446b5aa6d49", func := "loop.example/g00877/laws.FnExactCountGates", spec := "fnExactCountGates", unfollowed := true, recurses := true, apart := false }
def FnExactCountGatesSaid : Prop := fnExactCountGatesRow.holds Try.pinned (OpenSpec.ofChange fnExactCountGatesSpec)

/-- ITS FALSE NEIGHBOUR: 'it returns false'. Refute it at one input. -/
def fnExactCountGatesWrong : ChangeSpec := { name := "fnExactCountGates", fn := fun _ => fun
  | [d] => { results := [.lit (.bool false)], args := [d] }
  | _ => none }
def FnExactCountGatesWrongFalsely : Prop := fnExactCountGatesRow.holds Try.pinned (OpenSpec.ofChange fnExactCountGatesWrong)

/-- 'laws.FnExactDepthOf': WHATEVER THE INPUT: true; the input reads as it did. -/
def fnExactDepthOfSpec : ChangeSpec := { name := "fnExactDepthOf", fn := fun _ => fun
  | [d] => { results := [.lit (.bool true)], args := [d] }
  | _ => none }
def fnExactDepthOfRow : OpenClaim := { program := "ytaohgbkhmgfnhaa", sum := "d220751f4365278cd94732e90a5afee958b720c196874dc09ddee446b5aa6d49", func := "loop.example/g00877/laws.FnExactDepthOf", spec := "fnExactDepthOf", unfollowed := true, recurses := true, apart := false }
def FnExactDepthOfSaid : Prop := fnExactDepthOfRow.holds Try.pinned (OpenSpec.ofChange fnExactDepthOfSpec)

/-- ITS FALSE NEIGHBOUR: 'it returns false'. Refute it at one input. -/
def fnExactDepthOfWrong : ChangeSpec := { name := "fnExactDepthOf", fn := fun _ => fun
  | [d] => { results := [.lit (.bool false)], args := [d] }
  | _ => none }
def FnExactDepthOfWrongFalsely : Prop := fnExactDepthOfRow.holds Try.pinned (OpenSpec.ofChange fnExactDepthOfWrong)

/-- 'laws.FnExactUsedWires': WHATEVER THE INPUT: true; the input reads as it did. -/
def fnExactUsedWiresSpec : ChangeSpec := { name := "fnExactUsedWires", fn := fun _ => fun
  | [d] => { results := [.lit (.bool true)], args := [d] }
  | _ => none }
def fnExactUsedWiresRow : OpenClaim := { program := "ytaohgbkhmgfnhaa", sum := "d220751f4365278cd94732e90a5afee958b720c196874dc09ddee446b5aa6d49", func := "loop.example/g00877/laws.FnExactUsedWires", spec := "fnExactUsedWires", unfollowed := true, recurses := true, apart := false }
def FnExactUsedWiresSaid : Prop := fnExactUsedWiresRow.holds Try.pinned (OpenSpec.ofChange fnExactUsedWiresSpec)

/-- ITS FALSE NEIGHBOUR: 'it returns false'. Refute it at one input. -/
def fnExactUsedWiresWrong : ChangeSpec := { name := "fnExactUsedWires", fn := fun _ => fun
  | [d] => { results := [.lit (.bool false)], args := [d] }
  | _ => none }
def FnExactUsedWiresWrongFalsely : Prop := fnExactUsedWiresRow.holds Try.pinned (OpenSpec.ofChange fnExactUsedWiresWrong)

/-- 'laws.FnExactThenCircuit': WHATEVER THE INPUT: true; the input reads as it did. -/
def fnExactThenCircuitSpec : ChangeSpec := { name := "fnExactThenCircuit", fn := fun _ => fun
  | [d1, d2] => { results := [.lit (.bool true)], args := [d1, d2] }
  | _ => none }
def fnExactThenCircuitRow : OpenClaim := { program := "ytaohgbkhmgfnhaa", sum := "d220751f4365278cd94732e90a5afee958b720c196874dc09ddee446b5aa6d49", func := "loop.example/g00877/laws.FnExactThenCircuit", spec := "fnExactThenCircuit", unfollowed := true, recurses := true, apart := false }
def FnExactThenCircuitSaid : Prop := fnExactThenCircuitRow.holds Try.pinned (OpenSpec.ofChange fnExactThenCircuitSpec)

/-- ITS FALSE NEIGHBOUR: 'it returns false'. Refute it at one input. -/
def fnExactThenCircuitWrong : ChangeSpec := { name := "fnExactThenCircuit", fn := fun _ => fun
  | [d1, d2] => { results := [.lit (.bool false)], args := [d1, d2] }
  | _ => none }
def FnExactThenCircuitWrongFalsely : Prop := fnExactThenCircuitRow.holds Try.pinned (OpenSpec.ofChange fnExactThenCircuitWrong)

/-- 'laws.FnExactBesideCircuit': WHATEVER THE INPUT: true; the input reads as it did. -/
def fnExactBesideCircuitSpec : ChangeSpec := { name := "fnExactBesideCircuit", fn := fun _ => fun
  | [d1, d2] => { results := [.lit (.bool true)], args := [d1, d2] }
  | _ => none }
def fnExactBesideCircuitRow : OpenClaim := { program := "ytaohgbkhmgfnhaa", sum := "d220751f4365278cd94732e90a5afee958b720c196874dc09ddee446b5aa6d49", func := "loop.example/g00877/laws.FnExactBesideCircuit", spec := "fnExactBesideCircuit", unfollowed := true, recurses := true, apart := false }
def FnExactBesideCircuitSaid : Prop := fnExactBesideCircuitRow.holds Try.pinned (OpenSpec.ofChange fnExactBesideCircuitSpec)

/-- ITS FALSE NEIGHBOUR: 'it returns false'. Refute it at one input. -/
def fnExactBesideCircuitWrong : ChangeSpec := { name := "fnExactBesideCircuit", fn := fun _ => fun
  | [d1, d2] => { results := [.lit (.bool false)], args := [d1, d2] }
  | _ => none }
def FnExactBesideCircuitWrongFalsely : Prop := fnExactBesideCircuitRow.holds Try.pinned (OpenSpec.ofChange fnExactBesideCircuitWrong)

/-- 'laws.FnExactTruthTable': WHATEVER THE INPUT: true; the input reads as it did. -/
def fnExactTruthTableSpec : ChangeSpec := { name := "fnExactTruthTable", fn := fun _ => fun
  | [d] => { results := [.lit (.bool true)], args := [d] }
  | _ => none }
def fnExactTruthTableRow : OpenClaim := { program := "ytaohgbkhmgfnhaa", sum := "d220751f4365278cd94732e90a5afee958b720c196874dc09ddee446b5aa6d49", func := "loop.example/g00877/laws.FnExactTruthTable", spec := "fnExactTruthTable", unfollowed := true, recurses := true, apart := false }
def FnExactTruthTableSaid : Prop := fnExactTruthTableRow.holds Try.pinned (OpenSpec.ofChange fnExactTruthTableSpec)

/-- ITS FALSE NEIGHBOUR: 'it returns false'. Refute it at one input. -/
def fnExactTruthTableWrong : ChangeSpec := { name := "fnExactTruthTable", fn := fun _ => fun
  | [d] => { results := [.lit (.bool false)], args := [d] }
  | _ => none }
def FnExactTruthTableWrongFalsely : Prop := fnExactTruthTableRow.holds Try.pinned (OpenSpec.ofChange fnExactTruthTableWrong)

/- THE SECOND FORM. 'bulk': how many values and letters a reading holds, each counted each time it is reached (what is shared counts as often as it is met; a slice's spare places count too). A statement '..UptoSaid' is the law's where the arguments, and the package variables that the reading takes, are together of bulk at most 1048576: NARROWER than '..Said'. Prove '..Said' where nothing that the law and all that it calls make is longer than what came in: it says more and counts as full. Else prove '..UptoSaid'. A law counts once. -/
mutual
def uptoBulk {H : Type} : DataW H → Nat
  | .lit (.string bytes) => bytes.length + 1
  | .lit _ => 1
  | .nil => 1
  | .ptr d => uptoBulk d + 1
  | .slice elems spare => uptoBulkAll elems + uptoBulkAll spare + 1
  | .agg parts => uptoBulkAll parts + 1
  | .iface _ d => uptoBulk d + 1
  | .map entries => uptoBulkEntries entries + 1
  | .held _ => 1
def uptoBulkAll {H : Type} : List (DataW H) → Nat
  | [] => 0
  | d :: r => uptoBulk d + uptoBulkAll r
def uptoBulkEntries {H : Type} : List (Lit × DataW H) → Nat
  | [] => 0
  | x :: r => uptoBulkEntry x + uptoBulkEntries r
def uptoBulkEntry {H : Type} : Lit × DataW H → Nat
  | (.string bytes, d) => bytes.length + uptoBulk d + 1
  | (_, d) => uptoBulk d + 1
 end
def uptoSmall : (H : Type) → List (DataW H) → Bool := fun _ ds => decide (uptoBulkAll ds ≤ 1048576)
def OpenSpec.upto (s : _root_.Go.ChangeSpec) : _root_.Go.OpenSpec := { _root_.Go.OpenSpec.ofChange s with cond := some uptoSmall }

/-- 'laws.FnExactIsCircuit', WHERE WHAT IT READS IS OF BULK AT MOST 1048576: true; the input reads as it did. -/
def fnExactIsCircuitUptoRow : OpenClaim := { program := "ytaohgbkhmgfnhaa", sum := "d220751f4365278cd94732e90a5afee958b720c196874dc09ddee446b5aa6d49", func := "loop.example/g00877/laws.FnExactIsCircuit", spec := "fnExactIsCircuit", unfollowed := true, recurses := true, apart := false, narrowed := true }
def FnExactIsCircuitUptoSaid : Prop := fnExactIsCircuitUptoRow.holds Try.pinned (OpenSpec.upto fnExactIsCircuitSpec)

/-- 'laws.FnExactWireValues', WHERE WHAT IT READS IS OF BULK AT MOST 1048576: true; the input reads as it did. -/
def fnExactWireValuesUptoRow : OpenClaim := { program := "ytaohgbkhmgfnhaa", sum := "d220751f4365278cd94732e90a5afee958b720c196874dc09ddee446b5aa6d49", func := "loop.example/g00877/laws.FnExactWireValues", spec := "fnExactWireValues", unfollowed := true, recurses := true, apart := false, narrowed := true }
def FnExactWireValuesUptoSaid : Prop := fnExactWireValuesUptoRow.holds Try.pinned (OpenSpec.upto fnExactWireValuesSpec)

/-- 'laws.FnExactEvalCircuit', WHERE WHAT IT READS IS OF BULK AT MOST 1048576: true; the input reads as it did. -/
def fnExactEvalCircuitUptoRow : OpenClaim := { program := "ytaohgbkhmgfnhaa", sum := "d220751f4365278cd94732e90a5afee958b720c196874dc09ddee446b5aa6d49", func := "loop.example/g00877/laws.FnExactEvalCircuit", spec := "fnExactEvalCircuit", unfollowed := true, recurses := true, apart := false, narrowed := true }
def FnExactEvalCircuitUptoSaid : Prop := fnExactEvalCircuitUptoRow.holds Try.pinned (OpenSpec.upto fnExactEvalCircuitSpec)

/-- 'laws.FnExactCountGates', WHERE WHAT IT READS IS OF BULK AT MOST 1048576: true; the input reads as it did. -/
def fnExactCountGatesUptoRow : OpenClaim := { program := "ytaohgbkhmgfnhaa", sum := "d220751f4365278cd94732e90a5afee958b720c196874dc09ddee446b5aa6d49", func := "loop.example/g00877/laws.FnExactCountGates", spec := "fnExactCountGates", unfollowed := true, recurses := true, apart := false, narrowed := true }
def FnExactCountGatesUptoSaid : Prop := fnExactCountGatesUptoRow.holds Try.pinned (OpenSpec.upto fnExactCountGatesSpec)

/-- 'laws.FnExactDepthOf', WHERE WHAT IT READS IS OF BULK AT MOST 1048576: true; the input reads as it did. -/
def fnExactDepthOfUptoRow : OpenClaim := { program := "ytaohgbkhmgfnhaa", sum := "d220751f4365278cd94732e90a5afee958b720c196874dc09ddee446b5aa6d49", func := "loop.example/g00877/laws.FnExactDepthOf", spec := "fnExactDepthOf", unfollowed := true, recurses := true, apart := false, narrowed := true }
def FnExactDepthOfUptoSaid : Prop := fnExactDepthOfUptoRow.holds Try.pinned (OpenSpec.upto fnExactDepthOfSpec)

/-- 'laws.FnExactUsedWires', WHERE WHAT IT READS IS OF BULK AT MOST 1048576: true; the input reads as it did. -/
def fnExactUsedWiresUptoRow : OpenClaim := { program := "ytaohgbkhmgfnhaa", sum := "d220751f4365278cd94732e90a5afee958b720c196874dc09ddee446b5aa6d49", func := "loop.example/g00877/laws.FnExactUsedWires", spec := "fnExactUsedWires", unfollowed := true, recurses := true, apart := false, narrowed := true }
def FnExactUsedWiresUptoSaid : Prop := fnExactUsedWiresUptoRow.holds Try.pinned (OpenSpec.upto fnExactUsedWiresSpec)

/-- 'laws.FnExactThenCircuit', WHERE WHAT IT READS IS OF BULK AT MOST 1048576: true; the input reads as it did. -/
def fnExactThenCircuitUptoRow : OpenClaim := { program := "ytaohgbkhmgfnhaa", sum := "d220751f4365278cd94732e90a5afee958b720c196874dc09ddee446b5aa6d49", func := "loop.example/g00877/laws.FnExactThenCircuit", spec := "fnExactThenCircuit", unfollowed := true, recurses := true, apart := false, narrowed := true }
def FnExactThenCircuitUptoSaid : Prop := fnExactThenCircuitUptoRow.holds Try.pinned (OpenSpec.upto fnExactThenCircuitSpec)

/-- 'laws.FnExactBesideCircuit', WHERE WHAT IT READS IS OF BULK AT MOST 1048576: true; the input reads as it did. -/
def fnExactBesideCircuitUptoRow : OpenClaim := { program := "ytaohgbkhmgfnhaa", sum := "d220751f4365278cd94732e90a5afee958b720c196874dc09ddee446b5aa6d49", func := "loop.example/g00877/laws.FnExactBesideCircuit", spec := "fnExactBesideCircuit", unfollowed := true, recurses := true, apart := false, narrowed := true }
def FnExactBesideCircuitUptoSaid : Prop := fnExactBesideCircuitUptoRow.holds Try.pinned (OpenSpec.upto fnExactBesideCircuitSpec)

/-- 'laws.FnExactTruthTable', WHERE WHAT IT READS IS OF BULK AT MOST 1048576: true; the input reads as it did. -/
def fnExactTruthTableUptoRow : OpenClaim := { program := "ytaohgbkhmgfnhaa", sum := "d220751f4365278cd94732e90a5afee958b720c196874dc09ddee446b5aa6d49", func := "loop.example/g00877/laws.FnExactTruthTable", spec := "fnExactTruthTable", unfollowed := true, recurses := true, apart := false, narrowed := true }
def FnExactTruthTableUptoSaid : Prop := fnExactTruthTableUptoRow.holds Try.pinned (OpenSpec.upto fnExactTruthTableSpec)

end Rows
end Go.Proofs.Ytaohgbkhmgfnhaa
