/-
  No cell of these rows narrows 'for every input' (looked for: loops, veiled, ifaces, maps, wideKeys, modest, calm, conditions, laid).
  DERIVED. THE GIVEN ROWS OF THIS SEAT. 12 by the template 'for every input the law returns true; each argument reads behind the call as it read before'; 0 by the template 'total and deterministic' (their statements: YtnelcbjegbchkaaTotals.lean).
  GIVEN WITH THE SEED: the statements are not yours to turn. If you find one false, say at which input.
  Laid BY PROGRAM, IN A SANDBOX (cutbox-rows.mjs): the forced cells as the released guide's own fill.sh prints them over the translation fb9962076725ab61… (all of the seat's roots in one cut). By AI agents, Wed Nov 11 2026. No macro, syntax, notation, axiom, sorry.
-/
import Derived.Test.YtnelcbjegbchkaaChecked
import GoSem.Claim
import GoSem.ClaimJoined
import GoSem.ClaimMapViews
import Derived.JoinedTies
import Derived.KernelRfl
namespace Go.Proofs.Ytnelcbjegbchkaa
/- THE CELL 'sum', in the pinned program and in every row, IS THE sha256 OF THE DUMP (.gsa) THAT YtnelcbjegbchkaaProg.lean LOADS. Nothing in Lean hashes anything: it is a label: what it is worth is what the hold of that sum in a sandbox is worth. -/
noncomputable def Try.pinned : Pinned := { name := "ytnelcbjegbchkaa", sum := "fb9962076725ab61273c2895699f47dc001e2427d58f57b2fe541b8a89f5ec88", checked := Try.checked }
namespace Rows
def none {H : Type} : Left H := { results := [], args := [] }

/-- 'laws.FnExactAndsOf': WHATEVER THE INPUT: true; the input reads as it did. -/
def fnExactAndsOfSpec : ChangeSpec := { name := "fnExactAndsOf", fn := fun _ => fun
  | [d1, d2] => { results := [.lit (.bool true)], args := [d1, d2] }
  | _ => none }
def fnExactAndsOfRow : OpenClaim := { program := "ytnelcbjegbchkaa", sum := "fb9962076725ab61273c2895699f47dc001e2427d58f57b2fe541b8a89f5ec88", func := "loop.example/g00877/laws.FnExactAndsOf", spec := "fnExactAndsOf", unfollowed := true, recurses := true, apart := false }
def FnExactAndsOfSaid : Prop := fnExactAndsOfRow.holds Try.pinned (OpenSpec.ofChange fnExactAndsOfSpec)

/-- ITS FALSE NEIGHBOUR: 'it returns false'. Refute it at one input. -/
def fnExactAndsOfWrong : ChangeSpec := { name := "fnExactAndsOf", fn := fun _ => fun
  | [d1, d2] => { results := [.lit (.bool false)], args := [d1, d2] }
  | _ => none }
def FnExactAndsOfWrongFalsely : Prop := fnExactAndsOfRow.holds Try.pinned (OpenSpec.ofChange fnExactAndsOfWrong)

/-- 'laws.FnExactTruthTable': WHATEVER THE INPUT: true; the input reads as it did. -/
def fnExactTruthTableSpec : ChangeSpec := { name := "fnExactTruthTable", fn := fun _ => fun
  | [d] => { results := [.lit (.bool true)], args := [d] }
  | _ => none }
def fnExactTruthTableRow : OpenClaim := { program := "ytnelcbjegbchkaa", sum := "fb9962076725ab61273c2895699f47dc001e2427d58f57b2fe541b8a89f5ec88", func := "loop.example/g00877/laws.FnExactTruthTable", spec := "fnExactTruthTable", unfollowed := true, recurses := true, apart := false }
def FnExactTruthTableSaid : Prop := fnExactTruthTableRow.holds Try.pinned (OpenSpec.ofChange fnExactTruthTableSpec)

/-- ITS FALSE NEIGHBOUR: 'it returns false'. Refute it at one input. -/
def fnExactTruthTableWrong : ChangeSpec := { name := "fnExactTruthTable", fn := fun _ => fun
  | [d] => { results := [.lit (.bool false)], args := [d] }
  | _ => none }
def FnExactTruthTableWrongFalsely : Prop := fnExactTruthTableRow.holds Try.pinned (OpenSpec.ofChange fnExactTruthTableWrong)

/-- 'laws.FnExactConstantWires': WHATEVER THE INPUT: true; the input reads as it did. -/
def fnExactConstantWiresSpec : ChangeSpec := { name := "fnExactConstantWires", fn := fun _ => fun
  | [d] => { results := [.lit (.bool true)], args := [d] }
  | _ => none }
def fnExactConstantWiresRow : OpenClaim := { program := "ytnelcbjegbchkaa", sum := "fb9962076725ab61273c2895699f47dc001e2427d58f57b2fe541b8a89f5ec88", func := "loop.example/g00877/laws.FnExactConstantWires", spec := "fnExactConstantWires", unfollowed := true, recurses := true, apart := false }
def FnExactConstantWiresSaid : Prop := fnExactConstantWiresRow.holds Try.pinned (OpenSpec.ofChange fnExactConstantWiresSpec)

/-- ITS FALSE NEIGHBOUR: 'it returns false'. Refute it at one input. -/
def fnExactConstantWiresWrong : ChangeSpec := { name := "fnExactConstantWires", fn := fun _ => fun
  | [d] => { results := [.lit (.bool false)], args := [d] }
  | _ => none }
def FnExactConstantWiresWrongFalsely : Prop := fnExactConstantWiresRow.holds Try.pinned (OpenSpec.ofChange fnExactConstantWiresWrong)

/-- 'laws.FnExactMergeGates': WHATEVER THE INPUT: true; the input reads as it did. -/
def fnExactMergeGatesSpec : ChangeSpec := { name := "fnExactMergeGates", fn := fun _ => fun
  | [d] => { results := [.lit (.bool true)], args := [d] }
  | _ => none }
def fnExactMergeGatesRow : OpenClaim := { program := "ytnelcbjegbchkaa", sum := "fb9962076725ab61273c2895699f47dc001e2427d58f57b2fe541b8a89f5ec88", func := "loop.example/g00877/laws.FnExactMergeGates", spec := "fnExactMergeGates", unfollowed := true, recurses := true, apart := false }
def FnExactMergeGatesSaid : Prop := fnExactMergeGatesRow.holds Try.pinned (OpenSpec.ofChange fnExactMergeGatesSpec)

/-- ITS FALSE NEIGHBOUR: 'it returns false'. Refute it at one input. -/
def fnExactMergeGatesWrong : ChangeSpec := { name := "fnExactMergeGates", fn := fun _ => fun
  | [d] => { results := [.lit (.bool false)], args := [d] }
  | _ => none }
def FnExactMergeGatesWrongFalsely : Prop := fnExactMergeGatesRow.holds Try.pinned (OpenSpec.ofChange fnExactMergeGatesWrong)

/-- 'laws.FnExactDropDead': WHATEVER THE INPUT: true; the input reads as it did. -/
def fnExactDropDeadSpec : ChangeSpec := { name := "fnExactDropDead", fn := fun _ => fun
  | [d] => { results := [.lit (.bool true)], args := [d] }
  | _ => none }
def fnExactDropDeadRow : OpenClaim := { program := "ytnelcbjegbchkaa", sum := "fb9962076725ab61273c2895699f47dc001e2427d58f57b2fe541b8a89f5ec88", func := "loop.example/g00877/laws.FnExactDropDead", spec := "fnExactDropDead", unfollowed := true, recurses := true, apart := false }
def FnExactDropDeadSaid : Prop := fnExactDropDeadRow.holds Try.pinned (OpenSpec.ofChange fnExactDropDeadSpec)

/-- ITS FALSE NEIGHBOUR: 'it returns false'. Refute it at one input. -/
def fnExactDropDeadWrong : ChangeSpec := { name := "fnExactDropDead", fn := fun _ => fun
  | [d] => { results := [.lit (.bool false)], args := [d] }
  | _ => none }
def FnExactDropDeadWrongFalsely : Prop := fnExactDropDeadRow.holds Try.pinned (OpenSpec.ofChange fnExactDropDeadWrong)

/-- 'laws.FnExactSimplifyCircuit': WHATEVER THE INPUT: true; the input reads as it did. -/
def fnExactSimplifyCircuitSpec : ChangeSpec := { name := "fnExactSimplifyCircuit", fn := fun _ => fun
  | [d] => { results := [.lit (.bool true)], args := [d] }
  | _ => none }
def fnExactSimplifyCircuitRow : OpenClaim := { program := "ytnelcbjegbchkaa", sum := "fb9962076725ab61273c2895699f47dc001e2427d58f57b2fe541b8a89f5ec88", func := "loop.example/g00877/laws.FnExactSimplifyCircuit", spec := "fnExactSimplifyCircuit", unfollowed := true, recurses := true, apart := false }
def FnExactSimplifyCircuitSaid : Prop := fnExactSimplifyCircuitRow.holds Try.pinned (OpenSpec.ofChange fnExactSimplifyCircuitSpec)

/-- ITS FALSE NEIGHBOUR: 'it returns false'. Refute it at one input. -/
def fnExactSimplifyCircuitWrong : ChangeSpec := { name := "fnExactSimplifyCircuit", fn := fun _ => fun
  | [d] => { results := [.lit (.bool false)], args := [d] }
  | _ => none }
def FnExactSimplifyCircuitWrongFalsely : Prop := fnExactSimplifyCircuitRow.holds Try.pinned (OpenSpec.ofChange fnExactSimplifyCircuitWrong)

/-- 'laws.FnExactAreEqual': WHATEVER THE INPUT: true; the input reads as it did. -/
def fnExactAreEqualSpec : ChangeSpec := { name := "fnExactAreEqual", fn := fun _ => fun
  | [d1, d2] => { results := [.lit (.bool true)], args := [d1, d2] }
  | _ => none }
def fnExactAreEqualRow : OpenClaim := { program := "ytnelcbjegbchkaa", sum := "fb9962076725ab61273c2895699f47dc001e2427d58f57b2fe541b8a89f5ec88", func := "loop.example/g00877/laws.FnExactAreEqual", spec := "fnExactAreEqual", unfollowed := true, recurses := true, apart := false }
def FnExactAreEqualSaid : Prop := fnExactAreEqualRow.holds Try.pinned (OpenSpec.ofChange fnExactAreEqualSpec)

/-- ITS FALSE NEIGHBOUR: 'it returns false'. Refute it at one input. -/
def fnExactAreEqualWrong : ChangeSpec := { name := "fnExactAreEqual", fn := fun _ => fun
  | [d1, d2] => { results := [.lit (.bool false)], args := [d1, d2] }
  | _ => none }
def FnExactAreEqualWrongFalsely : Prop := fnExactAreEqualRow.holds Try.pinned (OpenSpec.ofChange fnExactAreEqualWrong)

/-- 'laws.FnExactFirstUnequal': WHATEVER THE INPUT: true; the input reads as it did. -/
def fnExactFirstUnequalSpec : ChangeSpec := { name := "fnExactFirstUnequal", fn := fun _ => fun
  | [d1, d2] => { results := [.lit (.bool true)], args := [d1, d2] }
  | _ => none }
def fnExactFirstUnequalRow : OpenClaim := { program := "ytnelcbjegbchkaa", sum := "fb9962076725ab61273c2895699f47dc001e2427d58f57b2fe541b8a89f5ec88", func := "loop.example/g00877/laws.FnExactFirstUnequal", spec := "fnExactFirstUnequal", unfollowed := true, recurses := true, apart := false }
def FnExactFirstUnequalSaid : Prop := fnExactFirstUnequalRow.holds Try.pinned (OpenSpec.ofChange fnExactFirstUnequalSpec)

/-- ITS FALSE NEIGHBOUR: 'it returns false'. Refute it at one input. -/
def fnExactFirstUnequalWrong : ChangeSpec := { name := "fnExactFirstUnequal", fn := fun _ => fun
  | [d1, d2] => { results := [.lit (.bool false)], args := [d1, d2] }
  | _ => none }
def FnExactFirstUnequalWrongFalsely : Prop := fnExactFirstUnequalRow.holds Try.pinned (OpenSpec.ofChange fnExactFirstUnequalWrong)

/-- 'laws.FnExactDependsOn': WHATEVER THE INPUT: true; the input reads as it did. -/
def fnExactDependsOnSpec : ChangeSpec := { name := "fnExactDependsOn", fn := fun _ => fun
  | [d1, d2] => { results := [.lit (.bool true)], args := [d1, d2] }
  | _ => none }
def fnExactDependsOnRow : OpenClaim := { program := "ytnelcbjegbchkaa", sum := "fb9962076725ab61273c2895699f47dc001e2427d58f57b2fe541b8a89f5ec88", func := "loop.example/g00877/laws.FnExactDependsOn", spec := "fnExactDependsOn", unfollowed := true, recurses := true, apart := false }
def FnExactDependsOnSaid : Prop := fnExactDependsOnRow.holds Try.pinned (OpenSpec.ofChange fnExactDependsOnSpec)

/-- ITS FALSE NEIGHBOUR: 'it returns false'. Refute it at one input. -/
def fnExactDependsOnWrong : ChangeSpec := { name := "fnExactDependsOn", fn := fun _ => fun
  | [d1, d2] => { results := [.lit (.bool false)], args := [d1, d2] }
  | _ => none }
def FnExactDependsOnWrongFalsely : Prop := fnExactDependsOnRow.holds Try.pinned (OpenSpec.ofChange fnExactDependsOnWrong)

/-- 'laws.FnExactOnesOf': WHATEVER THE INPUT: true; the input reads as it did. -/
def fnExactOnesOfSpec : ChangeSpec := { name := "fnExactOnesOf", fn := fun _ => fun
  | [d1, d2] => { results := [.lit (.bool true)], args := [d1, d2] }
  | _ => none }
def fnExactOnesOfRow : OpenClaim := { program := "ytnelcbjegbchkaa", sum := "fb9962076725ab61273c2895699f47dc001e2427d58f57b2fe541b8a89f5ec88", func := "loop.example/g00877/laws.FnExactOnesOf", spec := "fnExactOnesOf", unfollowed := true, recurses := true, apart := false }
def FnExactOnesOfSaid : Prop := fnExactOnesOfRow.holds Try.pinned (OpenSpec.ofChange fnExactOnesOfSpec)

/-- ITS FALSE NEIGHBOUR: 'it returns false'. Refute it at one input. -/
def fnExactOnesOfWrong : ChangeSpec := { name := "fnExactOnesOf", fn := fun _ => fun
  | [d1, d2] => { results := [.lit (.bool false)], args := [d1, d2] }
  | _ => none }
def FnExactOnesOfWrongFalsely : Prop := fnExactOnesOfRow.holds Try.pinned (OpenSpec.ofChange fnExactOnesOfWrong)

/-- 'laws.FnExactEqualOuts': WHATEVER THE INPUT: true; the input reads as it did. -/
def fnExactEqualOutsSpec : ChangeSpec := { name := "fnExactEqualOuts", fn := fun _ => fun
  | [d] => { results := [.lit (.bool true)], args := [d] }
  | _ => none }
def fnExactEqualOutsRow : OpenClaim := { program := "ytnelcbjegbchkaa", sum := "fb9962076725ab61273c2895699f47dc001e2427d58f57b2fe541b8a89f5ec88", func := "loop.example/g00877/laws.FnExactEqualOuts", spec := "fnExactEqualOuts", unfollowed := true, recurses := true, apart := false }
def FnExactEqualOutsSaid : Prop := fnExactEqualOutsRow.holds Try.pinned (OpenSpec.ofChange fnExactEqualOutsSpec)

/-- ITS FALSE NEIGHBOUR: 'it returns false'. Refute it at one input. -/
def fnExactEqualOutsWrong : ChangeSpec := { name := "fnExactEqualOuts", fn := fun _ => fun
  | [d] => { results := [.lit (.bool false)], args := [d] }
  | _ => none }
def FnExactEqualOutsWrongFalsely : Prop := fnExactEqualOutsRow.holds Try.pinned (OpenSpec.ofChange fnExactEqualOutsWrong)

/-- 'laws.FnDepends': WHATEVER THE INPUT: true; the input reads as it did. -/
def fnDependsSpec : ChangeSpec := { name := "fnDepends", fn := fun _ => fun
  | [d1, d2] => { results := [.lit (.bool true)], args := [d1, d2] }
  | _ => none }
def fnDependsRow : OpenClaim := { program := "ytnelcbjegbchkaa", sum := "fb9962076725ab61273c2895699f47dc001e2427d58f57b2fe541b8a89f5ec88", func := "loop.example/g00877/laws.FnDepends", spec := "fnDepends", unfollowed := true, recurses := true, apart := false }
def FnDependsSaid : Prop := fnDependsRow.holds Try.pinned (OpenSpec.ofChange fnDependsSpec)

/-- ITS FALSE NEIGHBOUR: 'it returns false'. Refute it at one input. -/
def fnDependsWrong : ChangeSpec := { name := "fnDepends", fn := fun _ => fun
  | [d1, d2] => { results := [.lit (.bool false)], args := [d1, d2] }
  | _ => none }
def FnDependsWrongFalsely : Prop := fnDependsRow.holds Try.pinned (OpenSpec.ofChange fnDependsWrong)

/- THE SECOND FORM. 'bulk': how many values and letters a reading holds, each counted each time it is reached (what is shared counts as often as it is met; a slice's spare places count too). A statement '..UptoSaid' is the law's where the arguments, and the package variables that the reading takes, are together of bulk at most 1048576: NARROWER than '..Said'. Prove '..Said' where nothing that the law and all that it calls make is longer than what came in: it says more and counts as full. Else prove '..UptoSaid'. A law counts once. -/
mutual
def uptoBulk {H : Type} : DataW H → Nat
  | .lit (.string bytes) => bytes.length + 1
  | .lit _ => 1
  | .nil => 1
  | .ptr d => uptoBulk d + 1
  | .slice elems spare => uptoBulkAll elems + uptoBulkAll spare + 1
  | .agg parts => uptoBulkAll parts + 1
  | .iface _ d => uptoBulk d + 1
  | .map entries => uptoBulkEntries entries + 1
  | .held _ => 1
def uptoBulkAll {H : Type} : List (DataW H) → Nat
  | [] => 0
  | d :: r => uptoBulk d + uptoBulkAll r
def uptoBulkEntries {H : Type} : List (Lit × DataW H) → Nat
  | [] => 0
  | x :: r => uptoBulkEntry x + uptoBulkEntries r
def uptoBulkEntry {H : Type} : Lit × DataW H → Nat
  | (.string bytes, d) => bytes.length + uptoBulk d + 1
  | (_, d) => uptoBulk d + 1
 end
def uptoSmall : (H : Type) → List (DataW H) → Bool := fun _ ds => decide (uptoBulkAll ds ≤ 1048576)
def OpenSpec.upto (s : _root_.Go.ChangeSpec) : _root_.Go.OpenSpec := { _root_.Go.OpenSpec.ofChange s with cond := some uptoSmall }

/-- 'laws.FnExactAndsOf', WHERE WHAT IT READS IS OF BULK AT MOST 1048576: true; the input reads as it did. -/
def fnExactAndsOfUptoRow : OpenClaim := { program := "ytnelcbjegbchkaa", sum := "fb9962076725ab61273c2895699f47dc001e2427d58f57b2fe541b8a89f5ec88", func := "loop.example/g00877/laws.FnExactAndsOf", spec := "fnExactAndsOf", unfollowed := true, recurses := true, apart := false, narrowed := true }
def FnExactAndsOfUptoSaid : Prop := fnExactAndsOfUptoRow.holds Try.pinned (OpenSpec.upto fnExactAndsOfSpec)

/-- 'laws.FnExactTruthTable', WHERE WHAT IT READS IS OF BULK AT MOST 1048576: true; the input reads as it did. -/
def fnExactTruthTableUptoRow : OpenClaim := { program := "ytnelcbjegbchkaa", sum := "fb9962076725ab61273c2895699f47dc001e2427d58f57b2fe541b8a89f5ec88", func := "loop.example/g00877/laws.FnExactTruthTable", spec := "fnExactTruthTable", unfollowed := true, recurses := true, apart := false, narrowed := true }
def FnExactTruthTableUptoSaid : Prop := fnExactTruthTableUptoRow.holds Try.pinned (OpenSpec.upto fnExactTruthTableSpec)

/-- 'laws.FnExactConstantWires', WHERE WHAT IT READS IS OF BULK AT MOST 1048576: true; the input reads as it did. -/
def fnExactConstantWiresUptoRow : OpenClaim := { program := "ytnelcbjegbchkaa", sum := "fb9962076725ab61273c2895699f47dc001e2427d58f57b2fe541b8a89f5ec88", func := "loop.example/g00877/laws.FnExactConstantWires", spec := "fnExactConstantWires", unfollowed := true, recurses := true, apart := false, narrowed := true }
def FnExactConstantWiresUptoSaid : Prop := fnExactConstantWiresUptoRow.holds Try.pinned (OpenSpec.upto fnExactConstantWiresSpec)

/-- 'laws.FnExactMergeGates', WHERE WHAT IT READS IS OF BULK AT MOST 1048576: true; the input reads as it did. -/
def fnExactMergeGatesUptoRow : OpenClaim := { program := "ytnelcbjegbchkaa", sum := "fb9962076725ab61273c2895699f47dc001e2427d58f57b2fe541b8a89f5ec88", func := "loop.example/g00877/laws.FnExactMergeGates", spec := "fnExactMergeGates", unfollowed := true, recurses := true, apart := false, narrowed := true }
def FnExactMergeGatesUptoSaid : Prop := fnExactMergeGatesUptoRow.holds Try.pinned (OpenSpec.upto fnExactMergeGatesSpec)

/-- 'laws.FnExactDropDead', WHERE WHAT IT READS IS OF BULK AT MOST 1048576: true; the input reads as it did. -/
def fnExactDropDeadUptoRow : OpenClaim := { program := "ytnelcbjegbchkaa", sum := "fb9962076725ab61273c2895699f47dc001e2427d58f57b2fe541b8a89f5ec88", func := "loop.example/g00877/laws.FnExactDropDead", spec := "fnExactDropDead", unfollowed := true, recurses := true, apart := false, narrowed := true }
def FnExactDropDeadUptoSaid : Prop := fnExactDropDeadUptoRow.holds Try.pinned (OpenSpec.upto fnExactDropDeadSpec)

/-- 'laws.FnExactSimplifyCircuit', WHERE WHAT IT READS IS OF BULK AT MOST 1048576: true; the input reads as it did. -/
def fnExactSimplifyCircuitUptoRow : OpenClaim := { program := "ytnelcbjegbchkaa", sum := "fb9962076725ab61273c2895699f47dc001e2427d58f57b2fe541b8a89f5ec88", func := "loop.example/g00877/laws.FnExactSimplifyCircuit", spec := "fnExactSimplifyCircuit", unfollowed := true, recurses := true, apart := false, narrowed := true }
def FnExactSimplifyCircuitUptoSaid : Prop := fnExactSimplifyCircuitUptoRow.holds Try.pinned (OpenSpec.upto fnExactSimplifyCircuitSpec)

/-- 'laws.FnExactAreEqual', WHERE WHAT IT READS IS OF BULK AT MOST 1048576: true; the input reads as it did. -/
def fnExactAreEqualUptoRow : OpenClaim := { program := "ytnelcbjegbchkaa", sum := "fb9962076725ab61273c2895699f47dc001e2427d58f57b2fe541b8a89f5ec88", func := "loop.example/g00877/laws.FnExactAreEqual", spec := "fnExactAreEqual", unfollowed := true, recurses := true, apart := false, narrowed := true }
def FnExactAreEqualUptoSaid : Prop := fnExactAreEqualUptoRow.holds Try.pinned (OpenSpec.upto fnExactAreEqualSpec)

/-- 'laws.FnExactFirstUnequal', WHERE WHAT IT READS IS OF BULK AT MOST 1048576: true; the input reads as it did. -/
def fnExactFirstUnequalUptoRow : OpenClaim := { program := "ytnelcbjegbchkaa", sum := "fb9962076725ab61273c2895699f47dc001e2427d58f57b2fe541b8a89f5ec88", func := "loop.example/g00877/laws.FnExactFirstUnequal", spec := "fnExactFirstUnequal", unfollowed := true, recurses := true, apart := false, narrowed := true }
def FnExactFirstUnequalUptoSaid : Prop := fnExactFirstUnequalUptoRow.holds Try.pinned (OpenSpec.upto fnExactFirstUnequalSpec)

/-- 'laws.FnExactDependsOn', WHERE WHAT IT READS IS OF BULK AT MOST 1048576: true; the input reads as it did. -/
def fnExactDependsOnUptoRow : OpenClaim := { program := "ytnelcbjegbchkaa", sum := "fb9962076725ab61273c2895699f47dc001e2427d58f57b2fe541b8a89f5ec88", func := "loop.example/g00877/laws.FnExactDependsOn", spec := "fnExactDependsOn", unfollowed := true, recurses := true, apart := false, narrowed := true }
def FnExactDependsOnUptoSaid : Prop := fnExactDependsOnUptoRow.holds Try.pinned (OpenSpec.upto fnExactDependsOnSpec)

/-- 'laws.FnExactOnesOf', WHERE WHAT IT READS IS OF BULK AT MOST 1048576: true; the input reads as it did. -/
def fnExactOnesOfUptoRow : OpenClaim := { program := "ytnelcbjegbchkaa", sum := "fb9962076725ab61273c2895699f47dc001e2427d58f57b2fe541b8a89f5ec88", func := "loop.example/g00877/laws.FnExactOnesOf", spec := "fnExactOnesOf", unfollowed := true, recurses := true, apart := false, narrowed := true }
def FnExactOnesOfUptoSaid : Prop := fnExactOnesOfUptoRow.holds Try.pinned (OpenSpec.upto fnExactOnesOfSpec)

/-- 'laws.FnExactEqualOuts', WHERE WHAT IT READS IS OF BULK AT MOST 1048576: true; the input reads as it did. -/
def fnExactEqualOutsUptoRow : OpenClaim := { program := "ytnelcbjegbchkaa", sum := "fb9962076725ab61273c2895699f47dc001e2427d58f57b2fe541b8a89f5ec88", func := "loop.example/g00877/laws.FnExactEqualOuts", spec := "fnExactEqualOuts", unfollowed := true, recurses := true, apart := false, narrowed := true }
def FnExactEqualOutsUptoSaid : Prop := fnExactEqualOutsUptoRow.holds Try.pinned (OpenSpec.upto fnExactEqualOutsSpec)

/-- 'laws.FnDepends', WHERE WHAT IT READS IS OF BULK AT MOST 1048576: true; the input reads as it did. -/
def fnDependsUptoRow : OpenClaim := { program := "ytnelcbjegbchkaa", sum := "fb9962076725ab61273c2895699f47dc001e2427d58f57b2fe541b8a89f5ec88", func := "loop.example/g00877/laws.FnDepends", spec := "fnDepends", unfollowed := true, recurses := true, apart := false, narrowed := true }
def FnDependsUptoSaid : Prop := fnDependsUptoRow.holds Try.pinned (OpenSpec.upto fnDependsSpec)

end Rows
end Go.Proofs.Ytnelcbjegbchkaa
