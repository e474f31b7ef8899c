/-
  NARROWER THAN 'FOR EVERY INPUT', by the rows' own cells (each row's printed sentence says how): FnExactDigestOf: laid · FnExactLabelFor: laid · FnExactNumberFrom: laid · FnExactBitsFrom: laid · FnExactOrderFrom: laid · FnExactStreamXor: laid · FnExactCountDigests: laid.
  DERIVED. THE GIVEN ROWS OF THIS SEAT. 7 by the template 'for every input the law returns true; each argument reads behind the call as it read before'; 0 by the template 'total and deterministic' (their statements: YtadkbfjhghipaaaDoorTotals.lean).
  GIVEN WITH THE SEED: the statements are not yours to turn. If you find one false, say at which input.
  Laid BY PROGRAM, IN A SANDBOX (cutbox-rows.mjs): the forced cells as the released guide's own fill.sh prints them over the translation 8e0994a1b7de5846… (all of the seat's roots in one cut). By AI agents, Wed Nov 11 2026. No macro, syntax, notation, axiom, sorry.
-/
import Derived.Test.YtadkbfjhghipaaaDoorChecked
import GoSem.Claim
import GoSem.ClaimJoined
import GoSem.ClaimMapViews
import Derived.JoinedTies
import Derived.KernelRfl
namespace Go.Proofs.YtadkbfjhghipaaaDoor
/- THE CELL 'sum', in the pinned program and in every row, IS THE sha256 OF THE DUMP (.gsa) THAT YtadkbfjhghipaaaDoorProg.lean LOADS. Nothing in Lean hashes anything: it is a label: what it is worth is what the hold of that sum in a sandbox is worth. -/
noncomputable def Tryd.pinned : Pinned := { name := "ytadkbfjhghipaaadoor", sum := "8e0994a1b7de58460e2d43aa772942bb8059877bd511133f21efe509c1629d39", checked := Tryd.checked }
namespace Rows
def none {H : Type} : Left H := { results := [], args := [] }

/- WHAT THE LISTED PACKAGE-LEVEL VARIABLES READ AS WHEN THE CALL BEGINS. Each datum BY PROGRAM (the guide's laid-datum.mjs) off the statement by which the dump's own 'gosem.cut.vars' lays the variable. In a bare row this is a premise. The card (YtadkbfjhghipaaaDoorCards.lean) ties it to the program's text. -/
def laid_loop_example_g00877_impl_firstNumbers {H : Type} : DataW H := .agg [.lit (.int .i64 40503), .lit (.int .i64 40504), .lit (.int .i64 40505), .lit (.int .i64 40506), .lit (.int .i64 40507), .lit (.int .i64 40508), .lit (.int .i64 40509), .lit (.int .i64 40510), .lit (.int .i64 40511), .lit (.int .i64 40512), .lit (.int .i64 40513), .lit (.int .i64 40514), .lit (.int .i64 40515)]

/-- 'laws.FnExactDigestOf': WHATEVER THE INPUT: true; the input reads as it did. -/
def fnExactDigestOfSpec : ChangeSpec := { name := "fnExactDigestOf", vars := ["loop.example/g00877/impl.firstNumbers"], fn := fun _ => fun
  | [d, g1] => { results := [.lit (.bool true)], args := [d], vars := [g1] }
  | _ => none }
def fnExactDigestOfRow : OpenClaim := { program := "ytadkbfjhghipaaadoor", sum := "8e0994a1b7de58460e2d43aa772942bb8059877bd511133f21efe509c1629d39", func := "loop.example/g00877/laws.FnExactDigestOf", spec := "fnExactDigestOf", unfollowed := true, recurses := true, named := ["loop.example/g00877/impl.firstNumbers"], apart := false, laid := [("loop.example/g00877/impl.firstNumbers", laid_loop_example_g00877_impl_firstNumbers)] }
def FnExactDigestOfSaid : Prop := fnExactDigestOfRow.holds Tryd.pinned (OpenSpec.ofChange fnExactDigestOfSpec)

/-- ITS FALSE NEIGHBOUR: 'it returns false'. Refute it at one input. -/
def fnExactDigestOfWrong : ChangeSpec := { name := "fnExactDigestOf", vars := ["loop.example/g00877/impl.firstNumbers"], fn := fun _ => fun
  | [d, g1] => { results := [.lit (.bool false)], args := [d], vars := [g1] }
  | _ => none }
def FnExactDigestOfWrongFalsely : Prop := fnExactDigestOfRow.holds Tryd.pinned (OpenSpec.ofChange fnExactDigestOfWrong)

/-- 'laws.FnExactLabelFor': WHATEVER THE INPUT: true; the input reads as it did. -/
def fnExactLabelForSpec : ChangeSpec := { name := "fnExactLabelFor", vars := ["loop.example/g00877/impl.firstNumbers"], fn := fun _ => fun
  | [d1, d2, d3, d4, g1] => { results := [.lit (.bool true)], args := [d1, d2, d3, d4], vars := [g1] }
  | _ => none }
def fnExactLabelForRow : OpenClaim := { program := "ytadkbfjhghipaaadoor", sum := "8e0994a1b7de58460e2d43aa772942bb8059877bd511133f21efe509c1629d39", func := "loop.example/g00877/laws.FnExactLabelFor", spec := "fnExactLabelFor", unfollowed := true, recurses := true, named := ["loop.example/g00877/impl.firstNumbers"], apart := false, laid := [("loop.example/g00877/impl.firstNumbers", laid_loop_example_g00877_impl_firstNumbers)] }
def FnExactLabelForSaid : Prop := fnExactLabelForRow.holds Tryd.pinned (OpenSpec.ofChange fnExactLabelForSpec)

/-- ITS FALSE NEIGHBOUR: 'it returns false'. Refute it at one input. -/
def fnExactLabelForWrong : ChangeSpec := { name := "fnExactLabelFor", vars := ["loop.example/g00877/impl.firstNumbers"], fn := fun _ => fun
  | [d1, d2, d3, d4, g1] => { results := [.lit (.bool false)], args := [d1, d2, d3, d4], vars := [g1] }
  | _ => none }
def FnExactLabelForWrongFalsely : Prop := fnExactLabelForRow.holds Tryd.pinned (OpenSpec.ofChange fnExactLabelForWrong)

/-- 'laws.FnExactNumberFrom': WHATEVER THE INPUT: true; the input reads as it did. -/
def fnExactNumberFromSpec : ChangeSpec := { name := "fnExactNumberFrom", vars := ["loop.example/g00877/impl.firstNumbers"], fn := fun _ => fun
  | [d1, d2, g1] => { results := [.lit (.bool true)], args := [d1, d2], vars := [g1] }
  | _ => none }
def fnExactNumberFromRow : OpenClaim := { program := "ytadkbfjhghipaaadoor", sum := "8e0994a1b7de58460e2d43aa772942bb8059877bd511133f21efe509c1629d39", func := "loop.example/g00877/laws.FnExactNumberFrom", spec := "fnExactNumberFrom", unfollowed := true, recurses := true, named := ["loop.example/g00877/impl.firstNumbers"], apart := false, laid := [("loop.example/g00877/impl.firstNumbers", laid_loop_example_g00877_impl_firstNumbers)] }
def FnExactNumberFromSaid : Prop := fnExactNumberFromRow.holds Tryd.pinned (OpenSpec.ofChange fnExactNumberFromSpec)

/-- ITS FALSE NEIGHBOUR: 'it returns false'. Refute it at one input. -/
def fnExactNumberFromWrong : ChangeSpec := { name := "fnExactNumberFrom", vars := ["loop.example/g00877/impl.firstNumbers"], fn := fun _ => fun
  | [d1, d2, g1] => { results := [.lit (.bool false)], args := [d1, d2], vars := [g1] }
  | _ => none }
def FnExactNumberFromWrongFalsely : Prop := fnExactNumberFromRow.holds Tryd.pinned (OpenSpec.ofChange fnExactNumberFromWrong)

/-- 'laws.FnExactBitsFrom': WHATEVER THE INPUT: true; the input reads as it did. -/
def fnExactBitsFromSpec : ChangeSpec := { name := "fnExactBitsFrom", vars := ["loop.example/g00877/impl.firstNumbers"], fn := fun _ => fun
  | [d1, d2, g1] => { results := [.lit (.bool true)], args := [d1, d2], vars := [g1] }
  | _ => none }
def fnExactBitsFromRow : OpenClaim := { program := "ytadkbfjhghipaaadoor", sum := "8e0994a1b7de58460e2d43aa772942bb8059877bd511133f21efe509c1629d39", func := "loop.example/g00877/laws.FnExactBitsFrom", spec := "fnExactBitsFrom", unfollowed := true, recurses := true, named := ["loop.example/g00877/impl.firstNumbers"], apart := false, laid := [("loop.example/g00877/impl.firstNumbers", laid_loop_example_g00877_impl_firstNumbers)] }
def FnExactBitsFromSaid : Prop := fnExactBitsFromRow.holds Tryd.pinned (OpenSpec.ofChange fnExactBitsFromSpec)

/-- ITS FALSE NEIGHBOUR: 'it returns false'. Refute it at one input. -/
def fnExactBitsFromWrong : ChangeSpec := { name := "fnExactBitsFrom", vars := ["loop.example/g00877/impl.firstNumbers"], fn := fun _ => fun
  | [d1, d2, g1] => { results := [.lit (.bool false)], args := [d1, d2], vars := [g1] }
  | _ => none }
def FnExactBitsFromWrongFalsely : Prop := fnExactBitsFromRow.holds Tryd.pinned (OpenSpec.ofChange fnExactBitsFromWrong)

/-- 'laws.FnExactOrderFrom': WHATEVER THE INPUT: true; the input reads as it did. -/
def fnExactOrderFromSpec : ChangeSpec := { name := "fnExactOrderFrom", vars := ["loop.example/g00877/impl.firstNumbers"], fn := fun _ => fun
  | [d1, d2, g1] => { results := [.lit (.bool true)], args := [d1, d2], vars := [g1] }
  | _ => none }
def fnExactOrderFromRow : OpenClaim := { program := "ytadkbfjhghipaaadoor", sum := "8e0994a1b7de58460e2d43aa772942bb8059877bd511133f21efe509c1629d39", func := "loop.example/g00877/laws.FnExactOrderFrom", spec := "fnExactOrderFrom", unfollowed := true, recurses := true, named := ["loop.example/g00877/impl.firstNumbers"], apart := false, laid := [("loop.example/g00877/impl.firstNumbers", laid_loop_example_g00877_impl_firstNumbers)] }
def FnExactOrderFromSaid : Prop := fnExactOrderFromRow.holds Tryd.pinned (OpenSpec.ofChange fnExactOrderFromSpec)

/-- ITS FALSE NEIGHBOUR: 'it returns false'. Refute it at one input. -/
def fnExactOrderFromWrong : ChangeSpec := { name := "fnExactOrderFrom", vars := ["loop.example/g00877/impl.firstNumbers"], fn := fun _ => fun
  | [d1, d2, g1] => { results := [.lit (.bool false)], args := [d1, d2], vars := [g1] }
  | _ => none }
def FnExactOrderFromWrongFalsely : Prop := fnExactOrderFromRow.holds Tryd.pinned (OpenSpec.ofChange fnExactOrderFromWrong)

/-- 'laws.FnExactStreamXor': WHATEVER THE INPUT: true; the input reads as it did. -/
def fnExactStreamXorSpec : ChangeSpec := { name := "fnExactStreamXor", vars := ["loop.example/g00877/impl.firstNumbers"], fn := fun _ => fun
  | [d1, d2, g1] => { results := [.lit (.bool true)], args := [d1, d2], vars := [g1] }
  | _ => none }
def fnExactStreamXorRow : OpenClaim := { program := "ytadkbfjhghipaaadoor", sum := "8e0994a1b7de58460e2d43aa772942bb8059877bd511133f21efe509c1629d39", func := "loop.example/g00877/laws.FnExactStreamXor", spec := "fnExactStreamXor", unfollowed := true, recurses := true, named := ["loop.example/g00877/impl.firstNumbers"], apart := false, laid := [("loop.example/g00877/impl.firstNumbers", laid_loop_example_g00877_impl_firstNumbers)] }
def FnExactStreamXorSaid : Prop := fnExactStreamXorRow.holds Tryd.pinned (OpenSpec.ofChange fnExactStreamXorSpec)

/-- ITS FALSE NEIGHBOUR: 'it returns false'. Refute it at one input. -/
def fnExactStreamXorWrong : ChangeSpec := { name := "fnExactStreamXor", vars := ["loop.example/g00877/impl.firstNumbers"], fn := fun _ => fun
  | [d1, d2, g1] => { results := [.lit (.bool false)], args := [d1, d2], vars := [g1] }
  | _ => none }
def FnExactStreamXorWrongFalsely : Prop := fnExactStreamXorRow.holds Tryd.pinned (OpenSpec.ofChange fnExactStreamXorWrong)

/-- 'laws.FnExactCountDigests': WHATEVER THE INPUT: true; the input reads as it did. -/
def fnExactCountDigestsSpec : ChangeSpec := { name := "fnExactCountDigests", vars := ["loop.example/g00877/impl.firstNumbers"], fn := fun _ => fun
  | [d1, d2, g1] => { results := [.lit (.bool true)], args := [d1, d2], vars := [g1] }
  | _ => none }
def fnExactCountDigestsRow : OpenClaim := { program := "ytadkbfjhghipaaadoor", sum := "8e0994a1b7de58460e2d43aa772942bb8059877bd511133f21efe509c1629d39", func := "loop.example/g00877/laws.FnExactCountDigests", spec := "fnExactCountDigests", recurses := true, named := ["loop.example/g00877/impl.firstNumbers"], apart := false, laid := [("loop.example/g00877/impl.firstNumbers", laid_loop_example_g00877_impl_firstNumbers)] }
def FnExactCountDigestsSaid : Prop := fnExactCountDigestsRow.holds Tryd.pinned (OpenSpec.ofChange fnExactCountDigestsSpec)

/-- ITS FALSE NEIGHBOUR: 'it returns false'. Refute it at one input. -/
def fnExactCountDigestsWrong : ChangeSpec := { name := "fnExactCountDigests", vars := ["loop.example/g00877/impl.firstNumbers"], fn := fun _ => fun
  | [d1, d2, g1] => { results := [.lit (.bool false)], args := [d1, d2], vars := [g1] }
  | _ => none }
def FnExactCountDigestsWrongFalsely : Prop := fnExactCountDigestsRow.holds Tryd.pinned (OpenSpec.ofChange fnExactCountDigestsWrong)

/- THE SECOND FORM. 'bulk': how many values and letters a reading holds, each counted each time it is reached (what is shared counts as often as it is met; a slice's spare places count too). A statement '..UptoSaid' is the law's where the arguments, and the package variables that the reading takes, are together of bulk at most 1048576: NARROWER than '..Said'. Prove '..Said' where nothing that the law and all that it calls make is longer than what came in: it says more and counts as full. Else prove '..UptoSaid'. A law counts once. -/
mutual
def uptoBulk {H : Type} : DataW H → Nat
  | .lit (.string bytes) => bytes.length + 1
  | .lit _ => 1
  | .nil => 1
  | .ptr d => uptoBulk d + 1
  | .slice elems spare => uptoBulkAll elems + uptoBulkAll spare + 1
  | .agg parts => uptoBulkAll parts + 1
  | .iface _ d => uptoBulk d + 1
  | .map entries => uptoBulkEntries entries + 1
  | .held _ => 1
def uptoBulkAll {H : Type} : List (DataW H) → Nat
  | [] => 0
  | d :: r => uptoBulk d + uptoBulkAll r
def uptoBulkEntries {H : Type} : List (Lit × DataW H) → Nat
  | [] => 0
  | x :: r => uptoBulkEntry x + uptoBulkEntries r
def uptoBulkEntry {H : Type} : Lit × DataW H → Nat
  | (.string bytes, d) => bytes.length + uptoBulk d + 1
  | (_, d) => uptoBulk d + 1
 end
def uptoSmall : (H : Type) → List (DataW H) → Bool := fun _ ds => decide (uptoBulkAll ds ≤ 1048576)
def OpenSpec.upto (s : _root_.Go.ChangeSpec) : _root_.Go.OpenSpec := { _root_.Go.OpenSpec.ofChange s with cond := some uptoSmall }

/-- 'laws.FnExactDigestOf', WHERE WHAT IT READS IS OF BULK AT MOST 1048576: true; the input reads as it did. -/
def fnExactDigestOfUptoRow : OpenClaim := { program := "ytadkbfjhghipaaadoor", sum := "8e0994a1b7de58460e2d43aa772942bb8059877bd511133f21efe509c1629d39", func := "loop.example/g00877/laws.FnExactDigestOf", spec := "fnExactDigestOf", unfollowed := true, recurses := true, named := ["loop.example/g00877/impl.firstNumbers"], apart := false, laid := [("loop.example/g00877/impl.firstNumbers", laid_loop_example_g00877_impl_firstNumbers)], narrowed := true }
def FnExactDigestOfUptoSaid : Prop := fnExactDigestOfUptoRow.holds Tryd.pinned (OpenSpec.upto fnExactDigestOfSpec)

/-- 'laws.FnExactLabelFor', WHERE WHAT IT READS IS OF BULK AT MOST 1048576: true; the input reads as it did. -/
def fnExactLabelForUptoRow : OpenClaim := { program := "ytadkbfjhghipaaadoor", sum := "8e0994a1b7de58460e2d43aa772942bb8059877bd511133f21efe509c1629d39", func := "loop.example/g00877/laws.FnExactLabelFor", spec := "fnExactLabelFor", unfollowed := true, recurses := true, named := ["loop.example/g00877/impl.firstNumbers"], apart := false, laid := [("loop.example/g00877/impl.firstNumbers", laid_loop_example_g00877_impl_firstNumbers)], narrowed := true }
def FnExactLabelForUptoSaid : Prop := fnExactLabelForUptoRow.holds Tryd.pinned (OpenSpec.upto fnExactLabelForSpec)

/-- 'laws.FnExactNumberFrom', WHERE WHAT IT READS IS OF BULK AT MOST 1048576: true; the input reads as it did. -/
def fnExactNumberFromUptoRow : OpenClaim := { program := "ytadkbfjhghipaaadoor", sum := "8e0994a1b7de58460e2d43aa772942bb8059877bd511133f21efe509c1629d39", func := "loop.example/g00877/laws.FnExactNumberFrom", spec := "fnExactNumberFrom", unfollowed := true, recurses := true, named := ["loop.example/g00877/impl.firstNumbers"], apart := false, laid := [("loop.example/g00877/impl.firstNumbers", laid_loop_example_g00877_impl_firstNumbers)], narrowed := true }
def FnExactNumberFromUptoSaid : Prop := fnExactNumberFromUptoRow.holds Tryd.pinned (OpenSpec.upto fnExactNumberFromSpec)

/-- 'laws.FnExactBitsFrom', WHERE WHAT IT READS IS OF BULK AT MOST 1048576: true; the input reads as it did. -/
def fnExactBitsFromUptoRow : OpenClaim := { program := "ytadkbfjhghipaaadoor", sum := "8e0994a1b7de58460e2d43aa772942bb8059877bd511133f21efe509c1629d39", func := "loop.example/g00877/laws.FnExactBitsFrom", spec := "fnExactBitsFrom", unfollowed := true, recurses := true, named := ["loop.example/g00877/impl.firstNumbers"], apart := false, laid := [("loop.example/g00877/impl.firstNumbers", laid_loop_example_g00877_impl_firstNumbers)], narrowed := true }
def FnExactBitsFromUptoSaid : Prop := fnExactBitsFromUptoRow.holds Tryd.pinned (OpenSpec.upto fnExactBitsFromSpec)

/-- 'laws.FnExactOrderFrom', WHERE WHAT IT READS IS OF BULK AT MOST 1048576: true; the input reads as it did. -/
def fnExactOrderFromUptoRow : OpenClaim := { program := "ytadkbfjhghipaaadoor", sum := "8e0994a1b7de58460e2d43aa772942bb8059877bd511133f21efe509c1629d39", func := "loop.example/g00877/laws.FnExactOrderFrom", spec := "fnExactOrderFrom", unfollowed := true, recurses := true, named := ["loop.example/g00877/impl.firstNumbers"], apart := false, laid := [("loop.example/g00877/impl.firstNumbers", laid_loop_example_g00877_impl_firstNumbers)], narrowed := true }
def FnExactOrderFromUptoSaid : Prop := fnExactOrderFromUptoRow.holds Tryd.pinned (OpenSpec.upto fnExactOrderFromSpec)

/-- 'laws.FnExactStreamXor', WHERE WHAT IT READS IS OF BULK AT MOST 1048576: true; the input reads as it did. -/
def fnExactStreamXorUptoRow : OpenClaim := { program := "ytadkbfjhghipaaadoor", sum := "8e0994a1b7de58460e2d43aa772942bb8059877bd511133f21efe509c1629d39", func := "loop.example/g00877/laws.FnExactStreamXor", spec := "fnExactStreamXor", unfollowed := true, recurses := true, named := ["loop.example/g00877/impl.firstNumbers"], apart := false, laid := [("loop.example/g00877/impl.firstNumbers", laid_loop_example_g00877_impl_firstNumbers)], narrowed := true }
def FnExactStreamXorUptoSaid : Prop := fnExactStreamXorUptoRow.holds Tryd.pinned (OpenSpec.upto fnExactStreamXorSpec)

/-- 'laws.FnExactCountDigests', WHERE WHAT IT READS IS OF BULK AT MOST 1048576: true; the input reads as it did. -/
def fnExactCountDigestsUptoRow : OpenClaim := { program := "ytadkbfjhghipaaadoor", sum := "8e0994a1b7de58460e2d43aa772942bb8059877bd511133f21efe509c1629d39", func := "loop.example/g00877/laws.FnExactCountDigests", spec := "fnExactCountDigests", recurses := true, named := ["loop.example/g00877/impl.firstNumbers"], apart := false, laid := [("loop.example/g00877/impl.firstNumbers", laid_loop_example_g00877_impl_firstNumbers)], narrowed := true }
def FnExactCountDigestsUptoSaid : Prop := fnExactCountDigestsUptoRow.holds Tryd.pinned (OpenSpec.upto fnExactCountDigestsSpec)

end Rows
end Go.Proofs.YtadkbfjhghipaaaDoor
