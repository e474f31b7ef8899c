/-
  NARROWER THAN 'FOR EVERY INPUT', by the rows' own cells (each row's printed sentence says how): FnStreams: laid · FnDigests: laid.
  DERIVED. THE GIVEN ROWS OF THIS SEAT. 2 by the template 'for every input the law returns true; each argument reads behind the call as it read before'; 0 by the template 'total and deterministic' (their statements: YtjalpankapakkaaDoorTotals.lean).
  GIVEN WITH THE SEED: the statements are not yours to turn. If you find one false, say at which input.
  Laid BY PROGRAM, IN A SANDBOX (cutbox-rows.mjs): the forced cells as the released guide's own fill.sh prints them over the translation 18de46946221483d… (all of the seat's roots in one cut). By AI agents, Wed Nov 11 2026. No macro, syntax, notation, axiom, sorry.
-/
import Derived.Test.YtjalpankapakkaaDoorChecked
import GoSem.Claim
import GoSem.ClaimJoined
import GoSem.ClaimMapViews
import Derived.JoinedTies
import Derived.KernelRfl
namespace Go.Proofs.YtjalpankapakkaaDoor
/- THE CELL 'sum', in the pinned program and in every row, IS THE sha256 OF THE DUMP (.gsa) THAT YtjalpankapakkaaDoorProg.lean LOADS. Nothing in Lean hashes anything: it is a label: what it is worth is what the hold of that sum in a sandbox is worth. -/
noncomputable def Tryd.pinned : Pinned := { name := "ytjalpankapakkaadoor", sum := "18de46946221483d2c5359baaaae408a2198c89d41d289c30c3178513b02cc95", checked := Tryd.checked }
namespace Rows
def none {H : Type} : Left H := { results := [], args := [] }

/- WHAT THE LISTED PACKAGE-LEVEL VARIABLES READ AS WHEN THE CALL BEGINS. Each datum BY PROGRAM (the guide's laid-datum.mjs) off the statement by which the dump's own 'gosem.cut.vars' lays the variable. In a bare row this is a premise. The card (YtjalpankapakkaaDoorCards.lean) ties it to the program's text. -/
def laid_loop_example_g00877_impl_firstNumbers {H : Type} : DataW H := .agg [.lit (.int .i64 40503), .lit (.int .i64 40504), .lit (.int .i64 40505), .lit (.int .i64 40506), .lit (.int .i64 40507), .lit (.int .i64 40508), .lit (.int .i64 40509), .lit (.int .i64 40510), .lit (.int .i64 40511), .lit (.int .i64 40512), .lit (.int .i64 40513), .lit (.int .i64 40514), .lit (.int .i64 40515)]

/-- 'laws.FnStreams': WHATEVER THE INPUT: true; the input reads as it did. -/
def fnStreamsSpec : ChangeSpec := { name := "fnStreams", vars := ["loop.example/g00877/impl.firstNumbers"], fn := fun _ => fun
  | [d1, d2, g1] => { results := [.lit (.bool true)], args := [d1, d2], vars := [g1] }
  | _ => none }
def fnStreamsRow : OpenClaim := { program := "ytjalpankapakkaadoor", sum := "18de46946221483d2c5359baaaae408a2198c89d41d289c30c3178513b02cc95", func := "loop.example/g00877/laws.FnStreams", spec := "fnStreams", unfollowed := true, recurses := true, named := ["loop.example/g00877/impl.firstNumbers"], apart := false, laid := [("loop.example/g00877/impl.firstNumbers", laid_loop_example_g00877_impl_firstNumbers)] }
def FnStreamsSaid : Prop := fnStreamsRow.holds Tryd.pinned (OpenSpec.ofChange fnStreamsSpec)

/-- ITS FALSE NEIGHBOUR: 'it returns false'. Refute it at one input. -/
def fnStreamsWrong : ChangeSpec := { name := "fnStreams", vars := ["loop.example/g00877/impl.firstNumbers"], fn := fun _ => fun
  | [d1, d2, g1] => { results := [.lit (.bool false)], args := [d1, d2], vars := [g1] }
  | _ => none }
def FnStreamsWrongFalsely : Prop := fnStreamsRow.holds Tryd.pinned (OpenSpec.ofChange fnStreamsWrong)

/-- 'laws.FnDigests': WHATEVER THE INPUT: true; the input reads as it did. -/
def fnDigestsSpec : ChangeSpec := { name := "fnDigests", vars := ["loop.example/g00877/impl.firstNumbers"], fn := fun _ => fun
  | [d1, d2, g1] => { results := [.lit (.bool true)], args := [d1, d2], vars := [g1] }
  | _ => none }
def fnDigestsRow : OpenClaim := { program := "ytjalpankapakkaadoor", sum := "18de46946221483d2c5359baaaae408a2198c89d41d289c30c3178513b02cc95", func := "loop.example/g00877/laws.FnDigests", spec := "fnDigests", unfollowed := true, recurses := true, named := ["loop.example/g00877/impl.firstNumbers"], apart := false, laid := [("loop.example/g00877/impl.firstNumbers", laid_loop_example_g00877_impl_firstNumbers)] }
def FnDigestsSaid : Prop := fnDigestsRow.holds Tryd.pinned (OpenSpec.ofChange fnDigestsSpec)

/-- ITS FALSE NEIGHBOUR: 'it returns false'. Refute it at one input. -/
def fnDigestsWrong : ChangeSpec := { name := "fnDigests", vars := ["loop.example/g00877/impl.firstNumbers"], fn := fun _ => fun
  | [d1, d2, g1] => { results := [.lit (.bool false)], args := [d1, d2], vars := [g1] }
  | _ => none }
def FnDigestsWrongFalsely : Prop := fnDigestsRow.holds Tryd.pinned (OpenSpec.ofChange fnDigestsWrong)

/- THE SECOND FORM. 'bulk': how many values and letters a reading holds, each counted each time it is reached (what is shared counts as often as it is met; a slice's spare places count too). A statement '..UptoSaid' is the law's where the arguments, and the package variables that the reading takes, are together of bulk at most 1048576: NARROWER than '..Said'. Prove '..Said' where nothing that the law and all that it calls make is longer than what came in: it says more and counts as full. Else prove '..UptoSaid'. A law counts once. -/
mutual
def uptoBulk {H : Type} : DataW H → Nat
  | .lit (.string bytes) => bytes.length + 1
  | .lit _ => 1
  | .nil => 1
  | .ptr d => uptoBulk d + 1
  | .slice elems spare => uptoBulkAll elems + uptoBulkAll spare + 1
  | .agg parts => uptoBulkAll parts + 1
  | .iface _ d => uptoBulk d + 1
  | .map entries => uptoBulkEntries entries + 1
  | .held _ => 1
def uptoBulkAll {H : Type} : List (DataW H) → Nat
  | [] => 0
  | d :: r => uptoBulk d + uptoBulkAll r
def uptoBulkEntries {H : Type} : List (Lit × DataW H) → Nat
  | [] => 0
  | x :: r => uptoBulkEntry x + uptoBulkEntries r
def uptoBulkEntry {H : Type} : Lit × DataW H → Nat
  | (.string bytes, d) => bytes.length + uptoBulk d + 1
  | (_, d) => uptoBulk d + 1
 end
def uptoSmall : (H : Type) → List (DataW H) → Bool := fun _ ds => decide (uptoBulkAll ds ≤ 1048576)
def OpenSpec.upto (s : _root_.Go.ChangeSpec) : _root_.Go.OpenSpec := { _root_.Go.OpenSpec.ofChange s with cond := some uptoSmall }

/-- 'laws.FnStreams', WHERE WHAT IT READS IS OF BULK AT MOST 1048576: true; the input reads as it did. -/
def fnStreamsUptoRow : OpenClaim := { program := "ytjalpankapakkaadoor", sum := "18de46946221483d2c5359baaaae408a2198c89d41d289c30c3178513b02cc95", func := "loop.example/g00877/laws.FnStreams", spec := "fnStreams", unfollowed := true, recurses := true, named := ["loop.example/g00877/impl.firstNumbers"], apart := false, laid := [("loop.example/g00877/impl.firstNumbers", laid_loop_example_g00877_impl_firstNumbers)], narrowed := true }
def FnStreamsUptoSaid : Prop := fnStreamsUptoRow.holds Tryd.pinned (OpenSpec.upto fnStreamsSpec)

/-- 'laws.FnDigests', WHERE WHAT IT READS IS OF BULK AT MOST 1048576: true; the input reads as it did. -/
def fnDigestsUptoRow : OpenClaim := { program := "ytjalpankapakkaadoor", sum := "18de46946221483d2c5359baaaae408a2198c89d41d289c30c3178513b02cc95", func := "loop.example/g00877/laws.FnDigests", spec := "fnDigests", unfollowed := true, recurses := true, named := ["loop.example/g00877/impl.firstNumbers"], apart := false, laid := [("loop.example/g00877/impl.firstNumbers", laid_loop_example_g00877_impl_firstNumbers)], narrowed := true }
def FnDigestsUptoSaid : Prop := fnDigestsUptoRow.holds Tryd.pinned (OpenSpec.upto fnDigestsSpec)

end Rows
end Go.Proofs.YtjalpankapakkaaDoor
