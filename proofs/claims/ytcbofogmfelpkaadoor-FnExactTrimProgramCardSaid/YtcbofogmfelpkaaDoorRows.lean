/-
  NARROWER THAN 'FOR EVERY INPUT', by the rows' own cells (each row's printed sentence says how): FnExactIsProgram: laid · FnExactWidthOfName: laid · FnExactInputWidths: laid · FnExactOutWidths: laid · FnExactValuesIn: laid · FnExactRunProgram: laid · FnExactNeededNames: laid · FnExactTrimProgram: laid · FnExactCountOps: laid.
  DERIVED. THE GIVEN ROWS OF THIS SEAT. 9 by the template 'for every input the law returns true; each argument reads behind the call as it read before'; 0 by the template 'total and deterministic' (their statements: YtcbofogmfelpkaaDoorTotals.lean).
  GIVEN WITH THE SEED: the statements are not yours to turn. If you find one false, say at which input.
  Laid BY PROGRAM, IN A SANDBOX (cutbox-rows.mjs): the forced cells as the released guide's own fill.sh prints them over the translation 5156fa1504649366… (all of the seat's roots in one cut). By AI agents, Wed Nov 11 2026. No macro, syntax, notation, axiom, sorry.
-/
import Derived.Test.YtcbofogmfelpkaaDoorChecked
import GoSem.PinnedTables
import GoSem.Claim
import GoSem.ClaimJoined
import GoSem.ClaimMapViews
import Derived.JoinedTies
import Derived.KernelRfl
namespace Go.Proofs.YtcbofogmfelpkaaDoor
/- THE CELL 'sum', in the pinned program and in every row, IS THE sha256 OF THE DUMP (.gsa) THAT YtcbofogmfelpkaaDoorProg.lean LOADS. Nothing in Lean hashes anything: it is a label: what it is worth is what the hold of that sum in a sandbox is worth. -/
noncomputable def Tryd.pinned : Pinned := { name := "ytcbofogmfelpkaadoor", sum := "5156fa1504649366972f77bac1c00bc4af839564b103898e49f496272ebaf10d", checked := Tryd.checked }
namespace Rows
def none {H : Type} : Left H := { results := [], args := [] }

/- WHAT THE LISTED PACKAGE-LEVEL VARIABLES READ AS WHEN THE CALL BEGINS. Each datum BY PROGRAM (the guide's laid-datum.mjs) off the statement by which the dump's own 'gosem.cut.vars' lays the variable. In a bare row this is a premise. The card (YtcbofogmfelpkaaDoorCards.lean) ties it to the program's text. -/
def laid_unicode_utf8_acceptRanges {H : Type} : DataW H := .agg [.agg [.lit (.int .u8 128), .lit (.int .u8 191)], .agg [.lit (.int .u8 160), .lit (.int .u8 191)], .agg [.lit (.int .u8 128), .lit (.int .u8 159)], .agg [.lit (.int .u8 144), .lit (.int .u8 191)], .agg [.lit (.int .u8 128), .lit (.int .u8 143)], .agg [.lit (.int .u8 0), .lit (.int .u8 0)], .agg [.lit (.int .u8 0), .lit (.int .u8 0)], .agg [.lit (.int .u8 0), .lit (.int .u8 0)], .agg [.lit (.int .u8 0), .lit (.int .u8 0)], .agg [.lit (.int .u8 0), .lit (.int .u8 0)], .agg [.lit (.int .u8 0), .lit (.int .u8 0)], .agg [.lit (.int .u8 0), .lit (.int .u8 0)], .agg [.lit (.int .u8 0), .lit (.int .u8 0)], .agg [.lit (.int .u8 0), .lit (.int .u8 0)], .agg [.lit (.int .u8 0), .lit (.int .u8 0)], .agg [.lit (.int .u8 0), .lit (.int .u8 0)]]
def laid_loop_example_g00877_impl_opWords {H : Type} : DataW H := .agg [.lit (.string [43]), .lit (.string [45]), .lit (.string [42]), .lit (.string [60]), .lit (.string [61]), .lit (.string [38]), .lit (.string [124]), .lit (.string [94])]
def laid_loop_example_g00877_impl_lineForms {H : Type} : DataW H := .agg [.agg [.lit (.string []), .lit (.int .i64 0), .lit (.int .i64 0)], .agg [.lit (.string [105, 110, 112, 117, 116]), .lit (.int .i64 4), .lit (.int .i64 0)], .agg [.lit (.string [99, 111, 110, 115, 116]), .lit (.int .i64 4), .lit (.int .i64 0)], .agg [.lit (.string [108, 101, 116]), .lit (.int .i64 5), .lit (.int .i64 2)], .agg [.lit (.string [110, 111, 116]), .lit (.int .i64 3), .lit (.int .i64 1)], .agg [.lit (.string [112, 105, 99, 107]), .lit (.int .i64 5), .lit (.int .i64 3)], .agg [.lit (.string [111, 117, 116]), .lit (.int .i64 2), .lit (.int .i64 1)]]
/-- One of Go's own tables, pinned by name: the form's constant. -/
def laid_unicode_utf8_first : DataW Unit := Go.Pinned.utf8First

/-- 'laws.FnExactIsProgram': WHATEVER THE INPUT: true; the input reads as it did. -/
def fnExactIsProgramSpec : ChangeSpec := { name := "fnExactIsProgram", vars := ["loop.example/g00877/impl.lineForms", "loop.example/g00877/impl.opWords"], fn := fun _ => fun
  | [d, g1, g2] => { results := [.lit (.bool true)], args := [d], vars := [g1, g2] }
  | _ => none }
def fnExactIsProgramRow : OpenClaim := { program := "ytcbofogmfelpkaadoor", sum := "5156fa1504649366972f77bac1c00bc4af839564b103898e49f496272ebaf10d", func := "loop.example/g00877/laws.FnExactIsProgram", spec := "fnExactIsProgram", inPlace := ["internal/bytealg.IndexByteString", "internal/bytealg.IndexString"], unfollowed := true, recurses := true, named := ["loop.example/g00877/impl.lineForms", "unicode/utf8.first", "unicode/utf8.acceptRanges", "loop.example/g00877/impl.opWords", "internal/bytealg.MaxLen"], apart := false, laid := [("unicode/utf8.acceptRanges", laid_unicode_utf8_acceptRanges), ("loop.example/g00877/impl.opWords", laid_loop_example_g00877_impl_opWords), ("loop.example/g00877/impl.lineForms", laid_loop_example_g00877_impl_lineForms), ("unicode/utf8.first", laid_unicode_utf8_first)] }
def FnExactIsProgramSaid : Prop := fnExactIsProgramRow.holds Tryd.pinned (OpenSpec.ofChange fnExactIsProgramSpec)

/-- ITS FALSE NEIGHBOUR: 'it returns false'. Refute it at one input. -/
def fnExactIsProgramWrong : ChangeSpec := { name := "fnExactIsProgram", vars := ["loop.example/g00877/impl.lineForms", "loop.example/g00877/impl.opWords"], fn := fun _ => fun
  | [d, g1, g2] => { results := [.lit (.bool false)], args := [d], vars := [g1, g2] }
  | _ => none }
def FnExactIsProgramWrongFalsely : Prop := fnExactIsProgramRow.holds Tryd.pinned (OpenSpec.ofChange fnExactIsProgramWrong)

/-- 'laws.FnExactWidthOfName': WHATEVER THE INPUT: true; the input reads as it did. -/
def fnExactWidthOfNameSpec : ChangeSpec := { name := "fnExactWidthOfName", vars := ["loop.example/g00877/impl.lineForms", "loop.example/g00877/impl.opWords"], fn := fun _ => fun
  | [d1, d2, g1, g2] => { results := [.lit (.bool true)], args := [d1, d2], vars := [g1, g2] }
  | _ => none }
def fnExactWidthOfNameRow : OpenClaim := { program := "ytcbofogmfelpkaadoor", sum := "5156fa1504649366972f77bac1c00bc4af839564b103898e49f496272ebaf10d", func := "loop.example/g00877/laws.FnExactWidthOfName", spec := "fnExactWidthOfName", inPlace := ["internal/bytealg.IndexByteString", "internal/bytealg.IndexString"], unfollowed := true, recurses := true, named := ["loop.example/g00877/impl.lineForms", "unicode/utf8.first", "unicode/utf8.acceptRanges", "loop.example/g00877/impl.opWords", "internal/bytealg.MaxLen"], apart := false, laid := [("unicode/utf8.acceptRanges", laid_unicode_utf8_acceptRanges), ("loop.example/g00877/impl.opWords", laid_loop_example_g00877_impl_opWords), ("loop.example/g00877/impl.lineForms", laid_loop_example_g00877_impl_lineForms), ("unicode/utf8.first", laid_unicode_utf8_first)] }
def FnExactWidthOfNameSaid : Prop := fnExactWidthOfNameRow.holds Tryd.pinned (OpenSpec.ofChange fnExactWidthOfNameSpec)

/-- ITS FALSE NEIGHBOUR: 'it returns false'. Refute it at one input. -/
def fnExactWidthOfNameWrong : ChangeSpec := { name := "fnExactWidthOfName", vars := ["loop.example/g00877/impl.lineForms", "loop.example/g00877/impl.opWords"], fn := fun _ => fun
  | [d1, d2, g1, g2] => { results := [.lit (.bool false)], args := [d1, d2], vars := [g1, g2] }
  | _ => none }
def FnExactWidthOfNameWrongFalsely : Prop := fnExactWidthOfNameRow.holds Tryd.pinned (OpenSpec.ofChange fnExactWidthOfNameWrong)

/-- 'laws.FnExactInputWidths': WHATEVER THE INPUT: true; the input reads as it did. -/
def fnExactInputWidthsSpec : ChangeSpec := { name := "fnExactInputWidths", vars := ["loop.example/g00877/impl.lineForms", "loop.example/g00877/impl.opWords"], fn := fun _ => fun
  | [d1, d2, g1, g2] => { results := [.lit (.bool true)], args := [d1, d2], vars := [g1, g2] }
  | _ => none }
def fnExactInputWidthsRow : OpenClaim := { program := "ytcbofogmfelpkaadoor", sum := "5156fa1504649366972f77bac1c00bc4af839564b103898e49f496272ebaf10d", func := "loop.example/g00877/laws.FnExactInputWidths", spec := "fnExactInputWidths", inPlace := ["internal/bytealg.IndexByteString", "internal/bytealg.IndexString"], unfollowed := true, recurses := true, named := ["loop.example/g00877/impl.lineForms", "unicode/utf8.first", "unicode/utf8.acceptRanges", "loop.example/g00877/impl.opWords", "internal/bytealg.MaxLen"], apart := false, laid := [("unicode/utf8.acceptRanges", laid_unicode_utf8_acceptRanges), ("loop.example/g00877/impl.opWords", laid_loop_example_g00877_impl_opWords), ("loop.example/g00877/impl.lineForms", laid_loop_example_g00877_impl_lineForms), ("unicode/utf8.first", laid_unicode_utf8_first)] }
def FnExactInputWidthsSaid : Prop := fnExactInputWidthsRow.holds Tryd.pinned (OpenSpec.ofChange fnExactInputWidthsSpec)

/-- ITS FALSE NEIGHBOUR: 'it returns false'. Refute it at one input. -/
def fnExactInputWidthsWrong : ChangeSpec := { name := "fnExactInputWidths", vars := ["loop.example/g00877/impl.lineForms", "loop.example/g00877/impl.opWords"], fn := fun _ => fun
  | [d1, d2, g1, g2] => { results := [.lit (.bool false)], args := [d1, d2], vars := [g1, g2] }
  | _ => none }
def FnExactInputWidthsWrongFalsely : Prop := fnExactInputWidthsRow.holds Tryd.pinned (OpenSpec.ofChange fnExactInputWidthsWrong)

/-- 'laws.FnExactOutWidths': WHATEVER THE INPUT: true; the input reads as it did. -/
def fnExactOutWidthsSpec : ChangeSpec := { name := "fnExactOutWidths", vars := ["loop.example/g00877/impl.lineForms", "loop.example/g00877/impl.opWords"], fn := fun _ => fun
  | [d, g1, g2] => { results := [.lit (.bool true)], args := [d], vars := [g1, g2] }
  | _ => none }
def fnExactOutWidthsRow : OpenClaim := { program := "ytcbofogmfelpkaadoor", sum := "5156fa1504649366972f77bac1c00bc4af839564b103898e49f496272ebaf10d", func := "loop.example/g00877/laws.FnExactOutWidths", spec := "fnExactOutWidths", inPlace := ["internal/bytealg.IndexByteString", "internal/bytealg.IndexString"], unfollowed := true, recurses := true, named := ["loop.example/g00877/impl.lineForms", "unicode/utf8.first", "unicode/utf8.acceptRanges", "loop.example/g00877/impl.opWords", "internal/bytealg.MaxLen"], apart := false, laid := [("unicode/utf8.acceptRanges", laid_unicode_utf8_acceptRanges), ("loop.example/g00877/impl.opWords", laid_loop_example_g00877_impl_opWords), ("loop.example/g00877/impl.lineForms", laid_loop_example_g00877_impl_lineForms), ("unicode/utf8.first", laid_unicode_utf8_first)] }
def FnExactOutWidthsSaid : Prop := fnExactOutWidthsRow.holds Tryd.pinned (OpenSpec.ofChange fnExactOutWidthsSpec)

/-- ITS FALSE NEIGHBOUR: 'it returns false'. Refute it at one input. -/
def fnExactOutWidthsWrong : ChangeSpec := { name := "fnExactOutWidths", vars := ["loop.example/g00877/impl.lineForms", "loop.example/g00877/impl.opWords"], fn := fun _ => fun
  | [d, g1, g2] => { results := [.lit (.bool false)], args := [d], vars := [g1, g2] }
  | _ => none }
def FnExactOutWidthsWrongFalsely : Prop := fnExactOutWidthsRow.holds Tryd.pinned (OpenSpec.ofChange fnExactOutWidthsWrong)

/-- 'laws.FnExactValuesIn': WHATEVER THE INPUT: true; the input reads as it did. -/
def fnExactValuesInSpec : ChangeSpec := { name := "fnExactValuesIn", vars := ["loop.example/g00877/impl.lineForms", "loop.example/g00877/impl.opWords"], fn := fun _ => fun
  | [d1, d2, d3, g1, g2] => { results := [.lit (.bool true)], args := [d1, d2, d3], vars := [g1, g2] }
  | _ => none }
def fnExactValuesInRow : OpenClaim := { program := "ytcbofogmfelpkaadoor", sum := "5156fa1504649366972f77bac1c00bc4af839564b103898e49f496272ebaf10d", func := "loop.example/g00877/laws.FnExactValuesIn", spec := "fnExactValuesIn", inPlace := ["internal/bytealg.IndexByteString", "internal/bytealg.IndexString"], unfollowed := true, recurses := true, named := ["loop.example/g00877/impl.lineForms", "unicode/utf8.first", "unicode/utf8.acceptRanges", "loop.example/g00877/impl.opWords", "internal/bytealg.MaxLen"], apart := false, laid := [("unicode/utf8.acceptRanges", laid_unicode_utf8_acceptRanges), ("loop.example/g00877/impl.opWords", laid_loop_example_g00877_impl_opWords), ("loop.example/g00877/impl.lineForms", laid_loop_example_g00877_impl_lineForms), ("unicode/utf8.first", laid_unicode_utf8_first)] }
def FnExactValuesInSaid : Prop := fnExactValuesInRow.holds Tryd.pinned (OpenSpec.ofChange fnExactValuesInSpec)

/-- ITS FALSE NEIGHBOUR: 'it returns false'. Refute it at one input. -/
def fnExactValuesInWrong : ChangeSpec := { name := "fnExactValuesIn", vars := ["loop.example/g00877/impl.lineForms", "loop.example/g00877/impl.opWords"], fn := fun _ => fun
  | [d1, d2, d3, g1, g2] => { results := [.lit (.bool false)], args := [d1, d2, d3], vars := [g1, g2] }
  | _ => none }
def FnExactValuesInWrongFalsely : Prop := fnExactValuesInRow.holds Tryd.pinned (OpenSpec.ofChange fnExactValuesInWrong)

/-- 'laws.FnExactRunProgram': WHATEVER THE INPUT: true; the input reads as it did. -/
def fnExactRunProgramSpec : ChangeSpec := { name := "fnExactRunProgram", vars := ["loop.example/g00877/impl.lineForms", "loop.example/g00877/impl.opWords"], fn := fun _ => fun
  | [d1, d2, d3, g1, g2] => { results := [.lit (.bool true)], args := [d1, d2, d3], vars := [g1, g2] }
  | _ => none }
def fnExactRunProgramRow : OpenClaim := { program := "ytcbofogmfelpkaadoor", sum := "5156fa1504649366972f77bac1c00bc4af839564b103898e49f496272ebaf10d", func := "loop.example/g00877/laws.FnExactRunProgram", spec := "fnExactRunProgram", inPlace := ["internal/bytealg.IndexByteString", "internal/bytealg.IndexString"], unfollowed := true, recurses := true, named := ["loop.example/g00877/impl.lineForms", "unicode/utf8.first", "unicode/utf8.acceptRanges", "loop.example/g00877/impl.opWords", "internal/bytealg.MaxLen"], apart := false, laid := [("unicode/utf8.acceptRanges", laid_unicode_utf8_acceptRanges), ("loop.example/g00877/impl.opWords", laid_loop_example_g00877_impl_opWords), ("loop.example/g00877/impl.lineForms", laid_loop_example_g00877_impl_lineForms), ("unicode/utf8.first", laid_unicode_utf8_first)] }
def FnExactRunProgramSaid : Prop := fnExactRunProgramRow.holds Tryd.pinned (OpenSpec.ofChange fnExactRunProgramSpec)

/-- ITS FALSE NEIGHBOUR: 'it returns false'. Refute it at one input. -/
def fnExactRunProgramWrong : ChangeSpec := { name := "fnExactRunProgram", vars := ["loop.example/g00877/impl.lineForms", "loop.example/g00877/impl.opWords"], fn := fun _ => fun
  | [d1, d2, d3, g1, g2] => { results := [.lit (.bool false)], args := [d1, d2, d3], vars := [g1, g2] }
  | _ => none }
def FnExactRunProgramWrongFalsely : Prop := fnExactRunProgramRow.holds Tryd.pinned (OpenSpec.ofChange fnExactRunProgramWrong)

/-- 'laws.FnExactNeededNames': WHATEVER THE INPUT: true; the input reads as it did. -/
def fnExactNeededNamesSpec : ChangeSpec := { name := "fnExactNeededNames", vars := ["loop.example/g00877/impl.lineForms", "loop.example/g00877/impl.opWords"], fn := fun _ => fun
  | [d, g1, g2] => { results := [.lit (.bool true)], args := [d], vars := [g1, g2] }
  | _ => none }
def fnExactNeededNamesRow : OpenClaim := { program := "ytcbofogmfelpkaadoor", sum := "5156fa1504649366972f77bac1c00bc4af839564b103898e49f496272ebaf10d", func := "loop.example/g00877/laws.FnExactNeededNames", spec := "fnExactNeededNames", inPlace := ["internal/bytealg.IndexByteString", "internal/bytealg.IndexString"], unfollowed := true, recurses := true, named := ["loop.example/g00877/impl.lineForms", "unicode/utf8.first", "unicode/utf8.acceptRanges", "loop.example/g00877/impl.opWords", "internal/bytealg.MaxLen"], apart := false, laid := [("unicode/utf8.acceptRanges", laid_unicode_utf8_acceptRanges), ("loop.example/g00877/impl.opWords", laid_loop_example_g00877_impl_opWords), ("loop.example/g00877/impl.lineForms", laid_loop_example_g00877_impl_lineForms), ("unicode/utf8.first", laid_unicode_utf8_first)] }
def FnExactNeededNamesSaid : Prop := fnExactNeededNamesRow.holds Tryd.pinned (OpenSpec.ofChange fnExactNeededNamesSpec)

/-- ITS FALSE NEIGHBOUR: 'it returns false'. Refute it at one input. -/
def fnExactNeededNamesWrong : ChangeSpec := { name := "fnExactNeededNames", vars := ["loop.example/g00877/impl.lineForms", "loop.example/g00877/impl.opWords"], fn := fun _ => fun
  | [d, g1, g2] => { results := [.lit (.bool false)], args := [d], vars := [g1, g2] }
  | _ => none }
def FnExactNeededNamesWrongFalsely : Prop := fnExactNeededNamesRow.holds Tryd.pinned (OpenSpec.ofChange fnExactNeededNamesWrong)

/-- 'laws.FnExactTrimProgram': WHATEVER THE INPUT: true; the input reads as it did. -/
def fnExactTrimProgramSpec : ChangeSpec := { name := "fnExactTrimProgram", vars := ["loop.example/g00877/impl.lineForms", "loop.example/g00877/impl.opWords"], fn := fun _ => fun
  | [d, g1, g2] => { results := [.lit (.bool true)], args := [d], vars := [g1, g2] }
  | _ => none }
def fnExactTrimProgramRow : OpenClaim := { program := "ytcbofogmfelpkaadoor", sum := "5156fa1504649366972f77bac1c00bc4af839564b103898e49f496272ebaf10d", func := "loop.example/g00877/laws.FnExactTrimProgram", spec := "fnExactTrimProgram", inPlace := ["internal/bytealg.IndexByteString", "internal/bytealg.IndexString"], unfollowed := true, recurses := true, named := ["loop.example/g00877/impl.lineForms", "unicode/utf8.first", "unicode/utf8.acceptRanges", "loop.example/g00877/impl.opWords", "internal/bytealg.MaxLen"], apart := false, laid := [("unicode/utf8.acceptRanges", laid_unicode_utf8_acceptRanges), ("loop.example/g00877/impl.opWords", laid_loop_example_g00877_impl_opWords), ("loop.example/g00877/impl.lineForms", laid_loop_example_g00877_impl_lineForms), ("unicode/utf8.first", laid_unicode_utf8_first)] }
def FnExactTrimProgramSaid : Prop := fnExactTrimProgramRow.holds Tryd.pinned (OpenSpec.ofChange fnExactTrimProgramSpec)

/-- ITS FALSE NEIGHBOUR: 'it returns false'. Refute it at one input. -/
def fnExactTrimProgramWrong : ChangeSpec := { name := "fnExactTrimProgram", vars := ["loop.example/g00877/impl.lineForms", "loop.example/g00877/impl.opWords"], fn := fun _ => fun
  | [d, g1, g2] => { results := [.lit (.bool false)], args := [d], vars := [g1, g2] }
  | _ => none }
def FnExactTrimProgramWrongFalsely : Prop := fnExactTrimProgramRow.holds Tryd.pinned (OpenSpec.ofChange fnExactTrimProgramWrong)

/-- 'laws.FnExactCountOps': WHATEVER THE INPUT: true; the input reads as it did. -/
def fnExactCountOpsSpec : ChangeSpec := { name := "fnExactCountOps", vars := ["loop.example/g00877/impl.lineForms", "loop.example/g00877/impl.opWords"], fn := fun _ => fun
  | [d, g1, g2] => { results := [.lit (.bool true)], args := [d], vars := [g1, g2] }
  | _ => none }
def fnExactCountOpsRow : OpenClaim := { program := "ytcbofogmfelpkaadoor", sum := "5156fa1504649366972f77bac1c00bc4af839564b103898e49f496272ebaf10d", func := "loop.example/g00877/laws.FnExactCountOps", spec := "fnExactCountOps", inPlace := ["internal/bytealg.IndexByteString", "internal/bytealg.IndexString"], unfollowed := true, recurses := true, named := ["loop.example/g00877/impl.lineForms", "unicode/utf8.first", "unicode/utf8.acceptRanges", "loop.example/g00877/impl.opWords", "internal/bytealg.MaxLen"], apart := false, laid := [("unicode/utf8.acceptRanges", laid_unicode_utf8_acceptRanges), ("loop.example/g00877/impl.opWords", laid_loop_example_g00877_impl_opWords), ("loop.example/g00877/impl.lineForms", laid_loop_example_g00877_impl_lineForms), ("unicode/utf8.first", laid_unicode_utf8_first)] }
def FnExactCountOpsSaid : Prop := fnExactCountOpsRow.holds Tryd.pinned (OpenSpec.ofChange fnExactCountOpsSpec)

/-- ITS FALSE NEIGHBOUR: 'it returns false'. Refute it at one input. -/
def fnExactCountOpsWrong : ChangeSpec := { name := "fnExactCountOps", vars := ["loop.example/g00877/impl.lineForms", "loop.example/g00877/impl.opWords"], fn := fun _ => fun
  | [d, g1, g2] => { results := [.lit (.bool false)], args := [d], vars := [g1, g2] }
  | _ => none }
def FnExactCountOpsWrongFalsely : Prop := fnExactCountOpsRow.holds Tryd.pinned (OpenSpec.ofChange fnExactCountOpsWrong)

/- THE SECOND FORM. 'bulk': how many values and letters a reading holds, each counted each time it is reached (what is shared counts as often as it is met; a slice's spare places count too). A statement '..UptoSaid' is the law's where the arguments, and the package variables that the reading takes, are together of bulk at most 1048576: NARROWER than '..Said'. Prove '..Said' where nothing that the law and all that it calls make is longer than what came in: it says more and counts as full. Else prove '..UptoSaid'. A law counts once. -/
mutual
def uptoBulk {H : Type} : DataW H → Nat
  | .lit (.string bytes) => bytes.length + 1
  | .lit _ => 1
  | .nil => 1
  | .ptr d => uptoBulk d + 1
  | .slice elems spare => uptoBulkAll elems + uptoBulkAll spare + 1
  | .agg parts => uptoBulkAll parts + 1
  | .iface _ d => uptoBulk d + 1
  | .map entries => uptoBulkEntries entries + 1
  | .held _ => 1
def uptoBulkAll {H : Type} : List (DataW H) → Nat
  | [] => 0
  | d :: r => uptoBulk d + uptoBulkAll r
def uptoBulkEntries {H : Type} : List (Lit × DataW H) → Nat
  | [] => 0
  | x :: r => uptoBulkEntry x + uptoBulkEntries r
def uptoBulkEntry {H : Type} : Lit × DataW H → Nat
  | (.string bytes, d) => bytes.length + uptoBulk d + 1
  | (_, d) => uptoBulk d + 1
 end
def uptoSmall : (H : Type) → List (DataW H) → Bool := fun _ ds => decide (uptoBulkAll ds ≤ 1048576)
def OpenSpec.upto (s : _root_.Go.ChangeSpec) : _root_.Go.OpenSpec := { _root_.Go.OpenSpec.ofChange s with cond := some uptoSmall }

/-- 'laws.FnExactIsProgram', WHERE WHAT IT READS IS OF BULK AT MOST 1048576: true; the input reads as it did. -/
def fnExactIsProgramUptoRow : OpenClaim := { program := "ytcbofogmfelpkaadoor", sum := "5156fa1504649366972f77bac1c00bc4af839564b103898e49f496272ebaf10d", func := "loop.example/g00877/laws.FnExactIsProgram", spec := "fnExactIsProgram", inPlace := ["internal/bytealg.IndexByteString", "internal/bytealg.IndexString"], unfollowed := true, recurses := true, named := ["loop.example/g00877/impl.lineForms", "unicode/utf8.first", "unicode/utf8.acceptRanges", "loop.example/g00877/impl.opWords", "internal/bytealg.MaxLen"], apart := false, laid := [("unicode/utf8.acceptRanges", laid_unicode_utf8_acceptRanges), ("loop.example/g00877/impl.opWords", laid_loop_example_g00877_impl_opWords), ("loop.example/g00877/impl.lineForms", laid_loop_example_g00877_impl_lineForms), ("unicode/utf8.first", laid_unicode_utf8_first)], narrowed := true }
def FnExactIsProgramUptoSaid : Prop := fnExactIsProgramUptoRow.holds Tryd.pinned (OpenSpec.upto fnExactIsProgramSpec)

/-- 'laws.FnExactWidthOfName', WHERE WHAT IT READS IS OF BULK AT MOST 1048576: true; the input reads as it did. -/
def fnExactWidthOfNameUptoRow : OpenClaim := { program := "ytcbofogmfelpkaadoor", sum := "5156fa1504649366972f77bac1c00bc4af839564b103898e49f496272ebaf10d", func := "loop.example/g00877/laws.FnExactWidthOfName", spec := "fnExactWidthOfName", inPlace := ["internal/bytealg.IndexByteString", "internal/bytealg.IndexString"], unfollowed := true, recurses := true, named := ["loop.example/g00877/impl.lineForms", "unicode/utf8.first", "unicode/utf8.acceptRanges", "loop.example/g00877/impl.opWords", "internal/bytealg.MaxLen"], apart := false, laid := [("unicode/utf8.acceptRanges", laid_unicode_utf8_acceptRanges), ("loop.example/g00877/impl.opWords", laid_loop_example_g00877_impl_opWords), ("loop.example/g00877/impl.lineForms", laid_loop_example_g00877_impl_lineForms), ("unicode/utf8.first", laid_unicode_utf8_first)], narrowed := true }
def FnExactWidthOfNameUptoSaid : Prop := fnExactWidthOfNameUptoRow.holds Tryd.pinned (OpenSpec.upto fnExactWidthOfNameSpec)

/-- 'laws.FnExactInputWidths', WHERE WHAT IT READS IS OF BULK AT MOST 1048576: true; the input reads as it did. -/
def fnExactInputWidthsUptoRow : OpenClaim := { program := "ytcbofogmfelpkaadoor", sum := "5156fa1504649366972f77bac1c00bc4af839564b103898e49f496272ebaf10d", func := "loop.example/g00877/laws.FnExactInputWidths", spec := "fnExactInputWidths", inPlace := ["internal/bytealg.IndexByteString", "internal/bytealg.IndexString"], unfollowed := true, recurses := true, named := ["loop.example/g00877/impl.lineForms", "unicode/utf8.first", "unicode/utf8.acceptRanges", "loop.example/g00877/impl.opWords", "internal/bytealg.MaxLen"], apart := false, laid := [("unicode/utf8.acceptRanges", laid_unicode_utf8_acceptRanges), ("loop.example/g00877/impl.opWords", laid_loop_example_g00877_impl_opWords), ("loop.example/g00877/impl.lineForms", laid_loop_example_g00877_impl_lineForms), ("unicode/utf8.first", laid_unicode_utf8_first)], narrowed := true }
def FnExactInputWidthsUptoSaid : Prop := fnExactInputWidthsUptoRow.holds Tryd.pinned (OpenSpec.upto fnExactInputWidthsSpec)

/-- 'laws.FnExactOutWidths', WHERE WHAT IT READS IS OF BULK AT MOST 1048576: true; the input reads as it did. -/
def fnExactOutWidthsUptoRow : OpenClaim := { program := "ytcbofogmfelpkaadoor", sum := "5156fa1504649366972f77bac1c00bc4af839564b103898e49f496272ebaf10d", func := "loop.example/g00877/laws.FnExactOutWidths", spec := "fnExactOutWidths", inPlace := ["internal/bytealg.IndexByteString", "internal/bytealg.IndexString"], unfollowed := true, recurses := true, named := ["loop.example/g00877/impl.lineForms", "unicode/utf8.first", "unicode/utf8.acceptRanges", "loop.example/g00877/impl.opWords", "internal/bytealg.MaxLen"], apart := false, laid := [("unicode/utf8.acceptRanges", laid_unicode_utf8_acceptRanges), ("loop.example/g00877/impl.opWords", laid_loop_example_g00877_impl_opWords), ("loop.example/g00877/impl.lineForms", laid_loop_example_g00877_impl_lineForms), ("unicode/utf8.first", laid_unicode_utf8_first)], narrowed := true }
def FnExactOutWidthsUptoSaid : Prop := fnExactOutWidthsUptoRow.holds Tryd.pinned (OpenSpec.upto fnExactOutWidthsSpec)

/-- 'laws.FnExactValuesIn', WHERE WHAT IT READS IS OF BULK AT MOST 1048576: true; the input reads as it did. -/
def fnExactValuesInUptoRow : OpenClaim := { program := "ytcbofogmfelpkaadoor", sum := "5156fa1504649366972f77bac1c00bc4af839564b103898e49f496272ebaf10d", func := "loop.example/g00877/laws.FnExactValuesIn", spec := "fnExactValuesIn", inPlace := ["internal/bytealg.IndexByteString", "internal/bytealg.IndexString"], unfollowed := true, recurses := true, named := ["loop.example/g00877/impl.lineForms", "unicode/utf8.first", "unicode/utf8.acceptRanges", "loop.example/g00877/impl.opWords", "internal/bytealg.MaxLen"], apart := false, laid := [("unicode/utf8.acceptRanges", laid_unicode_utf8_acceptRanges), ("loop.example/g00877/impl.opWords", laid_loop_example_g00877_impl_opWords), ("loop.example/g00877/impl.lineForms", laid_loop_example_g00877_impl_lineForms), ("unicode/utf8.first", laid_unicode_utf8_first)], narrowed := true }
def FnExactValuesInUptoSaid : Prop := fnExactValuesInUptoRow.holds Tryd.pinned (OpenSpec.upto fnExactValuesInSpec)

/-- 'laws.FnExactRunProgram', WHERE WHAT IT READS IS OF BULK AT MOST 1048576: true; the input reads as it did. -/
def fnExactRunProgramUptoRow : OpenClaim := { program := "ytcbofogmfelpkaadoor", sum := "5156fa1504649366972f77bac1c00bc4af839564b103898e49f496272ebaf10d", func := "loop.example/g00877/laws.FnExactRunProgram", spec := "fnExactRunProgram", inPlace := ["internal/bytealg.IndexByteString", "internal/bytealg.IndexString"], unfollowed := true, recurses := true, named := ["loop.example/g00877/impl.lineForms", "unicode/utf8.first", "unicode/utf8.acceptRanges", "loop.example/g00877/impl.opWords", "internal/bytealg.MaxLen"], apart := false, laid := [("unicode/utf8.acceptRanges", laid_unicode_utf8_acceptRanges), ("loop.example/g00877/impl.opWords", laid_loop_example_g00877_impl_opWords), ("loop.example/g00877/impl.lineForms", laid_loop_example_g00877_impl_lineForms), ("unicode/utf8.first", laid_unicode_utf8_first)], narrowed := true }
def FnExactRunProgramUptoSaid : Prop := fnExactRunProgramUptoRow.holds Tryd.pinned (OpenSpec.upto fnExactRunProgramSpec)

/-- 'laws.FnExactNeededNames', WHERE WHAT IT READS IS OF BULK AT MOST 1048576: true; the input reads as it did. -/
def fnExactNeededNamesUptoRow : OpenClaim := { program := "ytcbofogmfelpkaadoor", sum := "5156fa1504649366972f77bac1c00bc4af839564b103898e49f496272ebaf10d", func := "loop.example/g00877/laws.FnExactNeededNames", spec := "fnExactNeededNames", inPlace := ["internal/bytealg.IndexByteString", "internal/bytealg.IndexString"], unfollowed := true, recurses := true, named := ["loop.example/g00877/impl.lineForms", "unicode/utf8.first", "unicode/utf8.acceptRanges", "loop.example/g00877/impl.opWords", "internal/bytealg.MaxLen"], apart := false, laid := [("unicode/utf8.acceptRanges", laid_unicode_utf8_acceptRanges), ("loop.example/g00877/impl.opWords", laid_loop_example_g00877_impl_opWords), ("loop.example/g00877/impl.lineForms", laid_loop_example_g00877_impl_lineForms), ("unicode/utf8.first", laid_unicode_utf8_first)], narrowed := true }
def FnExactNeededNamesUptoSaid : Prop := fnExactNeededNamesUptoRow.holds Tryd.pinned (OpenSpec.upto fnExactNeededNamesSpec)

/-- 'laws.FnExactTrimProgram', WHERE WHAT IT READS IS OF BULK AT MOST 1048576: true; the input reads as it did. -/
def fnExactTrimProgramUptoRow : OpenClaim := { program := "ytcbofogmfelpkaadoor", sum := "5156fa1504649366972f77bac1c00bc4af839564b103898e49f496272ebaf10d", func := "loop.example/g00877/laws.FnExactTrimProgram", spec := "fnExactTrimProgram", inPlace := ["internal/bytealg.IndexByteString", "internal/bytealg.IndexString"], unfollowed := true, recurses := true, named := ["loop.example/g00877/impl.lineForms", "unicode/utf8.first", "unicode/utf8.acceptRanges", "loop.example/g00877/impl.opWords", "internal/bytealg.MaxLen"], apart := false, laid := [("unicode/utf8.acceptRanges", laid_unicode_utf8_acceptRanges), ("loop.example/g00877/impl.opWords", laid_loop_example_g00877_impl_opWords), ("loop.example/g00877/impl.lineForms", laid_loop_example_g00877_impl_lineForms), ("unicode/utf8.first", laid_unicode_utf8_first)], narrowed := true }
def FnExactTrimProgramUptoSaid : Prop := fnExactTrimProgramUptoRow.holds Tryd.pinned (OpenSpec.upto fnExactTrimProgramSpec)

/-- 'laws.FnExactCountOps', WHERE WHAT IT READS IS OF BULK AT MOST 1048576: true; the input reads as it did. -/
def fnExactCountOpsUptoRow : OpenClaim := { program := "ytcbofogmfelpkaadoor", sum := "5156fa1504649366972f77bac1c00bc4af839564b103898e49f496272ebaf10d", func := "loop.example/g00877/laws.FnExactCountOps", spec := "fnExactCountOps", inPlace := ["internal/bytealg.IndexByteString", "internal/bytealg.IndexString"], unfollowed := true, recurses := true, named := ["loop.example/g00877/impl.lineForms", "unicode/utf8.first", "unicode/utf8.acceptRanges", "loop.example/g00877/impl.opWords", "internal/bytealg.MaxLen"], apart := false, laid := [("unicode/utf8.acceptRanges", laid_unicode_utf8_acceptRanges), ("loop.example/g00877/impl.opWords", laid_loop_example_g00877_impl_opWords), ("loop.example/g00877/impl.lineForms", laid_loop_example_g00877_impl_lineForms), ("unicode/utf8.first", laid_unicode_utf8_first)], narrowed := true }
def FnExactCountOpsUptoSaid : Prop := fnExactCountOpsUptoRow.holds Tryd.pinned (OpenSpec.upto fnExactCountOpsSpec)

end Rows
end Go.Proofs.YtcbofogmfelpkaaDoor
