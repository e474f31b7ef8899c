/-
  No cell of these rows narrows 'for every input' (looked for: loops, veiled, ifaces, maps, wideKeys, modest, calm, conditions, laid).
  DERIVED. THE GIVEN ROWS OF THIS SEAT. 11 by the template 'for every input the law returns true; each argument reads behind the call as it read before'; 0 by the template 'total and deterministic' (their statements: YtnmjnffnelkciaaTotals.lean).
  GIVEN WITH THE SEED: the statements are not yours to turn. If you find one false, say at which input.
  Laid BY PROGRAM, IN A SANDBOX (cutbox-rows.mjs): the forced cells as the released guide's own fill.sh prints them over the translation f44753673efc7157… (all of the seat's roots in one cut). By AI agents, Wed Nov 11 2026. No macro, syntax, notation, axiom, sorry.
-/
import Derived.Test.YtnmjnffnelkciaaChecked
import GoSem.Claim
import GoSem.ClaimJoined
import GoSem.ClaimMapViews
import Derived.JoinedTies
import Derived.KernelRfl
namespace Go.Proofs.Ytnmjnffnelkciaa
/- THE CELL 'sum', in the pinned program and in every row, IS THE sha256 OF THE DUMP (.gsa) THAT YtnmjnffnelkciaaProg.lean LOADS. Nothing in Lean hashes anything: it is a label: what it is worth is what the hold of that sum in a sandbox is worth. -/
noncomputable def Try.pinned : Pinned := { name := "ytnmjnffnelkciaa", sum := "f44753673efc71578523f90edd8895114bd892ec034ff0978ba4dd256eaa4c58", checked := Try.checked }
namespace Rows
def none {H : Type} : Left H := { results := [], args := [] }

/-- 'laws.FnExactAdderCircuit': WHATEVER THE INPUT: true; the input reads as it did. -/
def fnExactAdderCircuitSpec : ChangeSpec := { name := "fnExactAdderCircuit", fn := fun _ => fun
  | [d] => { results := [.lit (.bool true)], args := [d] }
  | _ => none }
def fnExactAdderCircuitRow : OpenClaim := { program := "ytnmjnffnelkciaa", sum := "f44753673efc71578523f90edd8895114bd892ec034ff0978ba4dd256eaa4c58", func := "loop.example/g00877/laws.FnExactAdderCircuit", spec := "fnExactAdderCircuit", unfollowed := true, recurses := true, apart := false }
def FnExactAdderCircuitSaid : Prop := fnExactAdderCircuitRow.holds Try.pinned (OpenSpec.ofChange fnExactAdderCircuitSpec)

/-- ITS FALSE NEIGHBOUR: 'it returns false'. Refute it at one input. -/
def fnExactAdderCircuitWrong : ChangeSpec := { name := "fnExactAdderCircuit", fn := fun _ => fun
  | [d] => { results := [.lit (.bool false)], args := [d] }
  | _ => none }
def FnExactAdderCircuitWrongFalsely : Prop := fnExactAdderCircuitRow.holds Try.pinned (OpenSpec.ofChange fnExactAdderCircuitWrong)

/-- 'laws.FnExactSubtractCircuit': WHATEVER THE INPUT: true; the input reads as it did. -/
def fnExactSubtractCircuitSpec : ChangeSpec := { name := "fnExactSubtractCircuit", fn := fun _ => fun
  | [d] => { results := [.lit (.bool true)], args := [d] }
  | _ => none }
def fnExactSubtractCircuitRow : OpenClaim := { program := "ytnmjnffnelkciaa", sum := "f44753673efc71578523f90edd8895114bd892ec034ff0978ba4dd256eaa4c58", func := "loop.example/g00877/laws.FnExactSubtractCircuit", spec := "fnExactSubtractCircuit", unfollowed := true, recurses := true, apart := false }
def FnExactSubtractCircuitSaid : Prop := fnExactSubtractCircuitRow.holds Try.pinned (OpenSpec.ofChange fnExactSubtractCircuitSpec)

/-- ITS FALSE NEIGHBOUR: 'it returns false'. Refute it at one input. -/
def fnExactSubtractCircuitWrong : ChangeSpec := { name := "fnExactSubtractCircuit", fn := fun _ => fun
  | [d] => { results := [.lit (.bool false)], args := [d] }
  | _ => none }
def FnExactSubtractCircuitWrongFalsely : Prop := fnExactSubtractCircuitRow.holds Try.pinned (OpenSpec.ofChange fnExactSubtractCircuitWrong)

/-- 'laws.FnExactLessCircuit': WHATEVER THE INPUT: true; the input reads as it did. -/
def fnExactLessCircuitSpec : ChangeSpec := { name := "fnExactLessCircuit", fn := fun _ => fun
  | [d] => { results := [.lit (.bool true)], args := [d] }
  | _ => none }
def fnExactLessCircuitRow : OpenClaim := { program := "ytnmjnffnelkciaa", sum := "f44753673efc71578523f90edd8895114bd892ec034ff0978ba4dd256eaa4c58", func := "loop.example/g00877/laws.FnExactLessCircuit", spec := "fnExactLessCircuit", unfollowed := true, recurses := true, apart := false }
def FnExactLessCircuitSaid : Prop := fnExactLessCircuitRow.holds Try.pinned (OpenSpec.ofChange fnExactLessCircuitSpec)

/-- ITS FALSE NEIGHBOUR: 'it returns false'. Refute it at one input. -/
def fnExactLessCircuitWrong : ChangeSpec := { name := "fnExactLessCircuit", fn := fun _ => fun
  | [d] => { results := [.lit (.bool false)], args := [d] }
  | _ => none }
def FnExactLessCircuitWrongFalsely : Prop := fnExactLessCircuitRow.holds Try.pinned (OpenSpec.ofChange fnExactLessCircuitWrong)

/-- 'laws.FnExactEqualCircuit': WHATEVER THE INPUT: true; the input reads as it did. -/
def fnExactEqualCircuitSpec : ChangeSpec := { name := "fnExactEqualCircuit", fn := fun _ => fun
  | [d] => { results := [.lit (.bool true)], args := [d] }
  | _ => none }
def fnExactEqualCircuitRow : OpenClaim := { program := "ytnmjnffnelkciaa", sum := "f44753673efc71578523f90edd8895114bd892ec034ff0978ba4dd256eaa4c58", func := "loop.example/g00877/laws.FnExactEqualCircuit", spec := "fnExactEqualCircuit", unfollowed := true, recurses := true, apart := false }
def FnExactEqualCircuitSaid : Prop := fnExactEqualCircuitRow.holds Try.pinned (OpenSpec.ofChange fnExactEqualCircuitSpec)

/-- ITS FALSE NEIGHBOUR: 'it returns false'. Refute it at one input. -/
def fnExactEqualCircuitWrong : ChangeSpec := { name := "fnExactEqualCircuit", fn := fun _ => fun
  | [d] => { results := [.lit (.bool false)], args := [d] }
  | _ => none }
def FnExactEqualCircuitWrongFalsely : Prop := fnExactEqualCircuitRow.holds Try.pinned (OpenSpec.ofChange fnExactEqualCircuitWrong)

/-- 'laws.FnExactChooseCircuit': WHATEVER THE INPUT: true; the input reads as it did. -/
def fnExactChooseCircuitSpec : ChangeSpec := { name := "fnExactChooseCircuit", fn := fun _ => fun
  | [d] => { results := [.lit (.bool true)], args := [d] }
  | _ => none }
def fnExactChooseCircuitRow : OpenClaim := { program := "ytnmjnffnelkciaa", sum := "f44753673efc71578523f90edd8895114bd892ec034ff0978ba4dd256eaa4c58", func := "loop.example/g00877/laws.FnExactChooseCircuit", spec := "fnExactChooseCircuit", unfollowed := true, recurses := true, apart := false }
def FnExactChooseCircuitSaid : Prop := fnExactChooseCircuitRow.holds Try.pinned (OpenSpec.ofChange fnExactChooseCircuitSpec)

/-- ITS FALSE NEIGHBOUR: 'it returns false'. Refute it at one input. -/
def fnExactChooseCircuitWrong : ChangeSpec := { name := "fnExactChooseCircuit", fn := fun _ => fun
  | [d] => { results := [.lit (.bool false)], args := [d] }
  | _ => none }
def FnExactChooseCircuitWrongFalsely : Prop := fnExactChooseCircuitRow.holds Try.pinned (OpenSpec.ofChange fnExactChooseCircuitWrong)

/-- 'laws.FnExactGreatestCircuit': WHATEVER THE INPUT: true; the input reads as it did. -/
def fnExactGreatestCircuitSpec : ChangeSpec := { name := "fnExactGreatestCircuit", fn := fun _ => fun
  | [d] => { results := [.lit (.bool true)], args := [d] }
  | _ => none }
def fnExactGreatestCircuitRow : OpenClaim := { program := "ytnmjnffnelkciaa", sum := "f44753673efc71578523f90edd8895114bd892ec034ff0978ba4dd256eaa4c58", func := "loop.example/g00877/laws.FnExactGreatestCircuit", spec := "fnExactGreatestCircuit", unfollowed := true, recurses := true, apart := false }
def FnExactGreatestCircuitSaid : Prop := fnExactGreatestCircuitRow.holds Try.pinned (OpenSpec.ofChange fnExactGreatestCircuitSpec)

/-- ITS FALSE NEIGHBOUR: 'it returns false'. Refute it at one input. -/
def fnExactGreatestCircuitWrong : ChangeSpec := { name := "fnExactGreatestCircuit", fn := fun _ => fun
  | [d] => { results := [.lit (.bool false)], args := [d] }
  | _ => none }
def FnExactGreatestCircuitWrongFalsely : Prop := fnExactGreatestCircuitRow.holds Try.pinned (OpenSpec.ofChange fnExactGreatestCircuitWrong)

/-- 'laws.FnExactProductCircuit': WHATEVER THE INPUT: true; the input reads as it did. -/
def fnExactProductCircuitSpec : ChangeSpec := { name := "fnExactProductCircuit", fn := fun _ => fun
  | [d] => { results := [.lit (.bool true)], args := [d] }
  | _ => none }
def fnExactProductCircuitRow : OpenClaim := { program := "ytnmjnffnelkciaa", sum := "f44753673efc71578523f90edd8895114bd892ec034ff0978ba4dd256eaa4c58", func := "loop.example/g00877/laws.FnExactProductCircuit", spec := "fnExactProductCircuit", unfollowed := true, recurses := true, apart := false }
def FnExactProductCircuitSaid : Prop := fnExactProductCircuitRow.holds Try.pinned (OpenSpec.ofChange fnExactProductCircuitSpec)

/-- ITS FALSE NEIGHBOUR: 'it returns false'. Refute it at one input. -/
def fnExactProductCircuitWrong : ChangeSpec := { name := "fnExactProductCircuit", fn := fun _ => fun
  | [d] => { results := [.lit (.bool false)], args := [d] }
  | _ => none }
def FnExactProductCircuitWrongFalsely : Prop := fnExactProductCircuitRow.holds Try.pinned (OpenSpec.ofChange fnExactProductCircuitWrong)

/-- 'laws.FnExactCountCircuit': WHATEVER THE INPUT: true; the input reads as it did. -/
def fnExactCountCircuitSpec : ChangeSpec := { name := "fnExactCountCircuit", fn := fun _ => fun
  | [d] => { results := [.lit (.bool true)], args := [d] }
  | _ => none }
def fnExactCountCircuitRow : OpenClaim := { program := "ytnmjnffnelkciaa", sum := "f44753673efc71578523f90edd8895114bd892ec034ff0978ba4dd256eaa4c58", func := "loop.example/g00877/laws.FnExactCountCircuit", spec := "fnExactCountCircuit", unfollowed := true, recurses := true, apart := false }
def FnExactCountCircuitSaid : Prop := fnExactCountCircuitRow.holds Try.pinned (OpenSpec.ofChange fnExactCountCircuitSpec)

/-- ITS FALSE NEIGHBOUR: 'it returns false'. Refute it at one input. -/
def fnExactCountCircuitWrong : ChangeSpec := { name := "fnExactCountCircuit", fn := fun _ => fun
  | [d] => { results := [.lit (.bool false)], args := [d] }
  | _ => none }
def FnExactCountCircuitWrongFalsely : Prop := fnExactCountCircuitRow.holds Try.pinned (OpenSpec.ofChange fnExactCountCircuitWrong)

/-- 'laws.FnExactConstantCircuit': WHATEVER THE INPUT: true; the input reads as it did. -/
def fnExactConstantCircuitSpec : ChangeSpec := { name := "fnExactConstantCircuit", fn := fun _ => fun
  | [d1, d2] => { results := [.lit (.bool true)], args := [d1, d2] }
  | _ => none }
def fnExactConstantCircuitRow : OpenClaim := { program := "ytnmjnffnelkciaa", sum := "f44753673efc71578523f90edd8895114bd892ec034ff0978ba4dd256eaa4c58", func := "loop.example/g00877/laws.FnExactConstantCircuit", spec := "fnExactConstantCircuit", unfollowed := true, recurses := true, apart := false }
def FnExactConstantCircuitSaid : Prop := fnExactConstantCircuitRow.holds Try.pinned (OpenSpec.ofChange fnExactConstantCircuitSpec)

/-- ITS FALSE NEIGHBOUR: 'it returns false'. Refute it at one input. -/
def fnExactConstantCircuitWrong : ChangeSpec := { name := "fnExactConstantCircuit", fn := fun _ => fun
  | [d1, d2] => { results := [.lit (.bool false)], args := [d1, d2] }
  | _ => none }
def FnExactConstantCircuitWrongFalsely : Prop := fnExactConstantCircuitRow.holds Try.pinned (OpenSpec.ofChange fnExactConstantCircuitWrong)

/-- 'laws.FnExactAndsOf': WHATEVER THE INPUT: true; the input reads as it did. -/
def fnExactAndsOfSpec : ChangeSpec := { name := "fnExactAndsOf", fn := fun _ => fun
  | [d1, d2] => { results := [.lit (.bool true)], args := [d1, d2] }
  | _ => none }
def fnExactAndsOfRow : OpenClaim := { program := "ytnmjnffnelkciaa", sum := "f44753673efc71578523f90edd8895114bd892ec034ff0978ba4dd256eaa4c58", func := "loop.example/g00877/laws.FnExactAndsOf", spec := "fnExactAndsOf", unfollowed := true, recurses := true, apart := false }
def FnExactAndsOfSaid : Prop := fnExactAndsOfRow.holds Try.pinned (OpenSpec.ofChange fnExactAndsOfSpec)

/-- ITS FALSE NEIGHBOUR: 'it returns false'. Refute it at one input. -/
def fnExactAndsOfWrong : ChangeSpec := { name := "fnExactAndsOf", fn := fun _ => fun
  | [d1, d2] => { results := [.lit (.bool false)], args := [d1, d2] }
  | _ => none }
def FnExactAndsOfWrongFalsely : Prop := fnExactAndsOfRow.holds Try.pinned (OpenSpec.ofChange fnExactAndsOfWrong)

/-- 'laws.FnExactRunWith': WHATEVER THE INPUT: true; the input reads as it did. -/
def fnExactRunWithSpec : ChangeSpec := { name := "fnExactRunWith", fn := fun _ => fun
  | [d1, d2, d3] => { results := [.lit (.bool true)], args := [d1, d2, d3] }
  | _ => none }
def fnExactRunWithRow : OpenClaim := { program := "ytnmjnffnelkciaa", sum := "f44753673efc71578523f90edd8895114bd892ec034ff0978ba4dd256eaa4c58", func := "loop.example/g00877/laws.FnExactRunWith", spec := "fnExactRunWith", unfollowed := true, recurses := true, apart := false }
def FnExactRunWithSaid : Prop := fnExactRunWithRow.holds Try.pinned (OpenSpec.ofChange fnExactRunWithSpec)

/-- ITS FALSE NEIGHBOUR: 'it returns false'. Refute it at one input. -/
def fnExactRunWithWrong : ChangeSpec := { name := "fnExactRunWith", fn := fun _ => fun
  | [d1, d2, d3] => { results := [.lit (.bool false)], args := [d1, d2, d3] }
  | _ => none }
def FnExactRunWithWrongFalsely : Prop := fnExactRunWithRow.holds Try.pinned (OpenSpec.ofChange fnExactRunWithWrong)

/- THE SECOND FORM. 'bulk': how many values and letters a reading holds, each counted each time it is reached (what is shared counts as often as it is met; a slice's spare places count too). A statement '..UptoSaid' is the law's where the arguments, and the package variables that the reading takes, are together of bulk at most 1048576: NARROWER than '..Said'. Prove '..Said' where nothing that the law and all that it calls make is longer than what came in: it says more and counts as full. Else prove '..UptoSaid'. A law counts once. -/
mutual
def uptoBulk {H : Type} : DataW H → Nat
  | .lit (.string bytes) => bytes.length + 1
  | .lit _ => 1
  | .nil => 1
  | .ptr d => uptoBulk d + 1
  | .slice elems spare => uptoBulkAll elems + uptoBulkAll spare + 1
  | .agg parts => uptoBulkAll parts + 1
  | .iface _ d => uptoBulk d + 1
  | .map entries => uptoBulkEntries entries + 1
  | .held _ => 1
def uptoBulkAll {H : Type} : List (DataW H) → Nat
  | [] => 0
  | d :: r => uptoBulk d + uptoBulkAll r
def uptoBulkEntries {H : Type} : List (Lit × DataW H) → Nat
  | [] => 0
  | x :: r => uptoBulkEntry x + uptoBulkEntries r
def uptoBulkEntry {H : Type} : Lit × DataW H → Nat
  | (.string bytes, d) => bytes.length + uptoBulk d + 1
  | (_, d) => uptoBulk d + 1
 end
def uptoSmall : (H : Type) → List (DataW H) → Bool := fun _ ds => decide (uptoBulkAll ds ≤ 1048576)
def OpenSpec.upto (s : _root_.Go.ChangeSpec) : _root_.Go.OpenSpec := { _root_.Go.OpenSpec.ofChange s with cond := some uptoSmall }

/-- 'laws.FnExactAdderCircuit', WHERE WHAT IT READS IS OF BULK AT MOST 1048576: true; the input reads as it did. -/
def fnExactAdderCircuitUptoRow : OpenClaim := { program := "ytnmjnffnelkciaa", sum := "f44753673efc71578523f90edd8895114bd892ec034ff0978ba4dd256eaa4c58", func := "loop.example/g00877/laws.FnExactAdderCircuit", spec := "fnExactAdderCircuit", unfollowed := true, recurses := true, apart := false, narrowed := true }
def FnExactAdderCircuitUptoSaid : Prop := fnExactAdderCircuitUptoRow.holds Try.pinned (OpenSpec.upto fnExactAdderCircuitSpec)

/-- 'laws.FnExactSubtractCircuit', WHERE WHAT IT READS IS OF BULK AT MOST 1048576: true; the input reads as it did. -/
def fnExactSubtractCircuitUptoRow : OpenClaim := { program := "ytnmjnffnelkciaa", sum := "f44753673efc71578523f90edd8895114bd892ec034ff0978ba4dd256eaa4c58", func := "loop.example/g00877/laws.FnExactSubtractCircuit", spec := "fnExactSubtractCircuit", unfollowed := true, recurses := true, apart := false, narrowed := true }
def FnExactSubtractCircuitUptoSaid : Prop := fnExactSubtractCircuitUptoRow.holds Try.pinned (OpenSpec.upto fnExactSubtractCircuitSpec)

/-- 'laws.FnExactLessCircuit', WHERE WHAT IT READS IS OF BULK AT MOST 1048576: true; the input reads as it did. -/
def fnExactLessCircuitUptoRow : OpenClaim := { program := "ytnmjnffnelkciaa", sum := "f44753673efc71578523f90edd8895114bd892ec034ff0978ba4dd256eaa4c58", func := "loop.example/g00877/laws.FnExactLessCircuit", spec := "fnExactLessCircuit", unfollowed := true, recurses := true, apart := false, narrowed := true }
def FnExactLessCircuitUptoSaid : Prop := fnExactLessCircuitUptoRow.holds Try.pinned (OpenSpec.upto fnExactLessCircuitSpec)

/-- 'laws.FnExactEqualCircuit', WHERE WHAT IT READS IS OF BULK AT MOST 1048576: true; the input reads as it did. -/
def fnExactEqualCircuitUptoRow : OpenClaim := { program := "ytnmjnffnelkciaa", sum := "f44753673efc71578523f90edd8895114bd892ec034ff0978ba4dd256eaa4c58", func := "loop.example/g00877/laws.FnExactEqualCircuit", spec := "fnExactEqualCircuit", unfollowed := true, recurses := true, apart := false, narrowed := true }
def FnExactEqualCircuitUptoSaid : Prop := fnExactEqualCircuitUptoRow.holds Try.pinned (OpenSpec.upto fnExactEqualCircuitSpec)

/-- 'laws.FnExactChooseCircuit', WHERE WHAT IT READS IS OF BULK AT MOST 1048576: true; the input reads as it did. -/
def fnExactChooseCircuitUptoRow : OpenClaim := { program := "ytnmjnffnelkciaa", sum := "f44753673efc71578523f90edd8895114bd892ec034ff0978ba4dd256eaa4c58", func := "loop.example/g00877/laws.FnExactChooseCircuit", spec := "fnExactChooseCircuit", unfollowed := true, recurses := true, apart := false, narrowed := true }
def FnExactChooseCircuitUptoSaid : Prop := fnExactChooseCircuitUptoRow.holds Try.pinned (OpenSpec.upto fnExactChooseCircuitSpec)

/-- 'laws.FnExactGreatestCircuit', WHERE WHAT IT READS IS OF BULK AT MOST 1048576: true; the input reads as it did. -/
def fnExactGreatestCircuitUptoRow : OpenClaim := { program := "ytnmjnffnelkciaa", sum := "f44753673efc71578523f90edd8895114bd892ec034ff0978ba4dd256eaa4c58", func := "loop.example/g00877/laws.FnExactGreatestCircuit", spec := "fnExactGreatestCircuit", unfollowed := true, recurses := true, apart := false, narrowed := true }
def FnExactGreatestCircuitUptoSaid : Prop := fnExactGreatestCircuitUptoRow.holds Try.pinned (OpenSpec.upto fnExactGreatestCircuitSpec)

/-- 'laws.FnExactProductCircuit', WHERE WHAT IT READS IS OF BULK AT MOST 1048576: true; the input reads as it did. -/
def fnExactProductCircuitUptoRow : OpenClaim := { program := "ytnmjnffnelkciaa", sum := "f44753673efc71578523f90edd8895114bd892ec034ff0978ba4dd256eaa4c58", func := "loop.example/g00877/laws.FnExactProductCircuit", spec := "fnExactProductCircuit", unfollowed := true, recurses := true, apart := false, narrowed := true }
def FnExactProductCircuitUptoSaid : Prop := fnExactProductCircuitUptoRow.holds Try.pinned (OpenSpec.upto fnExactProductCircuitSpec)

/-- 'laws.FnExactCountCircuit', WHERE WHAT IT READS IS OF BULK AT MOST 1048576: true; the input reads as it did. -/
def fnExactCountCircuitUptoRow : OpenClaim := { program := "ytnmjnffnelkciaa", sum := "f44753673efc71578523f90edd8895114bd892ec034ff0978ba4dd256eaa4c58", func := "loop.example/g00877/laws.FnExactCountCircuit", spec := "fnExactCountCircuit", unfollowed := true, recurses := true, apart := false, narrowed := true }
def FnExactCountCircuitUptoSaid : Prop := fnExactCountCircuitUptoRow.holds Try.pinned (OpenSpec.upto fnExactCountCircuitSpec)

/-- 'laws.FnExactConstantCircuit', WHERE WHAT IT READS IS OF BULK AT MOST 1048576: true; the input reads as it did. -/
def fnExactConstantCircuitUptoRow : OpenClaim := { program := "ytnmjnffnelkciaa", sum := "f44753673efc71578523f90edd8895114bd892ec034ff0978ba4dd256eaa4c58", func := "loop.example/g00877/laws.FnExactConstantCircuit", spec := "fnExactConstantCircuit", unfollowed := true, recurses := true, apart := false, narrowed := true }
def FnExactConstantCircuitUptoSaid : Prop := fnExactConstantCircuitUptoRow.holds Try.pinned (OpenSpec.upto fnExactConstantCircuitSpec)

/-- 'laws.FnExactAndsOf', WHERE WHAT IT READS IS OF BULK AT MOST 1048576: true; the input reads as it did. -/
def fnExactAndsOfUptoRow : OpenClaim := { program := "ytnmjnffnelkciaa", sum := "f44753673efc71578523f90edd8895114bd892ec034ff0978ba4dd256eaa4c58", func := "loop.example/g00877/laws.FnExactAndsOf", spec := "fnExactAndsOf", unfollowed := true, recurses := true, apart := false, narrowed := true }
def FnExactAndsOfUptoSaid : Prop := fnExactAndsOfUptoRow.holds Try.pinned (OpenSpec.upto fnExactAndsOfSpec)

/-- 'laws.FnExactRunWith', WHERE WHAT IT READS IS OF BULK AT MOST 1048576: true; the input reads as it did. -/
def fnExactRunWithUptoRow : OpenClaim := { program := "ytnmjnffnelkciaa", sum := "f44753673efc71578523f90edd8895114bd892ec034ff0978ba4dd256eaa4c58", func := "loop.example/g00877/laws.FnExactRunWith", spec := "fnExactRunWith", unfollowed := true, recurses := true, apart := false, narrowed := true }
def FnExactRunWithUptoSaid : Prop := fnExactRunWithUptoRow.holds Try.pinned (OpenSpec.upto fnExactRunWithSpec)

end Rows
end Go.Proofs.Ytnmjnffnelkciaa
