/-
  DERIVED. GIVEN WITH THE SEED: THE CARDS: each row of YtadkbfjhghipaaaDoorRows.lean that lists a variable, with what it lists TIED to the program's text (the seventh form; the later family's looks); each row that meets fmt, with fmt's text TOLD by the authors' own Lean function (tested against real Go, not proved from fmt's source: count such statements apart). THE CARD IS WHAT COUNTS. Prove the row's statement (the work); the ties are given (YtadkbfjhghipaaaDoorTie.lean); close each card by the builder's one call (the guide's Derived/Test/ToyasCard.lean, 'card_holds'). Laid BY PROGRAM, IN A SANDBOX (cutbox-door.mjs). By AI agents, Wed Nov 11 2026. No macro, syntax, notation, axiom, sorry.
-/
import Derived.Test.YtadkbfjhghipaaaDoorRows
import GoSem.ClaimSeven
namespace Go.Proofs.YtadkbfjhghipaaaDoor
namespace Rows

/-- THE TIED CARD OF 'laws.FnExactDigestOf'. -/
def fnExactDigestOfCard : Claim7 := { stood := { row := fnExactDigestOfRow, standIns := [], harness := (true, "bb693406a6b8e96fd4a4fcc82f7aeb3fcebb03d3cf6933d58c11eb896ed313a3"), looks := false }, kinds := [], alts := [], laidByText := true, laidKinds := [.called], laidTests := true, laidLooks := .later }
def FnExactDigestOfCardSaid : Prop := Claim7.holds Tryd.pinned (.plain (OpenSpec.ofChange fnExactDigestOfSpec)) fnExactDigestOfCard

/-- THE TIED CARD OF 'laws.FnExactLabelFor'. -/
def fnExactLabelForCard : Claim7 := { stood := { row := fnExactLabelForRow, standIns := [], harness := (true, "bb693406a6b8e96fd4a4fcc82f7aeb3fcebb03d3cf6933d58c11eb896ed313a3"), looks := false }, kinds := [], alts := [], laidByText := true, laidKinds := [.called], laidTests := true, laidLooks := .later }
def FnExactLabelForCardSaid : Prop := Claim7.holds Tryd.pinned (.plain (OpenSpec.ofChange fnExactLabelForSpec)) fnExactLabelForCard

/-- THE TIED CARD OF 'laws.FnExactNumberFrom'. -/
def fnExactNumberFromCard : Claim7 := { stood := { row := fnExactNumberFromRow, standIns := [], harness := (true, "bb693406a6b8e96fd4a4fcc82f7aeb3fcebb03d3cf6933d58c11eb896ed313a3"), looks := false }, kinds := [], alts := [], laidByText := true, laidKinds := [.called], laidTests := true, laidLooks := .later }
def FnExactNumberFromCardSaid : Prop := Claim7.holds Tryd.pinned (.plain (OpenSpec.ofChange fnExactNumberFromSpec)) fnExactNumberFromCard

/-- THE TIED CARD OF 'laws.FnExactBitsFrom'. -/
def fnExactBitsFromCard : Claim7 := { stood := { row := fnExactBitsFromRow, standIns := [], harness := (true, "bb693406a6b8e96fd4a4fcc82f7aeb3fcebb03d3cf6933d58c11eb896ed313a3"), looks := false }, kinds := [], alts := [], laidByText := true, laidKinds := [.called], laidTests := true, laidLooks := .later }
def FnExactBitsFromCardSaid : Prop := Claim7.holds Tryd.pinned (.plain (OpenSpec.ofChange fnExactBitsFromSpec)) fnExactBitsFromCard

/-- THE TIED CARD OF 'laws.FnExactOrderFrom'. -/
def fnExactOrderFromCard : Claim7 := { stood := { row := fnExactOrderFromRow, standIns := [], harness := (true, "bb693406a6b8e96fd4a4fcc82f7aeb3fcebb03d3cf6933d58c11eb896ed313a3"), looks := false }, kinds := [], alts := [], laidByText := true, laidKinds := [.called], laidTests := true, laidLooks := .later }
def FnExactOrderFromCardSaid : Prop := Claim7.holds Tryd.pinned (.plain (OpenSpec.ofChange fnExactOrderFromSpec)) fnExactOrderFromCard

/-- THE TIED CARD OF 'laws.FnExactStreamXor'. -/
def fnExactStreamXorCard : Claim7 := { stood := { row := fnExactStreamXorRow, standIns := [], harness := (true, "bb693406a6b8e96fd4a4fcc82f7aeb3fcebb03d3cf6933d58c11eb896ed313a3"), looks := false }, kinds := [], alts := [], laidByText := true, laidKinds := [.called], laidTests := true, laidLooks := .later }
def FnExactStreamXorCardSaid : Prop := Claim7.holds Tryd.pinned (.plain (OpenSpec.ofChange fnExactStreamXorSpec)) fnExactStreamXorCard

/-- THE TIED CARD OF 'laws.FnExactCountDigests'. -/
def fnExactCountDigestsCard : Claim7 := { stood := { row := fnExactCountDigestsRow, standIns := [], harness := (true, "bb693406a6b8e96fd4a4fcc82f7aeb3fcebb03d3cf6933d58c11eb896ed313a3"), looks := false }, kinds := [], alts := [], laidByText := true, laidKinds := [.called], laidTests := true, laidLooks := .later }
def FnExactCountDigestsCardSaid : Prop := Claim7.holds Tryd.pinned (.plain (OpenSpec.ofChange fnExactCountDigestsSpec)) fnExactCountDigestsCard

/-- THE SECOND FORM's CARD OF 'laws.FnExactDigestOf'. -/
def fnExactDigestOfUptoCard : Claim7 := { stood := { row := fnExactDigestOfUptoRow, standIns := [], harness := (true, "bb693406a6b8e96fd4a4fcc82f7aeb3fcebb03d3cf6933d58c11eb896ed313a3"), looks := false }, kinds := [], alts := [], laidByText := true, laidKinds := [.called], laidTests := true, laidLooks := .later }
def FnExactDigestOfUptoCardSaid : Prop := Claim7.holds Tryd.pinned (.plain (OpenSpec.upto fnExactDigestOfSpec)) fnExactDigestOfUptoCard

/-- THE SECOND FORM's CARD OF 'laws.FnExactLabelFor'. -/
def fnExactLabelForUptoCard : Claim7 := { stood := { row := fnExactLabelForUptoRow, standIns := [], harness := (true, "bb693406a6b8e96fd4a4fcc82f7aeb3fcebb03d3cf6933d58c11eb896ed313a3"), looks := false }, kinds := [], alts := [], laidByText := true, laidKinds := [.called], laidTests := true, laidLooks := .later }
def FnExactLabelForUptoCardSaid : Prop := Claim7.holds Tryd.pinned (.plain (OpenSpec.upto fnExactLabelForSpec)) fnExactLabelForUptoCard

/-- THE SECOND FORM's CARD OF 'laws.FnExactNumberFrom'. -/
def fnExactNumberFromUptoCard : Claim7 := { stood := { row := fnExactNumberFromUptoRow, standIns := [], harness := (true, "bb693406a6b8e96fd4a4fcc82f7aeb3fcebb03d3cf6933d58c11eb896ed313a3"), looks := false }, kinds := [], alts := [], laidByText := true, laidKinds := [.called], laidTests := true, laidLooks := .later }
def FnExactNumberFromUptoCardSaid : Prop := Claim7.holds Tryd.pinned (.plain (OpenSpec.upto fnExactNumberFromSpec)) fnExactNumberFromUptoCard

/-- THE SECOND FORM's CARD OF 'laws.FnExactBitsFrom'. -/
def fnExactBitsFromUptoCard : Claim7 := { stood := { row := fnExactBitsFromUptoRow, standIns := [], harness := (true, "bb693406a6b8e96fd4a4fcc82f7aeb3fcebb03d3cf6933d58c11eb896ed313a3"), looks := false }, kinds := [], alts := [], laidByText := true, laidKinds := [.called], laidTests := true, laidLooks := .later }
def FnExactBitsFromUptoCardSaid : Prop := Claim7.holds Tryd.pinned (.plain (OpenSpec.upto fnExactBitsFromSpec)) fnExactBitsFromUptoCard

/-- THE SECOND FORM's CARD OF 'laws.FnExactOrderFrom'. -/
def fnExactOrderFromUptoCard : Claim7 := { stood := { row := fnExactOrderFromUptoRow, standIns := [], harness := (true, "bb693406a6b8e96fd4a4fcc82f7aeb3fcebb03d3cf6933d58c11eb896ed313a3"), looks := false }, kinds := [], alts := [], laidByText := true, laidKinds := [.called], laidTests := true, laidLooks := .later }
def FnExactOrderFromUptoCardSaid : Prop := Claim7.holds Tryd.pinned (.plain (OpenSpec.upto fnExactOrderFromSpec)) fnExactOrderFromUptoCard

/-- THE SECOND FORM's CARD OF 'laws.FnExactStreamXor'. -/
def fnExactStreamXorUptoCard : Claim7 := { stood := { row := fnExactStreamXorUptoRow, standIns := [], harness := (true, "bb693406a6b8e96fd4a4fcc82f7aeb3fcebb03d3cf6933d58c11eb896ed313a3"), looks := false }, kinds := [], alts := [], laidByText := true, laidKinds := [.called], laidTests := true, laidLooks := .later }
def FnExactStreamXorUptoCardSaid : Prop := Claim7.holds Tryd.pinned (.plain (OpenSpec.upto fnExactStreamXorSpec)) fnExactStreamXorUptoCard

/-- THE SECOND FORM's CARD OF 'laws.FnExactCountDigests'. -/
def fnExactCountDigestsUptoCard : Claim7 := { stood := { row := fnExactCountDigestsUptoRow, standIns := [], harness := (true, "bb693406a6b8e96fd4a4fcc82f7aeb3fcebb03d3cf6933d58c11eb896ed313a3"), looks := false }, kinds := [], alts := [], laidByText := true, laidKinds := [.called], laidTests := true, laidLooks := .later }
def FnExactCountDigestsUptoCardSaid : Prop := Claim7.holds Tryd.pinned (.plain (OpenSpec.upto fnExactCountDigestsSpec)) fnExactCountDigestsUptoCard
end Rows
end Go.Proofs.YtadkbfjhghipaaaDoor
