/-
  DERIVED. GIVEN WITH THE SEED: THE CARDS: each row of YtcbofogmfelpkaaDoorRows.lean that lists a variable, with what it lists TIED to the program's text (the seventh form; the later family's looks); each row that meets fmt, with fmt's text TOLD by the authors' own Lean function (tested against real Go, not proved from fmt's source: count such statements apart). THE CARD IS WHAT COUNTS. Prove the row's statement (the work); the ties are given (YtcbofogmfelpkaaDoorTie.lean); close each card by the builder's one call (the guide's Derived/Test/ToyasCard.lean, 'card_holds'). Laid BY PROGRAM, IN A SANDBOX (cutbox-door.mjs). By AI agents, Wed Nov 11 2026. No macro, syntax, notation, axiom, sorry.
-/
import Derived.Test.YtcbofogmfelpkaaDoorRows
import GoSem.ClaimSeven
namespace Go.Proofs.YtcbofogmfelpkaaDoor
namespace Rows

/-- THE TIED CARD OF 'laws.FnExactIsProgram'. -/
def fnExactIsProgramCard : Claim7 := { stood := { row := fnExactIsProgramRow, standIns := [], harness := (true, "dc6d8f6f89715cb471cbd1b30959c47272c0b078201865dc53a22887b09586d3"), looks := false }, kinds := [], alts := [], laidByText := true, laidKinds := [.data, .data, .data, .pinned], laidTests := true, laidLooks := .later }
def FnExactIsProgramCardSaid : Prop := Claim7.holds Tryd.pinned (.plain (OpenSpec.ofChange fnExactIsProgramSpec)) fnExactIsProgramCard

/-- THE TIED CARD OF 'laws.FnExactWidthOfName'. -/
def fnExactWidthOfNameCard : Claim7 := { stood := { row := fnExactWidthOfNameRow, standIns := [], harness := (true, "dc6d8f6f89715cb471cbd1b30959c47272c0b078201865dc53a22887b09586d3"), looks := false }, kinds := [], alts := [], laidByText := true, laidKinds := [.data, .data, .data, .pinned], laidTests := true, laidLooks := .later }
def FnExactWidthOfNameCardSaid : Prop := Claim7.holds Tryd.pinned (.plain (OpenSpec.ofChange fnExactWidthOfNameSpec)) fnExactWidthOfNameCard

/-- THE TIED CARD OF 'laws.FnExactInputWidths'. -/
def fnExactInputWidthsCard : Claim7 := { stood := { row := fnExactInputWidthsRow, standIns := [], harness := (true, "dc6d8f6f89715cb471cbd1b30959c47272c0b078201865dc53a22887b09586d3"), looks := false }, kinds := [], alts := [], laidByText := true, laidKinds := [.data, .data, .data, .pinned], laidTests := true, laidLooks := .later }
def FnExactInputWidthsCardSaid : Prop := Claim7.holds Tryd.pinned (.plain (OpenSpec.ofChange fnExactInputWidthsSpec)) fnExactInputWidthsCard

/-- THE TIED CARD OF 'laws.FnExactOutWidths'. -/
def fnExactOutWidthsCard : Claim7 := { stood := { row := fnExactOutWidthsRow, standIns := [], harness := (true, "dc6d8f6f89715cb471cbd1b30959c47272c0b078201865dc53a22887b09586d3"), looks := false }, kinds := [], alts := [], laidByText := true, laidKinds := [.data, .data, .data, .pinned], laidTests := true, laidLooks := .later }
def FnExactOutWidthsCardSaid : Prop := Claim7.holds Tryd.pinned (.plain (OpenSpec.ofChange fnExactOutWidthsSpec)) fnExactOutWidthsCard

/-- THE TIED CARD OF 'laws.FnExactValuesIn'. -/
def fnExactValuesInCard : Claim7 := { stood := { row := fnExactValuesInRow, standIns := [], harness := (true, "dc6d8f6f89715cb471cbd1b30959c47272c0b078201865dc53a22887b09586d3"), looks := false }, kinds := [], alts := [], laidByText := true, laidKinds := [.data, .data, .data, .pinned], laidTests := true, laidLooks := .later }
def FnExactValuesInCardSaid : Prop := Claim7.holds Tryd.pinned (.plain (OpenSpec.ofChange fnExactValuesInSpec)) fnExactValuesInCard

/-- THE TIED CARD OF 'laws.FnExactRunProgram'. -/
def fnExactRunProgramCard : Claim7 := { stood := { row := fnExactRunProgramRow, standIns := [], harness := (true, "dc6d8f6f89715cb471cbd1b30959c47272c0b078201865dc53a22887b09586d3"), looks := false }, kinds := [], alts := [], laidByText := true, laidKinds := [.data, .data, .data, .pinned], laidTests := true, laidLooks := .later }
def FnExactRunProgramCardSaid : Prop := Claim7.holds Tryd.pinned (.plain (OpenSpec.ofChange fnExactRunProgramSpec)) fnExactRunProgramCard

/-- THE TIED CARD OF 'laws.FnExactNeededNames'. -/
def fnExactNeededNamesCard : Claim7 := { stood := { row := fnExactNeededNamesRow, standIns := [], harness := (true, "dc6d8f6f89715cb471cbd1b30959c47272c0b078201865dc53a22887b09586d3"), looks := false }, kinds := [], alts := [], laidByText := true, laidKinds := [.data, .data, .data, .pinned], laidTests := true, laidLooks := .later }
def FnExactNeededNamesCardSaid : Prop := Claim7.holds Tryd.pinned (.plain (OpenSpec.ofChange fnExactNeededNamesSpec)) fnExactNeededNamesCard

/-- THE TIED CARD OF 'laws.FnExactTrimProgram'. -/
def fnExactTrimProgramCard : Claim7 := { stood := { row := fnExactTrimProgramRow, standIns := [], harness := (true, "dc6d8f6f89715cb471cbd1b30959c47272c0b078201865dc53a22887b09586d3"), looks := false }, kinds := [], alts := [], laidByText := true, laidKinds := [.data, .data, .data, .pinned], laidTests := true, laidLooks := .later }
def FnExactTrimProgramCardSaid : Prop := Claim7.holds Tryd.pinned (.plain (OpenSpec.ofChange fnExactTrimProgramSpec)) fnExactTrimProgramCard

/-- THE TIED CARD OF 'laws.FnExactCountOps'. -/
def fnExactCountOpsCard : Claim7 := { stood := { row := fnExactCountOpsRow, standIns := [], harness := (true, "dc6d8f6f89715cb471cbd1b30959c47272c0b078201865dc53a22887b09586d3"), looks := false }, kinds := [], alts := [], laidByText := true, laidKinds := [.data, .data, .data, .pinned], laidTests := true, laidLooks := .later }
def FnExactCountOpsCardSaid : Prop := Claim7.holds Tryd.pinned (.plain (OpenSpec.ofChange fnExactCountOpsSpec)) fnExactCountOpsCard

/-- THE SECOND FORM's CARD OF 'laws.FnExactIsProgram'. -/
def fnExactIsProgramUptoCard : Claim7 := { stood := { row := fnExactIsProgramUptoRow, standIns := [], harness := (true, "dc6d8f6f89715cb471cbd1b30959c47272c0b078201865dc53a22887b09586d3"), looks := false }, kinds := [], alts := [], laidByText := true, laidKinds := [.data, .data, .data, .pinned], laidTests := true, laidLooks := .later }
def FnExactIsProgramUptoCardSaid : Prop := Claim7.holds Tryd.pinned (.plain (OpenSpec.upto fnExactIsProgramSpec)) fnExactIsProgramUptoCard

/-- THE SECOND FORM's CARD OF 'laws.FnExactWidthOfName'. -/
def fnExactWidthOfNameUptoCard : Claim7 := { stood := { row := fnExactWidthOfNameUptoRow, standIns := [], harness := (true, "dc6d8f6f89715cb471cbd1b30959c47272c0b078201865dc53a22887b09586d3"), looks := false }, kinds := [], alts := [], laidByText := true, laidKinds := [.data, .data, .data, .pinned], laidTests := true, laidLooks := .later }
def FnExactWidthOfNameUptoCardSaid : Prop := Claim7.holds Tryd.pinned (.plain (OpenSpec.upto fnExactWidthOfNameSpec)) fnExactWidthOfNameUptoCard

/-- THE SECOND FORM's CARD OF 'laws.FnExactInputWidths'. -/
def fnExactInputWidthsUptoCard : Claim7 := { stood := { row := fnExactInputWidthsUptoRow, standIns := [], harness := (true, "dc6d8f6f89715cb471cbd1b30959c47272c0b078201865dc53a22887b09586d3"), looks := false }, kinds := [], alts := [], laidByText := true, laidKinds := [.data, .data, .data, .pinned], laidTests := true, laidLooks := .later }
def FnExactInputWidthsUptoCardSaid : Prop := Claim7.holds Tryd.pinned (.plain (OpenSpec.upto fnExactInputWidthsSpec)) fnExactInputWidthsUptoCard

/-- THE SECOND FORM's CARD OF 'laws.FnExactOutWidths'. -/
def fnExactOutWidthsUptoCard : Claim7 := { stood := { row := fnExactOutWidthsUptoRow, standIns := [], harness := (true, "dc6d8f6f89715cb471cbd1b30959c47272c0b078201865dc53a22887b09586d3"), looks := false }, kinds := [], alts := [], laidByText := true, laidKinds := [.data, .data, .data, .pinned], laidTests := true, laidLooks := .later }
def FnExactOutWidthsUptoCardSaid : Prop := Claim7.holds Tryd.pinned (.plain (OpenSpec.upto fnExactOutWidthsSpec)) fnExactOutWidthsUptoCard

/-- THE SECOND FORM's CARD OF 'laws.FnExactValuesIn'. -/
def fnExactValuesInUptoCard : Claim7 := { stood := { row := fnExactValuesInUptoRow, standIns := [], harness := (true, "dc6d8f6f89715cb471cbd1b30959c47272c0b078201865dc53a22887b09586d3"), looks := false }, kinds := [], alts := [], laidByText := true, laidKinds := [.data, .data, .data, .pinned], laidTests := true, laidLooks := .later }
def FnExactValuesInUptoCardSaid : Prop := Claim7.holds Tryd.pinned (.plain (OpenSpec.upto fnExactValuesInSpec)) fnExactValuesInUptoCard

/-- THE SECOND FORM's CARD OF 'laws.FnExactRunProgram'. -/
def fnExactRunProgramUptoCard : Claim7 := { stood := { row := fnExactRunProgramUptoRow, standIns := [], harness := (true, "dc6d8f6f89715cb471cbd1b30959c47272c0b078201865dc53a22887b09586d3"), looks := false }, kinds := [], alts := [], laidByText := true, laidKinds := [.data, .data, .data, .pinned], laidTests := true, laidLooks := .later }
def FnExactRunProgramUptoCardSaid : Prop := Claim7.holds Tryd.pinned (.plain (OpenSpec.upto fnExactRunProgramSpec)) fnExactRunProgramUptoCard

/-- THE SECOND FORM's CARD OF 'laws.FnExactNeededNames'. -/
def fnExactNeededNamesUptoCard : Claim7 := { stood := { row := fnExactNeededNamesUptoRow, standIns := [], harness := (true, "dc6d8f6f89715cb471cbd1b30959c47272c0b078201865dc53a22887b09586d3"), looks := false }, kinds := [], alts := [], laidByText := true, laidKinds := [.data, .data, .data, .pinned], laidTests := true, laidLooks := .later }
def FnExactNeededNamesUptoCardSaid : Prop := Claim7.holds Tryd.pinned (.plain (OpenSpec.upto fnExactNeededNamesSpec)) fnExactNeededNamesUptoCard

/-- THE SECOND FORM's CARD OF 'laws.FnExactTrimProgram'. -/
def fnExactTrimProgramUptoCard : Claim7 := { stood := { row := fnExactTrimProgramUptoRow, standIns := [], harness := (true, "dc6d8f6f89715cb471cbd1b30959c47272c0b078201865dc53a22887b09586d3"), looks := false }, kinds := [], alts := [], laidByText := true, laidKinds := [.data, .data, .data, .pinned], laidTests := true, laidLooks := .later }
def FnExactTrimProgramUptoCardSaid : Prop := Claim7.holds Tryd.pinned (.plain (OpenSpec.upto fnExactTrimProgramSpec)) fnExactTrimProgramUptoCard

/-- THE SECOND FORM's CARD OF 'laws.FnExactCountOps'. -/
def fnExactCountOpsUptoCard : Claim7 := { stood := { row := fnExactCountOpsUptoRow, standIns := [], harness := (true, "dc6d8f6f89715cb471cbd1b30959c47272c0b078201865dc53a22887b09586d3"), looks := false }, kinds := [], alts := [], laidByText := true, laidKinds := [.data, .data, .data, .pinned], laidTests := true, laidLooks := .later }
def FnExactCountOpsUptoCardSaid : Prop := Claim7.holds Tryd.pinned (.plain (OpenSpec.upto fnExactCountOpsSpec)) fnExactCountOpsUptoCard
end Rows
end Go.Proofs.YtcbofogmfelpkaaDoor
