/-
  DERIVED. GIVEN WITH THE SEED: THE CARDS: each row of YtibaiajanggbdaaGreatDoorRows.lean that lists a variable, with what it lists TIED to the program's text (the seventh form; the later family's looks); each row that meets fmt, with fmt's text TOLD by the authors' own Lean function (tested against real Go, not proved from fmt's source: count such statements apart). THE CARD IS WHAT COUNTS. Prove the row's statement (the work); the ties are given (YtibaiajanggbdaaGreatDoorTie.lean); close each card by the builder's one call (the guide's Derived/Test/ToyasCard.lean, 'card_holds'). Laid BY PROGRAM, IN A SANDBOX (cutbox-door.mjs). By AI agents, Wed Nov 11 2026. No macro, syntax, notation, axiom, sorry.
-/
import Derived.Test.YtibaiajanggbdaaGreatDoorRows
import GoSem.ClaimSeven
namespace Go.Proofs.YtibaiajanggbdaaGreatDoor
namespace Rows

/-- THE TIED CARD OF 'laws.FnCircuits'. -/
def fnCircuitsCard : Claim7 := { stood := { row := fnCircuitsRow, standIns := [], harness := (true, "62d624bafdee5711f9a98083e0627decadc623b6121ccafa4398ef5a75166d2c"), looks := true }, kinds := [], alts := [], laidByText := true, laidKinds := [.data, .data, .data, .data, .sentinel, .sentinel, .data, .pinned], laidTests := true, laidLooks := .later }
def FnCircuitsCardSaid : Prop := Claim7.holds Tryz.pinned (.plain (OpenSpec.ofChange fnCircuitsSpec)) fnCircuitsCard

/-- THE TIED CARD OF 'laws.FnExactParseCircuit'. -/
def fnExactParseCircuitCard : Claim7 := { stood := { row := fnExactParseCircuitRow, standIns := [], harness := (true, "62d624bafdee5711f9a98083e0627decadc623b6121ccafa4398ef5a75166d2c"), looks := true }, kinds := [], alts := [], laidByText := true, laidKinds := [.data, .data, .data, .data, .sentinel, .sentinel, .data, .pinned], laidTests := true, laidLooks := .later }
def FnExactParseCircuitCardSaid : Prop := Claim7.holds Tryz.pinned (.plain (OpenSpec.ofChange fnExactParseCircuitSpec)) fnExactParseCircuitCard

/-- THE SECOND FORM's CARD OF 'laws.FnCircuits'. -/
def fnCircuitsUptoCard : Claim7 := { stood := { row := fnCircuitsUptoRow, standIns := [], harness := (true, "62d624bafdee5711f9a98083e0627decadc623b6121ccafa4398ef5a75166d2c"), looks := true }, kinds := [], alts := [], laidByText := true, laidKinds := [.data, .data, .data, .data, .sentinel, .sentinel, .data, .pinned], laidTests := true, laidLooks := .later }
def FnCircuitsUptoCardSaid : Prop := Claim7.holds Tryz.pinned (.plain (OpenSpec.upto fnCircuitsSpec)) fnCircuitsUptoCard

/-- THE SECOND FORM's CARD OF 'laws.FnExactParseCircuit'. -/
def fnExactParseCircuitUptoCard : Claim7 := { stood := { row := fnExactParseCircuitUptoRow, standIns := [], harness := (true, "62d624bafdee5711f9a98083e0627decadc623b6121ccafa4398ef5a75166d2c"), looks := true }, kinds := [], alts := [], laidByText := true, laidKinds := [.data, .data, .data, .data, .sentinel, .sentinel, .data, .pinned], laidTests := true, laidLooks := .later }
def FnExactParseCircuitUptoCardSaid : Prop := Claim7.holds Tryz.pinned (.plain (OpenSpec.upto fnExactParseCircuitSpec)) fnExactParseCircuitUptoCard
end Rows
end Go.Proofs.YtibaiajanggbdaaGreatDoor
