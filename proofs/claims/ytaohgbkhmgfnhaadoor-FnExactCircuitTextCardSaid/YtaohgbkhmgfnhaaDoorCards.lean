/-
  DERIVED. GIVEN WITH THE SEED: THE CARDS: each row of YtaohgbkhmgfnhaaDoorRows.lean that lists a variable, with what it lists TIED to the program's text (the seventh form; the later family's looks); each row that meets fmt, with fmt's text TOLD by the authors' own Lean function (tested against real Go, not proved from fmt's source: count such statements apart). THE CARD IS WHAT COUNTS. Prove the row's statement (the work); the ties are given (YtaohgbkhmgfnhaaDoorTie.lean); close each card by the builder's one call (the guide's Derived/Test/ToyasCard.lean, 'card_holds'). Laid BY PROGRAM, IN A SANDBOX (cutbox-door.mjs). By AI agents, Wed Nov 11 2026. No macro, syntax, notation, axiom, sorry.
-/
import Derived.Test.YtaohgbkhmgfnhaaDoorRows
import GoSem.ClaimSeven
namespace Go.Proofs.YtaohgbkhmgfnhaaDoor
namespace Rows

/-- THE TIED CARD OF 'laws.FnExactCircuitText'. -/
def fnExactCircuitTextCard : Claim7 := { stood := { row := fnExactCircuitTextRow, standIns := [], harness := (true, "e181bafff05cdbcb1f1f68c96e20275c0680f9a519536c86911d913bb3e3cbb1"), looks := false }, kinds := [], alts := [], laidByText := true, laidKinds := [.data, .data, .data, .data], laidTests := true, laidLooks := .later }
def FnExactCircuitTextCardSaid : Prop := Claim7.holds Tryd.pinned (.plain (OpenSpec.ofChange fnExactCircuitTextSpec)) fnExactCircuitTextCard

/-- THE SECOND FORM's CARD OF 'laws.FnExactCircuitText'. -/
def fnExactCircuitTextUptoCard : Claim7 := { stood := { row := fnExactCircuitTextUptoRow, standIns := [], harness := (true, "e181bafff05cdbcb1f1f68c96e20275c0680f9a519536c86911d913bb3e3cbb1"), looks := false }, kinds := [], alts := [], laidByText := true, laidKinds := [.data, .data, .data, .data], laidTests := true, laidLooks := .later }
def FnExactCircuitTextUptoCardSaid : Prop := Claim7.holds Tryd.pinned (.plain (OpenSpec.upto fnExactCircuitTextSpec)) fnExactCircuitTextUptoCard
end Rows
end Go.Proofs.YtaohgbkhmgfnhaaDoor
