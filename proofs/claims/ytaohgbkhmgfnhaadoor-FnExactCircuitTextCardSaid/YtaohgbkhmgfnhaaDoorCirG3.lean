/- The model's IsCircuit, WireValues, EvalCircuit. For every circuit of at most 1048576 gates and outs and every two lists of at most 16777216 numbers. -/
import Derived.Test.YtaohgbkhmgfnhaaDoorCirG2
import Derived.Deep.RegionHeld3
namespace Go.Proofs.YtaohgbkhmgfnhaaDoor
open Go.RowKit
set_option maxRecDepth 100000

/-- The cells of a box behind a call. -/
theorem Blk.four {w : World} {g : Nat} {a b c d : Value} {t : TypeId} (h : Blk w g #[a, b, c, d] t) : w.cell? ⟨g, 0, none⟩ = some a ∧ w.cell? ⟨g, 1, none⟩ = some b ∧ w.cell? ⟨g, 2, none⟩ = some c ∧ w.cell? ⟨g, 3, none⟩ = some d :=
  ⟨h.cell (i := 0) rfl, h.cell (i := 1) rfl, h.cell (i := 2) rfl, h.cell (i := 3) rfl⟩

end Go.Proofs.YtaohgbkhmgfnhaaDoor
