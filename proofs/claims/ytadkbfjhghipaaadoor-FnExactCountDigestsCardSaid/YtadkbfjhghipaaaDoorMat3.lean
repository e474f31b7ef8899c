/- What the program's 'changed' makes of rows, its search for a row and its closures do. For slices of at most 16777216 elements. -/
import Derived.Test.YtadkbfjhghipaaaDoorMat2
namespace Go.Proofs.YtadkbfjhghipaaaDoor
open Go.RowKit

theorem Has.some_ {w : World} {A : Option Addr} {n : Nat} {zs : List Int} (h : Has w A n zs) (hn : 0 < n) : ∃ ad : Addr, A = some ad := by
  obtain ⟨ad, e, _⟩ := h.2 hn
  exact ⟨ad, e⟩

end Go.Proofs.YtadkbfjhghipaaaDoor
