/- What the program's interpolation does: it takes in one point after the other, by Newton's way. For slices of at most 12 points of a small field. -/
import Derived.Test.YteiibneaihdmbaaFld10
import Derived.Deep.RegionWith
namespace Go.Proofs.Yteiibneaihdmbaa
open Go.RowKit
set_option maxRecDepth 100000

theorem newC_all {p : Int} {xs ys : List Int} (h : 2 ≤ p) (k : Nat) : ∀ j, 0 ≤ (newC p xs ys k).getD j 0 ∧ (newC p xs ys k).getD j 0 < p := all_in h (newC_in h k)
theorem newV_all {p : Int} {xs : List Int} (h : 2 ≤ p) (k : Nat) : ∀ j, 0 ≤ (newV p xs k).getD j 0 ∧ (newV p xs k).getD j 0 < p := all_in h (newV_in h k)

end Go.Proofs.Yteiibneaihdmbaa
