/- What NotBits and XorBits do, the program's and the model's: both give the same bits, the program's in a row of its own. For slices of at most 16777216 elements. -/
import Derived.Test.YtaohgbkhmgfnhaaDoorBits3
import Derived.Test.YtaohgbkhmgfnhaaDoorLists
namespace Go.Proofs.YtaohgbkhmgfnhaaDoor
open Go.RowKit
set_option maxRecDepth 100000

def m_NotBits (zs : List Int) : List Int × Bool := if good 64 zs then (mapTo (fun j => 1 - zs.getD j 0) zs.length, true) else ([], false)
def m_XorBits (xs ys : List Int) : List Int × Bool := if even xs ys then (mapTo (fun j => (xs.getD j 0 + ys.getD j 0) % 2) xs.length, true) else ([], false)

/-- The answer 'no list, false'. -/
theorem noList (w : World) : Own w w.heap.size none 0 0 [] ∧ 0 ≤ 16777216 ∧ Below w.heap.size w w := ⟨Own.nil_ _ _, by omega, Below.refl _ _⟩

end Go.Proofs.YtaohgbkhmgfnhaaDoor
