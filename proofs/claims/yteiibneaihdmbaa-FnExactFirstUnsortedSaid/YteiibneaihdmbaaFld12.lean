/- What the program's InterpolateAt and PolyThrough answer: the model's values. For slices of at most 16777216 elements. -/
import Derived.Test.YteiibneaihdmbaaFld11
namespace Go.Proofs.Yteiibneaihdmbaa
open Go.RowKit
set_option maxRecDepth 100000

def m_PolyThrough (p : Int) (xs ys : List Int) : List Int × Bool := if ptsOk p xs ys then (sumM p xs ys xs.length xs.length, true) else ([], false)
theorem elsOneOf {p x : Int} (h : primeB p = true) (b : Bool) (hb : decide (0 ≤ x ∧ x ≤ p - 1) = b) : elsIn p (one x) = b := by
  rw [elsOne, h, Bool.true_and, ← hb]
  exact decide_eq_decide.2 (by omega)

end Go.Proofs.Yteiibneaihdmbaa
