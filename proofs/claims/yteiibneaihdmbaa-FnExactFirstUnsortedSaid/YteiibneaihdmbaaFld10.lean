/- The model's weights of points and its sum of weighted values. For slices of at most 12 points of a small field. -/
import Derived.Test.YteiibneaihdmbaaFld9
namespace Go.Proofs.Yteiibneaihdmbaa
open Go.RowKit
set_option maxRecDepth 100000

theorem wtM_in {p x : Int} {xs : List Int} {i : Nat} (h : 2 ≤ p) (k : Nat) : 0 ≤ wtM p xs i x k ∧ wtM p xs i x k < p := by
  induction k with
  | zero => exact ⟨by show (0 : Int) ≤ 1; omega, by show (1 : Int) < p; omega⟩
  | succ k ih =>
    rw [wtM]
    split
    · exact ih
    · exact modIn h

def m_InterpolateAt (p : Int) (xs ys : List Int) (x : Int) : Int × Bool := if ptsOk p xs ys && decide (0 ≤ x ∧ x ≤ p - 1) then (atM p xs ys xs.length x xs.length, true) else (0, false)

end Go.Proofs.Yteiibneaihdmbaa
