/- A returned truth value that is another one's equal. -/
import Derived.Test.YteiibneaihdmbaaGen1
namespace Go.Proofs.Yteiibneaihdmbaa
open Go.RowKit
set_option maxRecDepth 100000

theorem retBl {a b : Bool} (h : a = b) : Ending.returned (.bool a) = Ending.returned (.bool b) := by rw [h]
theorem call_eq {P : Program} {f : Nat} {args args1 : Array Value} {w w1 : World} {R : Ending → World → Prop} (ha : args1 = args) (hw : w1 = w) (h : Calls P f args1 w1 R) : Calls P f args w R := by
  subst ha
  subst hw
  exact h
end Go.Proofs.Yteiibneaihdmbaa
