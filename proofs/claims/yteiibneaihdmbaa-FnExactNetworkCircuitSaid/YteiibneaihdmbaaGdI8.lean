/- The program's ChooseCircuit. For every width. -/
import Derived.Test.YteiibneaihdmbaaGdI4
import Derived.Test.YteiibneaihdmbaaGdI7
namespace Go.Proofs.Yteiibneaihdmbaa
open Go Go.RowKit
set_option maxRecDepth 100000

theorem rangeL_take (x : Int) {m p : Nat} (h : m ≤ p) : (rangeL x p).take m = rangeL x m := by
  apply List.ext_getElem
  · simp [rangeL, mapTo]; omega
  · intro i h1 h2
    simp [rangeL, mapTo]

theorem rangeL_drop (x : Int) (m k : Nat) : (rangeL x (m + k)).drop m = rangeL (x + (m : Int)) k := by
  apply List.ext_getElem
  · simp [rangeL, mapTo]
  · intro i h1 h2
    simp [rangeL, mapTo]
    omega

end Go.Proofs.Yteiibneaihdmbaa
