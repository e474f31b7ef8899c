/- What EvalPoly does, the program's and the model's: the same value. For slices of at most 16777216 elements. -/
import Derived.Test.YteiibneaihdmbaaFld4
namespace Go.Proofs.Yteiibneaihdmbaa
open Go.RowKit
set_option maxRecDepth 100000

def m_EvalPoly (p : Int) (zs : List Int) (x : Int) : Int × Bool := if decide (zs.length ≤ 12) && elsIn p zs && elsIn p (one x) then (evM p x zs, true) else (0, false)

end Go.Proofs.Yteiibneaihdmbaa
