/- The model's moved gates. For valid gates and at most 1000 wires. -/
import Derived.Test.YteiibneaihdmbaaCirM6
import Derived.Test.YteiibneaihdmbaaCirA1
import Derived.Deep.DeepCutAuto
namespace Go.Proofs.Yteiibneaihdmbaa
open Go.RowKit
set_option maxRecDepth 100000

end Go.Proofs.Yteiibneaihdmbaa
