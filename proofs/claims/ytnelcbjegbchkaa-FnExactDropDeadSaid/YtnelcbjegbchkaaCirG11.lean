/- The model's moved gates. For valid gates and at most 1000 wires. -/
import Derived.Test.YtnelcbjegbchkaaCirM6
import Derived.Test.YtnelcbjegbchkaaCirA1
import Derived.Deep.DeepCutAuto
namespace Go.Proofs.Ytnelcbjegbchkaa
open Go.RowKit
set_option maxRecDepth 100000

end Go.Proofs.Ytnelcbjegbchkaa
