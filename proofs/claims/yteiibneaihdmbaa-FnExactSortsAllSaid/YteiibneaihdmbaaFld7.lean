/- What the tests of points do: the model puts the points in order into a list without repetitions, the program looks each point up among those before it. For slices of at most 16777216 elements. -/
import Derived.Test.YteiibneaihdmbaaFld6
import Derived.Laws.AppendOwnNone
namespace Go.Proofs.Yteiibneaihdmbaa
open Go.RowKit
set_option maxRecDepth 100000

end Go.Proofs.Yteiibneaihdmbaa
