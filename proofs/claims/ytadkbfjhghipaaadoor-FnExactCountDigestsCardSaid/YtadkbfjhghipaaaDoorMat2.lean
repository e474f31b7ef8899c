/- What the program's small functions over lists of lists do: copies, the closures of SolveLinear and eliminate, the search for a row. For slices of at most 16777216 elements. -/
import Derived.Test.YtadkbfjhghipaaaDoorMat1
import Derived.Deep.RegionLaw
import Derived.Deep.AppendLies
namespace Go.Proofs.YtadkbfjhghipaaaDoor
open Go.RowKit

end Go.Proofs.YtadkbfjhghipaaaDoor
