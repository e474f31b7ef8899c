/- Appending to a list that is full, and a new list made of another's elements by a closure: 'withMultiple' adds a multiple of one list to another in the field. For slices of at most 16777216 elements. -/
import Derived.Test.YteiibneaihdmbaaFld5
import Derived.ArgAppend
namespace Go.Proofs.Yteiibneaihdmbaa
open Go.RowKit
set_option maxRecDepth 100000

end Go.Proofs.Yteiibneaihdmbaa
