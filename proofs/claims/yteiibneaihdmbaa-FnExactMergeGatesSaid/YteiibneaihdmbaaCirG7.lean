/- The model's depths: DepthOf. For every circuit of at most 1048576 gates and outs. -/
import Derived.Test.YteiibneaihdmbaaCirG6
namespace Go.Proofs.Yteiibneaihdmbaa
open Go.RowKit
set_option maxRecDepth 100000

end Go.Proofs.Yteiibneaihdmbaa
