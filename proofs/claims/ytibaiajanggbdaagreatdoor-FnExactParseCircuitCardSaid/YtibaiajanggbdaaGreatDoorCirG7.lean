/- The model's depths: DepthOf. For every circuit of at most 1048576 gates and outs. -/
import Derived.Test.YtibaiajanggbdaaGreatDoorCirG6
namespace Go.Proofs.YtibaiajanggbdaaGreatDoor
open Go.RowKit
set_option maxRecDepth 100000

end Go.Proofs.YtibaiajanggbdaaGreatDoor
