/- The program's values of wires: WireValues. For every circuit of at most 1048576 gates and outs and every two lists of at most 16777216 numbers. -/
import Derived.Test.YtaohgbkhmgfnhaaDoorCirI3
import Derived.BigQuiet
import Derived.Deep.QuietTactic
namespace Go.Proofs.YtaohgbkhmgfnhaaDoor
open Go.RowKit
set_option maxRecDepth 100000

end Go.Proofs.YtaohgbkhmgfnhaaDoor
