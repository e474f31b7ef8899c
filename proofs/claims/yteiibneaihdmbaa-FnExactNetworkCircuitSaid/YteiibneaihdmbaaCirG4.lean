/- The model's WireValues and EvalCircuit. For every circuit of at most 1048576 gates and outs and every two lists of at most 16777216 numbers. -/
import Derived.Test.YteiibneaihdmbaaCirG3
namespace Go.Proofs.Yteiibneaihdmbaa
open Go.RowKit
set_option maxRecDepth 100000

/-- The outs' wires of a valid circuit. -/
theorem outsIn {C : Ci} (h : Good C) {m : Nat} (hm : (m : Int) = C.wires) : ∀ k, k < C.os.length → 0 ≤ C.os.getD k 0 ∧ C.os.getD k 0 < (m : Int) := fun k hk => by
  have := h.out k hk
  omega

end Go.Proofs.Yteiibneaihdmbaa
