/- The model's circuit after another. For every two circuits of at most 1048576 gates and outs. -/
import Derived.Test.YteiibneaihdmbaaCirG11
import Derived.Test.YteiibneaihdmbaaCirG12
import Derived.Test.YteiibneaihdmbaaCirG2
import Derived.Test.YteiibneaihdmbaaCirA2
import Derived.Deep.RegionLaw
import Derived.Deep.RegionWith
namespace Go.Proofs.Yteiibneaihdmbaa
open Go.RowKit
set_option maxRecDepth 100000

/-- A step that its guard passes over. -/
theorem skipStep {o : Oper} {ys : Nat → Option Bool} {X E : Prop} (h : Region.wanted o ys = false) (hE : E) : if Region.wanted o ys = true then X else E := by
  rw [if_neg (by rw [h]; exact Bool.false_ne_true)]
  exact hE

end Go.Proofs.Yteiibneaihdmbaa
