/- The program's values of wires: WireValues. For every circuit of at most 1048576 gates and outs and every two lists of at most 16777216 numbers. -/
import Derived.Test.YtaohgbkhmgfnhaaDoorCirI4
import Derived.Test.YtaohgbkhmgfnhaaDoorCirG4
namespace Go.Proofs.YtaohgbkhmgfnhaaDoor
open Go.RowKit
set_option maxRecDepth 100000

theorem asked64 {C : Ci} {a b : List Int} : asked C a b = (gd C && good 64 a && good 64 b && decide ((a.length : Int) = C.in0) && decide ((b.length : Int) = C.in1)) := by
  rw [asked]
  cases e : gd C with
  | false => rfl
  | true =>
    have hG := gd_yes e
    have h1 := hG.a1
    have h2 := hG.b1
    by_cases l1 : (a.length : Int) = C.in0
    · by_cases l2 : (b.length : Int) = C.in1
      · have g1 : good 20 a = good 64 a := by unfold good; rw [decide_eq_true (by omega), decide_eq_true (by omega)]
        have g2 : good 20 b = good 64 b := by unfold good; rw [decide_eq_true (by omega), decide_eq_true (by omega)]
        rw [g1, g2]
      · rw [decide_eq_false l2, Bool.and_false, Bool.and_false]
    · rw [decide_eq_false l1, Bool.and_false, Bool.and_false]

end Go.Proofs.YtaohgbkhmgfnhaaDoor
