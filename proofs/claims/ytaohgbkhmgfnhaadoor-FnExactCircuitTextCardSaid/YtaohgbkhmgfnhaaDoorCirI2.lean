/- The library's joining of two lists (slices.Concat over slices.Grow), at integers and at gates; make with room to spare. For slices of at most 16777216 elements. -/
import Derived.Test.YtaohgbkhmgfnhaaDoorCirI1
import Derived.Test.YtaohgbkhmgfnhaaDoorCirA2
import Derived.Lib.AppendZeros
import Derived.Deep.DeepCutAuto
namespace Go.Proofs.YtaohgbkhmgfnhaaDoor
open Go.RowKit
set_option maxRecDepth 100000

/-- make([]int, 0, n): a row with room for n. -/
theorem makeSpare {ops : Array Oper} {rest : List Oper} {o : Oper} {a : Act} {Q : Exit → Act → World → Prop} (w : World) (hg : o.guard = none) (l c : Operand) (hop : o.op = Op.makeSlice 23 l c)
    (n : Nat) (hl : a.eval l = .int .i64 0) (hc : a.eval c = .int .i64 (n : Int)) (hn : n ≤ 16777216)
    (hK : ∀ w', Own w' w.heap.size (some ⟨w.heap.size, 0, none⟩) 0 n [] → Below w.heap.size w w' → wpList Tryd.prog ops Q rest (a.put o.dst (.slice (some ⟨w.heap.size, 0, none⟩) 0 n)) w') :
    wpList Tryd.prog ops Q (o :: rest) a w := by
  obtain ⟨i0, hi, hz0, hz1, hz2⟩ := info_parts infoInt
  refine wpList_make_own _ hg l c 23 hop w.heap.size 3 i0 (.int .i64 0) 1 Tryd.underlying23 hi hz0 hz1 .i64 .i64 _ n hl hc rfl (by rw [hz2]; omega) (by simp only [maxLen]; omega) (Nat.le_refl _) ?_
  intro w1 hown hgrow
  exact hK w1 ⟨rfl, hown⟩ (belowOf hgrow)

theorem size_zeroes (cs : Array Value) : ∀ n, (Builtin.zeroCells cs n).size = n * cs.size
  | 0 => by simp [Builtin.zeroCells]
  | n + 1 => by simp [Builtin.zeroCells]

/-- One of three, by a number. -/
def pre3 {α : Type} (k : Nat) (a b c : α) : α := match k with | 0 => a | 1 => b | _ => c

end Go.Proofs.YtaohgbkhmgfnhaaDoor
