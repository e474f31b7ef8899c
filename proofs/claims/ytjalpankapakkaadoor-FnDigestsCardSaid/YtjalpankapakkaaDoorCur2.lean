/- What the model's reader does with texts and pairs of numbers. -/
import Derived.Test.YtjalpankapakkaaDoorGenHelp
import Derived.Test.YtjalpankapakkaaDoorBits9
namespace Go.Proofs.YtjalpankapakkaaDoor
open Go.RowKit

theorem convOne (W : World) (z : Int) : (convert 22 9 (.slice (some ⟨W.heap.size, 0, none⟩) 1 1)).run Tryd.prog (W.alloc (.cells #[.int .u8 z] 5)) = .ok (.string (strOfNums [z])) (W.alloc (.cells #[.int .u8 z] 5)) :=
  run_convert_bytes_arg (P := Tryd.prog) _ 22 5 Tryd.underlying22 Tryd.underlying5 W.heap.size 0 1 1 [z] rfl
    (fun i hi => by obtain rfl : i = 0 := by omega
                    simp) 9 Tryd.underlying9

/-- A text that came out of the reader. -/
def SomeText (w w' : World) (e : Ending) : Prop := ∃ t : ByteArray, e = .returned (.string t) ∧ t.size ≤ 1100 ∧ Below w.heap.size w w'

/-- Two numbers that came out of the reader. -/
def TwoInts (w w' : World) (e : Ending) : Prop := ∃ x y : Int, e = .returned (.tuple #[.int .i64 x, .int .i64 y]) ∧ I64 x ∧ I64 y ∧ Below w.heap.size w w'

end Go.Proofs.YtjalpankapakkaaDoor
