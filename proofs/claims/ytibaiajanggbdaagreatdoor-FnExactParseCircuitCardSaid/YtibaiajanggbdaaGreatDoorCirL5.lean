/- Lists of strings that the call owns: a new one, one string appended, put together. -/
import Derived.Test.YtibaiajanggbdaaGreatDoorCirL4
import Derived.Test.YtibaiajanggbdaaGreatDoorCirI9
import Derived.Deep.AppendLies
import Derived.Laws.OwnMore
namespace Go.Proofs.YtibaiajanggbdaaGreatDoor
open Go.RowKit Go.Shelf
set_option maxRecDepth 100000

/-- All bytes, one string behind the other. -/
def bytesOf (ts : List ByteArray) : List UInt8 := (ts.map (·.data.toList)).flatten
theorem bytesOf_add (ts : List ByteArray) (t : ByteArray) : bytesOf (ts ++ [t]) = bytesOf ts ++ t.data.toList := by simp [bytesOf]
theorem bytesOf_one (t : ByteArray) : bytesOf [t] = t.data.toList := by simp [bytesOf]
theorem data_length (t : ByteArray) : t.data.toList.length = t.size := rfl

end Go.Proofs.YtibaiajanggbdaaGreatDoor
