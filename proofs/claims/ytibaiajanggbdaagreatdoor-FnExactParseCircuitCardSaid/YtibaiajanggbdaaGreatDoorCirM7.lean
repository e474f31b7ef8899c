/- Circuits as mathematics: their texts, as lists of the characters' numbers. -/
import Derived.Test.YtibaiajanggbdaaGreatDoorCirM3
import Derived.Test.YtibaiajanggbdaaGreatDoorCirN1
namespace Go.Proofs.YtibaiajanggbdaaGreatDoor
open Go.RowKit
set_option maxRecDepth 100000

def kindL (k : Int) : List Int := if k = 0 then [120, 111, 114] else if k = 1 then [97, 110, 100] else if k = 2 then [110, 111, 116] else [111, 110, 101]
/-- Numbers, each with a blank ahead of it. -/
def numsL (is : List Int) : List Int := is.flatMap fun i => 32 :: numL i.toNat
def gateL (g : Ga) : List Int := kindL g.1 ++ numsL (partsOf g) ++ [10]
def gatesL (C : Ci) : Nat → List Int
  | 0 => []
  | k + 1 => gatesL C k ++ gateL (C.gs.getD k g0)
def headL (C : Ci) : List Int := [99, 105, 114, 99, 117, 105, 116, 32] ++ numL C.in0.toNat ++ [32] ++ numL C.in1.toNat ++ [10]
def textL (C : Ci) : List Int := headL C ++ gatesL C C.gs.length ++ [111, 117, 116, 115] ++ numsL C.os ++ [10]
def m_CircuitText (C : Ci) : ByteArray × Bool := if gd C = true then (strOfNums (textL C), true) else (ByteArray.empty, false)

theorem numsL_step (is : List Int) (j : Nat) (hj : j < is.length) : numsL (is.take (j + 1)) = numsL (is.take j) ++ ([32] ++ numL (is.getD j 0).toNat) := by
  have e : is.take (j + 1) = is.take j ++ [is.getD j 0] := by
    rw [List.take_add_one, List.getElem?_eq_getElem hj]
    simp [List.getD, List.getElem?_eq_getElem hj]
  rw [e, numsL, List.flatMap_append]
  simp [numsL]
theorem kindL_length (k : Int) : (kindL k).length = 3 := by
  unfold kindL
  split
  · rfl
  · split
    · rfl
    · split <;> rfl
end Go.Proofs.YtibaiajanggbdaaGreatDoor
