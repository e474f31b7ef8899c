/- What TurnBits does, the program's and the model's: both give the same bits, the program's in a row of its own. For slices of at most 16777216 elements. -/
import Derived.Test.YtaohgbkhmgfnhaaDoorBits6
namespace Go.Proofs.YtaohgbkhmgfnhaaDoor
open Go.RowKit
set_option maxRecDepth 100000

theorem tmod_emod (a m : Int) : a.tmod m % m = a % m := by
  have h := Int.tmod_add_mul_tdiv a m
  conv => rhs; rw [← h]
  rw [Int.add_mul_emod_self_left]

def turnOk (zs : List Int) (k : Int) : Bool := good 64 zs && (decide (-1000 ≤ k) && decide (k ≤ 1000))
def turned (zs : List Int) (k : Int) (j : Nat) : Int := zs.getD (((j : Int) + k) % (zs.length : Int)).toNat 0
def m_TurnBits (zs : List Int) (k : Int) : List Int × Bool := if turnOk zs k then (mapTo (turned zs k) zs.length, true) else ([], false)

/-- The place from which bit j is taken. -/
theorem turn_place {n j : Nat} {k : Int} (hj : j < n) : ∃ r : Nat, ((j : Int) + k) % (n : Int) = (r : Int) ∧ r < n := by
  have e0 := Int.emod_nonneg ((j : Int) + k) (show (n : Int) ≠ 0 by omega)
  have e1 := Int.emod_lt_of_pos ((j : Int) + k) (show (0 : Int) < (n : Int) by omega)
  exact ⟨(((j : Int) + k) % (n : Int)).toNat, by omega, by omega⟩

end Go.Proofs.YtaohgbkhmgfnhaaDoor
