/- What TurnBits does, the program's and the model's: both give the same bits, the program's in a row of its own. For slices of at most 16777216 elements. -/
import Derived.Test.YtjalpankapakkaaDoorBits6
namespace Go.Proofs.YtjalpankapakkaaDoor
open Go.RowKit

theorem tmod_emod (a m : Int) : a.tmod m % m = a % m := by
  have h := Int.tmod_add_mul_tdiv a m
  conv => rhs; rw [← h]
  rw [Int.add_mul_emod_self_left]

set_option maxHeartbeats 400000 in
theorem btMod_any (a m : Int) (r : Nat) (w : World) (ha : -2000 ≤ a) (hb : a ≤ 2000) (hm : 0 < m) (hm2 : m ≤ 64) (hr : a % m = (r : Int)) :
    Calls Tryd.prog 68 #[.int .i64 a, .int .i64 m] w fun e w' => e = .returned (.int .i64 (r : Int)) ∧ w = w' := by
  have HR := Lib.hid hr
  clear hr
  by_cases h0 : 0 ≤ a
  · have e0 := Int.emod_nonneg a (show m ≠ 0 by omega)
    have e1 := Int.emod_lt_of_pos a hm
    go_enter Tryd.func68, Tryd.ntmps68
    go_wp2
    go_ret
    exact ⟨retInt (by rw [Int.add_emod_right, Int.emod_emod, HR.out]), rfl⟩
  · have e0 := Int.lt_tmod_of_pos a hm
    have e1 := Int.tmod_lt_of_pos a hm
    go_enter Tryd.func68, Tryd.ntmps68
    go_wp2
    go_ret
    exact ⟨retInt (by rw [tmod_emod, HR.out]), rfl⟩

set_option maxHeartbeats 400000 in
theorem residueOf_any (a m : Int) (r : Nat) (w : World) (ha : -2000 ≤ a) (hb : a ≤ 2000) (hm : 0 < m) (hm2 : m ≤ 64) (hr : a % m = (r : Int)) :
    Calls Tryd.prog 72 #[.int .i64 a, .int .i64 m] w fun e w' => e = .returned (.int .i64 (r : Int)) ∧ w = w' := by
  have HR := Lib.hid hr
  clear hr
  by_cases h0 : 0 ≤ a
  · have e0 := Int.emod_nonneg a (show m ≠ 0 by omega)
    have e1 := Int.emod_lt_of_pos a hm
    go_enter Tryd.func72, Tryd.ntmps72
    go_wp2
    go_ret
    exact ⟨retInt (by rw [Int.add_emod_right, Int.emod_emod, HR.out]), rfl⟩
  · have e0 := Int.lt_tmod_of_pos a hm
    have e1 := Int.tmod_lt_of_pos a hm
    go_enter Tryd.func72, Tryd.ntmps72
    go_wp2
    go_ret
    exact ⟨retInt (by rw [tmod_emod, HR.out]), rfl⟩

def turnOk (zs : List Int) (k : Int) : Bool := good 64 zs && (decide (-1000 ≤ k) && decide (k ≤ 1000))
def turned (zs : List Int) (k : Int) (j : Nat) : Int := zs.getD (((j : Int) + k) % (zs.length : Int)).toNat 0
def m_TurnBits (zs : List Int) (k : Int) : List Int × Bool := if turnOk zs k then (mapTo (turned zs k) zs.length, true) else ([], false)

/-- The place from which bit j is taken. -/
theorem turn_place {n j : Nat} {k : Int} (hj : j < n) : ∃ r : Nat, ((j : Int) + k) % (n : Int) = (r : Int) ∧ r < n := by
  have e0 := Int.emod_nonneg ((j : Int) + k) (show (n : Int) ≠ 0 by omega)
  have e1 := Int.emod_lt_of_pos ((j : Int) + k) (show (0 : Int) < (n : Int) by omega)
  exact ⟨(((j : Int) + k) % (n : Int)).toNat, by omega, by omega⟩

end Go.Proofs.YtjalpankapakkaaDoor
