/- What AddMod, MulMod, PowMod, InverseMod and DivideMod do, the program's and the model's: the same element, or no element for what is none. -/
import Derived.Test.YteiibneaihdmbaaFld1
namespace Go.Proofs.Yteiibneaihdmbaa
open Go.RowKit
set_option maxRecDepth 100000

def one (a : Int) : List Int := [a]
def two (a b : Int) : List Int := [a, b]
theorem hasOne (w : World) (a : Int) : Has (w.alloc (.cells #[.int .i64 a] 3)) (some ⟨w.heap.size, 0, none⟩) 1 (one a) := hasNew w [a] _
theorem hasTwo (w : World) (a b : Int) : Has (w.alloc (.cells #[.int .i64 a, .int .i64 b] 3)) (some ⟨w.heap.size, 0, none⟩) 2 (two a b) := hasNew w [a, b] _
theorem elsOne {p a : Int} : elsIn p (one a) = (primeB p && decide (0 ≤ a ∧ a < p)) := by
  unfold elsIn allIn one
  congr 1
  rw [Bool.eq_iff_iff]
  simp
  omega
theorem elsTwo {p a b : Int} : elsIn p (two a b) = (primeB p && decide (0 ≤ a ∧ a < p ∧ 0 ≤ b ∧ b < p)) := by
  unfold elsIn allIn two
  congr 1
  rw [Bool.eq_iff_iff]
  simp
  omega
theorem elsTwo_yes {p a b : Int} (h : elsIn p (two a b) = true) : primeB p = true ∧ 2 ≤ p ∧ p ≤ 251 ∧ 0 ≤ a ∧ a < p ∧ 0 ≤ b ∧ b < p := by
  rw [elsTwo, Bool.and_eq_true, decide_eq_true_eq] at h
  have := primeB_yes h.1
  exact ⟨h.1, this.1, this.2, h.2⟩
theorem elsOne_yes {p a : Int} (h : elsIn p (one a) = true) : primeB p = true ∧ 2 ≤ p ∧ p ≤ 251 ∧ 0 ≤ a ∧ a < p := by
  rw [elsOne, Bool.and_eq_true, decide_eq_true_eq] at h
  have := primeB_yes h.1
  exact ⟨h.1, this.1, this.2, h.2⟩
/-- A product of two elements fits. -/
theorem mulFits {p a b : Int} (hp : p ≤ 251) (a0 : 0 ≤ a) (a1 : a < p) (b0 : 0 ≤ b) (b1 : b < p) : 0 ≤ a * b ∧ a * b ≤ 62500 := by
  have h1 : a ≤ 250 := by omega
  have h2 : b ≤ 250 := by omega
  refine ⟨Int.mul_nonneg a0 b0, ?_⟩
  have := Int.mul_le_mul h1 h2 b0 (by omega)
  omega
theorem modIn {a p : Int} (h : 2 ≤ p) : 0 ≤ a % p ∧ a % p < p := ⟨Int.emod_nonneg _ (by omega), Int.emod_lt_of_pos _ (by omega)⟩

def m_AddMod (p a b : Int) : Int × Bool := if elsIn p (two a b) then ((a + b) % p, true) else (0, false)
def m_MulMod (p a b : Int) : Int × Bool := if elsIn p (two a b) then (a * b % p, true) else (0, false)
def m_PowMod (p a n : Int) : Int × Bool := if elsIn p (one a) && decide (0 ≤ n ∧ n ≤ 1000000) then (powM p a n.toNat, true) else (0, false)
def m_InverseMod (p a : Int) : Int × Bool := if elsIn p (one a) && decide (a ≠ 0) then (powM p a (p.toNat - 2), true) else (0, false)
def m_DivideMod (p a b : Int) : Int × Bool := if elsIn p (two a b) && decide (b ≠ 0) then (a * powM p b (p.toNat - 2) % p, true) else (0, false)

end Go.Proofs.Yteiibneaihdmbaa
