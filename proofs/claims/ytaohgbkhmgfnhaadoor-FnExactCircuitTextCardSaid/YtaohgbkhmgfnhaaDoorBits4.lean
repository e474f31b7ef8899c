/- What NumberOf and SignedOf do, the program's and the model's: both give the same number of a word. For slices of at most 16777216 elements. -/
import Derived.Test.YtaohgbkhmgfnhaaDoorBits3
namespace Go.Proofs.YtaohgbkhmgfnhaaDoor
open Go.RowKit
set_option maxRecDepth 100000

def numTo (zs : List Int) : Nat → Int
  | 0 => 0
  | k + 1 => numTo zs k + zs.getD k 0 * 2 ^ k

theorem numTo_range (zs : List Int) : ∀ k, (∀ j, j < k → 0 ≤ zs.getD j 0 ∧ zs.getD j 0 ≤ 1) → 0 ≤ numTo zs k ∧ numTo zs k < 2 ^ k := by
  intro k
  induction k with
  | zero => intro _; simp [numTo]
  | succ k ih =>
    intro h
    have h1 := ih (fun j hj => h j (by omega))
    have h2 := h k (by omega)
    rcases bit_cases h2 with e | e <;> simp only [numTo, e, Int.pow_succ] <;> omega

def m_NumberOf (zs : List Int) : Int × Bool := if good 16 zs then (numTo zs zs.length, true) else (0, false)
def m_SignedOf (zs : List Int) : Int × Bool := if good 16 zs && decide (0 < zs.length) then (numTo zs zs.length - zs.getD (zs.length - 1) 0 * 2 ^ zs.length, true) else (0, false)

theorem pow16 {k : Nat} (h : k ≤ 16) : (2 : Int) ^ k ≤ 65536 ∧ 1 ≤ (2 : Int) ^ k := by
  rcases (show k = 0 ∨ k = 1 ∨ k = 2 ∨ k = 3 ∨ k = 4 ∨ k = 5 ∨ k = 6 ∨ k = 7 ∨ k = 8 ∨ k = 9 ∨ k = 10 ∨ k = 11 ∨ k = 12 ∨ k = 13 ∨ k = 14 ∨ k = 15 ∨ k = 16 by omega) with e | e | e | e | e | e | e | e | e | e | e | e | e | e | e | e | e <;> subst e <;> decide

theorem num_step (a z t p : Int) : a + z * p + t * (p * 2) = a + (2 * t + z) * p := by grind
theorem le_mul_pow {t p : Int} (h : 0 ≤ t) (hp : 1 ≤ p) : t ≤ t * p := by
  have := Int.mul_le_mul_of_nonneg_left hp h
  omega

end Go.Proofs.YtaohgbkhmgfnhaaDoor
