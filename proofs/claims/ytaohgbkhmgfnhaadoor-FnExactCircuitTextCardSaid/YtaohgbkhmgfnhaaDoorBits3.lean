/- What ParityOf and the tests of two lists of bits do, the program's and the model's. For slices of at most 16777216 elements. -/
import Derived.Test.YtaohgbkhmgfnhaaDoorBits2
namespace Go.Proofs.YtaohgbkhmgfnhaaDoor
open Go.RowKit
set_option maxRecDepth 100000

/-- Both are bits, of one length. -/
def even (xs ys : List Int) : Bool := good 64 xs && good 64 ys && decide (xs.length = ys.length)

theorem even_yes {xs ys : List Int} (h : even xs ys = true) : good 64 xs = true ∧ good 64 ys = true ∧ xs.length = ys.length := by
  unfold even at h
  rw [Bool.and_eq_true, Bool.and_eq_true, decide_eq_true_eq] at h
  exact ⟨h.1.1, h.1.2, h.2⟩

theorem even_cases (xs ys : List Int) : (good 64 xs = false ∧ even xs ys = false) ∨ (good 64 xs = true ∧ good 64 ys = false ∧ even xs ys = false) ∨
    (good 64 xs = true ∧ good 64 ys = true ∧ ¬ xs.length = ys.length ∧ even xs ys = false) ∨ (good 64 xs = true ∧ good 64 ys = true ∧ xs.length = ys.length ∧ even xs ys = true) := by
  unfold even
  cases h1 : good 64 xs with
  | false => exact .inl ⟨rfl, rfl⟩
  | true =>
    cases h2 : good 64 ys with
    | false => exact .inr (.inl ⟨rfl, rfl, rfl⟩)
    | true =>
      by_cases h3 : xs.length = ys.length
      · exact .inr (.inr (.inr ⟨rfl, rfl, h3, by simp [h3]⟩))
      · exact .inr (.inr (.inl ⟨rfl, rfl, h3, by simp [h3]⟩))

/-- The test of two lists as the model has it: three tests in a row. -/
theorem bit_cases {z : Int} (h : 0 ≤ z ∧ z ≤ 1) : z = 0 ∨ z = 1 := by omega

def parTo (xs ys : List Int) : Nat → Int
  | 0 => 0
  | k + 1 => (parTo xs ys k + xs.getD k 0 * ys.getD k 0) % 2

def m_ParityOf (xs ys : List Int) : Int × Bool := if even xs ys then (parTo xs ys xs.length, true) else (0, false)

end Go.Proofs.YtaohgbkhmgfnhaaDoor
