/- What the tests of points do, the program's and the model's: whether a number is a prime up to 251, two lists are as long as each other and of at most 12 elements of its field, and the first has no element twice. For slices of at most 16777216 elements. -/
import Derived.Test.YteiibneaihdmbaaFld7
import Derived.Test.YteiibneaihdmbaaPolyMath2
namespace Go.Proofs.Yteiibneaihdmbaa
open Go.RowKit
set_option maxRecDepth 100000

/-- The first k points are different. -/
def DiffTo (xs : List Int) (k : Nat) : Prop := ∀ i, i < k → ∀ j, j < i → xs.getD j 0 ≠ xs.getD i 0
instance (xs : List Int) (k : Nat) : Decidable (DiffTo xs k) := by unfold DiffTo; infer_instance
theorem diffTo_succ {xs : List Int} {k : Nat} (h : DiffTo xs k) (hk : ∀ j, j < k → xs.getD j 0 ≠ xs.getD k 0) : DiffTo xs (k + 1) := fun i hi j hj => by
  by_cases e : i = k
  · subst e; exact hk j hj
  · exact h i (by omega) j hj

/-- Points: at most 12 different elements of the field, and as many others. -/
def ptsOk (p : Int) (xs ys : List Int) : Bool := primeB p && (allIn 0 (p - 1) xs && (allIn 0 (p - 1) ys && decide (xs.length = ys.length ∧ DiffTo xs xs.length ∧ xs.length ≤ 12)))
theorem ptsOk_yes {p : Int} {xs ys : List Int} (h : ptsOk p xs ys = true) : Pts p xs ys xs.length ∧ xs.length ≤ 12 := by
  unfold ptsOk at h
  rw [Bool.and_eq_true, Bool.and_eq_true, Bool.and_eq_true, decide_eq_true_eq] at h
  obtain ⟨h1, h2, h3, h4, h5, h6⟩ := h
  refine ⟨⟨h1, rfl, h4.symm, fun k hk => ?_, fun k hk => ?_, fun i j hi hj hne => ?_⟩, h6⟩
  · have := allIn_yes h2 k hk; omega
  · have := allIn_yes h3 k (by omega); omega
  · by_cases hij : j < i
    · exact (h5 i hi j hij).symm
    · exact h5 j hj i (by omega)

end Go.Proofs.Yteiibneaihdmbaa
