/- What the program's SolveLinear does: Gauss's elimination, column by column. For slices of at most 16777216 elements. -/
import Derived.Test.YtadkbfjhghipaaaDoorMat4
namespace Go.Proofs.YtadkbfjhghipaaaDoor
open Go.RowKit Go.Shelf

/-- As many equations as unknowns, 1 to 6 of each, over a small field. -/
def sysM (p : Int) (n : Nat) (M : Nat → List Int) (ys : List Int) : Bool := decide (1 ≤ n ∧ n ≤ 6 ∧ ys.length = n ∧ (∀ i, i < n → (M i).length = n ∧ elsIn p (M i) = true) ∧ elsIn p ys = true)
/-- The equations when k columns are eliminated; none if there is no one solution. -/
def gaussM (p : Int) (n : Nat) (M : Nat → List Int) : Nat → Option (Nat → List Int)
  | 0 => some M
  | k + 1 => match gaussM p n M k with
    | none => none
    | some N => if pivot N k n = n then none else some (nextM p n N k (pivot N k n))
def joinM (M : Nat → List Int) (ys : List Int) : Nat → List Int := fun i => M i ++ [ys.getD i 0]
def solM (p : Int) (n : Nat) (M : Nat → List Int) : List Int × Bool := match gaussM p n M n with
  | none => ([], false)
  | some N => (mapTo (fun i => (N i).getD n 0) n, true)
def m_SolveLinear (p : Int) (n : Nat) (M : Nat → List Int) (ys : List Int) : List Int × Bool := if sysM p n M ys then solM p n (joinM M ys) else ([], false)

theorem gaussM_none {p : Int} {n : Nat} {M : Nat → List Int} {k : Nat} (h : gaussM p n M k = none) : ∀ d, gaussM p n M (k + d) = none := by
  intro d
  induction d with
  | zero => exact h
  | succ d ih => rw [← Nat.add_assoc, gaussM, ih]
theorem sysM_yes {p : Int} {n : Nat} {M : Nat → List Int} {ys : List Int} (h : sysM p n M ys = true) : primeB p = true ∧ 1 ≤ n ∧ n ≤ 6 ∧ ys.length = n ∧ (∀ i, i < n → (M i).length = n) ∧ GoodM p n (joinM M ys) := by
  obtain ⟨h1, h2, h3, h4, h5⟩ := of_decide_eq_true h
  have hy := elsIn_yes h5
  have p2 := (primeB_yes hy.1).1
  refine ⟨hy.1, h1, h2, h3, fun i hi => (h4 i hi).1, fun i hi => ⟨by rw [joinM, List.length_append, (h4 i hi).1]; rfl, all_in p2 fun j hj => ?_⟩⟩
  have hrow := elsIn_yes (h4 i hi).2
  rw [joinM, List.length_append, (h4 i hi).1] at hj
  have hl := (h4 i hi).1
  by_cases e : j < n
  · have e2 : (joinM M ys i).getD j 0 = (M i).getD j 0 := by
      rw [joinM, List.getD, List.getElem?_append_left (by omega), List.getD]
    rw [e2]
    exact hrow.2 j (by omega)
  · have e2 : (joinM M ys i).getD j 0 = ys.getD i 0 := by
      have : j = n := by simp at hj; omega
      rw [joinM, List.getD, List.getElem?_append_right (by omega), hl, this, Nat.sub_self]
      rfl
    rw [e2]
    exact hy.2 i (by omega)

end Go.Proofs.YtadkbfjhghipaaaDoor
