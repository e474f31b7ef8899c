/- What the model's test of points does: the same as the program's. For slices of at most 16777216 elements. -/
import Derived.Test.YteiibneaihdmbaaFld8
namespace Go.Proofs.Yteiibneaihdmbaa
open Go.RowKit
set_option maxRecDepth 100000

/-- The ordered list of the first k points. -/
structure Met (xs rs : List Int) (m k : Nat) : Prop where
  order : rs.Pairwise (· < ·)
  mem : ∀ y, y ∈ rs ↔ ∃ i, i < k ∧ xs.getD i 0 = y
  all : m = k ↔ DiffTo xs k
theorem Met.start (xs : List Int) : Met xs [] 0 0 := ⟨List.Pairwise.nil, fun y => by simp, by simp [DiffTo]⟩
theorem Met.step {xs rs ts : List Int} {m k : Nat} (h : Met xs rs m k) (hle : m ≤ k) (ho : ts.Pairwise (· < ·)) (hm : ∀ y, y ∈ ts ↔ y = xs.getD k 0 ∨ y ∈ rs) : Met xs ts (putLen rs (xs.getD k 0) m) (k + 1) ∧ putLen rs (xs.getD k 0) m ≤ k + 1 := by
  refine ⟨⟨ho, fun y => ?_, ?_⟩, by unfold putLen; split <;> omega⟩
  · rw [hm, h.mem]
    constructor
    · rintro (rfl | ⟨i, hi, rfl⟩)
      · exact ⟨k, by omega, rfl⟩
      · exact ⟨i, by omega, rfl⟩
    · rintro ⟨i, hi, rfl⟩
      by_cases e : i = k
      · exact .inl (by rw [e])
      · exact .inr ⟨i, by omega, rfl⟩
  · unfold putLen
    split
    · rename_i hin
      obtain ⟨i, hi, he⟩ := (h.mem _).1 hin
      exact ⟨fun e => by omega, fun hd => absurd he (hd k (by omega) i hi)⟩
    · rename_i hout
      have hne : ∀ j, j < k → xs.getD j 0 ≠ xs.getD k 0 := fun j hj e => hout ((h.mem _).2 ⟨j, hj, e⟩)
      constructor
      · intro e
        exact diffTo_succ (h.all.1 (by omega)) hne
      · intro hd
        have := h.all.2 (fun i hi j hj => hd i (by omega) j hj)
        omega

end Go.Proofs.Yteiibneaihdmbaa
