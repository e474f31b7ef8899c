/- What the four helpers of the exact laws do with a slice of integers: copy it, compare two, write marks into one, and look whether the marks are still there. Each for slices of at most 16777216 elements. -/
import Derived.Test.YtjalpankapakkaaDoorBase
namespace Go.Proofs.YtjalpankapakkaaDoor
open Go.RowKit

/-- The marks m, m + 1, .. of a row of n cells. -/
def marks (m : Int) (n : Nat) : List Int := (List.range n).map fun (j : Nat) => m + (j : Int)
theorem marks_length (m : Int) (n : Nat) : (marks m n).length = n := by simp [marks]
theorem marks_at (m : Int) (n k : Nat) (h : k < n) : (marks m n).getD k 0 = m + (k : Int) := by
  simp [marks, List.getD, h]
theorem marks_vals (m : Int) (n k : Nat) (h : k < n) : (vals (marks m n))[k]? = some (.int .i64 (m + (k : Int))) := by
  rw [vals_at _ _ (by rw [marks_length]; exact h), marks_at _ _ _ h]

/-- Of the cells of a row the first k bear marks. -/
def Marked (w : World) (B : Nat) (A : Option Addr) (n c : Nat) (m : Int) (k : Nat) : Prop :=
  ∃ xs : List Value, w.ownsRow B 3 1 (.slice A n c) n xs ∧ ∀ j, j < k → xs[j]? = some (.int .i64 (m + (j : Int)))

section
variable {w : World} {B n c k : Nat} {A : Option Addr} {m : Int}
theorem Marked.start {zs : List Int} (h : Own w B A n c zs) (m : Int) : Marked w B A n c m 0 := ⟨_, h.2, by intro j hj; omega⟩
theorem Marked.at_ (h : Marked w B A n c m k) (hk : k < n) : ∃ g : Nat, A = some ⟨g, 0, none⟩ ∧ (∃ u, w.cell? ⟨g, k, none⟩ = some u) ∧ w.frozen? ⟨g, k, none⟩ = false := by
  obtain ⟨xs, ho, _⟩ := h
  have hl : xs.length = n := by simpa using ho.1
  obtain ⟨g, cap, hv, _, hlt⟩ := ho.form (by omega)
  have hA : A = some ⟨g, 0, none⟩ := by injection hv
  subst hA
  exact ⟨g, rfl, ⟨xs[k]'(by omega), by rw [ho.cellAt k (by omega)]; exact List.getElem?_eq_getElem _⟩, ho.frozenAt k⟩
theorem Marked.put {g : Nat} (h : Marked w B (some ⟨g, 0, none⟩) n c m k) (hk : k < n) : Marked (w.setCell ⟨g, k, none⟩ (.int .i64 (m + (k : Int)))) B (some ⟨g, 0, none⟩) n c m (k + 1) := by
  obtain ⟨xs, ho, hx⟩ := h
  have hl : xs.length = n := by simpa using ho.1
  refine ⟨_, (ho.stored k _).1, fun j hj => ?_⟩
  by_cases e : j = k
  · subst e
    rw [List.getElem?_set_self (by omega)]
  · rw [List.getElem?_set_ne (by omega)]
    exact hx j (by omega)
theorem Marked.full (h : Marked w B A n c m n) : Own w B A n c (marks m n) := by
  obtain ⟨xs, ho, hx⟩ := h
  have hl : xs.length = n := by simpa using ho.1
  refine ⟨marks_length _ _, ?_⟩
  have : xs = vals (marks m n) := by
    apply List.ext_getElem?
    intro j
    by_cases hj : j < n
    · rw [hx j hj, marks_vals _ _ _ hj]
    · rw [List.getElem?_eq_none (by omega), List.getElem?_eq_none (by rw [vals_length, marks_length]; omega)]
  rw [← this]
  exact ho
end

theorem grown_setCell {a w : World} {g : Nat} (h : a.grownBy w (some g)) (k : Nat) (u : Value) : a.grownBy (w.setCell ⟨g, k, none⟩ u) (some g) :=
  ⟨h.os, h.tape, h.output, by simpa [World.setCell] using h.size, fun i hi hne => (Below.heap_setCell w ⟨g, k, none⟩ u i (fun e => hne (by rw [e]))).trans (h.block i hi hne)⟩

end Go.Proofs.YtjalpankapakkaaDoor
