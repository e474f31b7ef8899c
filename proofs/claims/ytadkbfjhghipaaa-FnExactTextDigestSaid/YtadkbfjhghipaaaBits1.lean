/- What the two AreBits do (the program's and the model's), and the model's tests of ranges: each answers whether all elements are in a range and there are few enough. For slices of at most 16777216 elements. -/
import Derived.Test.YtadkbfjhghipaaaBase
namespace Go.Proofs.Ytadkbfjhghipaaa
open Go.RowKit

/-- All elements lie between lo and hi. -/
def allIn (lo hi : Int) (zs : List Int) : Bool := zs.all fun z => decide (lo ≤ z) && decide (z ≤ hi)
/-- At most 'most' elements, each 0 or 1. -/
def good (most : Nat) (zs : List Int) : Bool := decide (zs.length ≤ most) && allIn 0 1 zs

theorem allIn_yes {lo hi : Int} {zs : List Int} (h : allIn lo hi zs = true) (k : Nat) (hk : k < zs.length) : lo ≤ zs.getD k 0 ∧ zs.getD k 0 ≤ hi := by
  unfold allIn at h
  rw [List.all_eq_true] at h
  have := h zs[k] (List.getElem_mem hk)
  simpa [List.getD, List.getElem?_eq_getElem hk] using this
theorem allIn_mk {lo hi : Int} {zs : List Int} (h : ∀ k, k < zs.length → lo ≤ zs.getD k 0 ∧ zs.getD k 0 ≤ hi) : allIn lo hi zs = true := by
  unfold allIn
  rw [List.all_eq_true]
  intro z hz
  obtain ⟨k, hk, rfl⟩ := List.getElem_of_mem hz
  have := h k hk
  simpa [List.getD, List.getElem?_eq_getElem hk] using this
theorem good_yes {m : Nat} {zs : List Int} (h : good m zs = true) : zs.length ≤ m ∧ ∀ k, k < zs.length → 0 ≤ zs.getD k 0 ∧ zs.getD k 0 ≤ 1 := by
  unfold good at h
  rw [Bool.and_eq_true, decide_eq_true_eq] at h
  exact ⟨h.1, allIn_yes h.2⟩
theorem good_mk {m : Nat} {zs : List Int} (h : zs.length ≤ m) (h' : ∀ k, k < zs.length → 0 ≤ zs.getD k 0 ∧ zs.getD k 0 ≤ 1) : good m zs = true := by
  unfold good
  rw [Bool.and_eq_true, decide_eq_true_eq]
  exact ⟨h, allIn_mk h'⟩

end Go.Proofs.Ytadkbfjhghipaaa
