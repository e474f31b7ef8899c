/- Circuits as mathematics: how often wires are read. -/
import Derived.Test.YteiibneaihdmbaaCirM4
namespace Go.Proofs.Yteiibneaihdmbaa
open Go.RowKit
set_option maxRecDepth 100000

/-- What the first k gates read. -/
def readsTo (C : Ci) : Nat → List Int
  | 0 => []
  | k + 1 => readsTo C k ++ partsOf (C.gs.getD k g0)
/-- What those of the last j gates read that are used. -/
def readsUsed (C : Ci) : Nat → List Int
  | 0 => []
  | j + 1 => (if usedB C j (C.ins + ((C.gs.length - 1 - j : Nat) : Int)) = true then partsOf (C.gs.getD (C.gs.length - 1 - j) g0) else []) ++ readsUsed C j
def usesAt (C : Ci) (j : Nat) : List Int := C.os ++ readsTo C (C.gs.length - j) ++ readsUsed C j
theorem usedB_iff (C : Ci) : ∀ (j : Nat) (y : Int), usedB C j y = true ↔ y ∈ C.os ++ readsUsed C j
  | 0, y => by simp [usedB, readsUsed]
  | j + 1, y => by
    rw [usedB, Bool.or_eq_true, Bool.and_eq_true, usedB_iff C j y, readsUsed, contains_iff]
    by_cases h : usedB C j (C.ins + ((C.gs.length - 1 - j : Nat) : Int)) = true
    · rw [if_pos h]; simp only [h, true_and, List.mem_append]; constructor
      · rintro ((h | h) | h)
        · exact Or.inl h
        · exact Or.inr (Or.inr h)
        · exact Or.inr (Or.inl h)
      · rintro (h | h | h)
        · exact Or.inl (Or.inl h)
        · exact Or.inr h
        · exact Or.inl (Or.inr h)
    · rw [if_neg h]; simp [h]
theorem parts_low {C : Ci} (hG : Good C) {k : Nat} (hk : k < C.gs.length) : ∀ y ∈ partsOf (C.gs.getD k g0), 0 ≤ y ∧ y < C.ins + (k : Int) := by
  intro y h
  have hg := hG.gate _ hk
  obtain ⟨x, a, b, hx⟩ : ∃ x a b, C.gs.getD k g0 = (x, a, b) := ⟨_, _, _, rfl⟩
  rw [hx] at hg h
  rcases gateOk_yes hg with ⟨hx1, hy, hz⟩ | ⟨rfl, hy, _⟩ | ⟨rfl, _, _⟩
  · have ep : partsOf (x, a, b) = [a, b] := if_pos hx1
    rw [ep] at h
    rcases List.mem_cons.1 h with e | h
    · rw [e]; exact hy
    · rw [List.mem_singleton.1 h]; exact hz
  · have ep : partsOf (2, a, b) = [a] := rfl
    rw [ep] at h
    rw [List.mem_singleton.1 h]; exact hy
  · exact absurd h (by simp [partsOf])
theorem readsTo_low {C : Ci} (hG : Good C) : ∀ (k : Nat), k ≤ C.gs.length → ∀ y ∈ readsTo C k, 0 ≤ y ∧ y + 1 < C.ins + (k : Int)
  | 0, _, y, h => by simp [readsTo] at h
  | k + 1, hk, y, h => by
    rw [readsTo, List.mem_append] at h
    rcases h with h | h
    · have := readsTo_low hG k (by omega) y h; push_cast; omega
    · have := parts_low hG (k := k) (by omega) y h; push_cast; omega
theorem looked {C : Ci} (hG : Good C) {j : Nat} (hj : j < C.gs.length) : (usesAt C j).count (C.ins + ((C.gs.length - 1 - j : Nat) : Int)) = 0 ↔ ¬ usedB C j (C.ins + ((C.gs.length - 1 - j : Nat) : Int)) = true := by
  rw [List.count_eq_zero, usedB_iff]
  refine not_congr ?_
  unfold usesAt
  simp only [List.mem_append]
  constructor
  · rintro ((h | h) | h)
    · exact Or.inl h
    · have := readsTo_low hG (C.gs.length - j) (by omega) _ h; omega
    · exact Or.inr h
  · rintro (h | h)
    · exact Or.inl (Or.inl h)
    · exact Or.inr h
theorem readsTo_back {C : Ci} {j : Nat} (hj : j < C.gs.length) : readsTo C (C.gs.length - j) = readsTo C (C.gs.length - (j + 1)) ++ partsOf (C.gs.getD (C.gs.length - 1 - j) g0) := by
  obtain ⟨i, hi⟩ : ∃ i, i = C.gs.length - (j + 1) := ⟨_, rfl⟩
  rw [show C.gs.length - j = i + 1 by omega, ← hi, show C.gs.length - 1 - j = i by omega, readsTo]
theorem keptUsed {C : Ci} {j : Nat} (hj : j < C.gs.length) (h : usedB C j (C.ins + ((C.gs.length - 1 - j : Nat) : Int)) = true) : usesAt C j = usesAt C (j + 1) := by
  unfold usesAt
  rw [readsTo_back hj, readsUsed, if_pos h]
  simp only [List.append_assoc]
theorem keptUnused {C : Ci} {j : Nat} (hj : j < C.gs.length) (h : ¬ usedB C j (C.ins + ((C.gs.length - 1 - j : Nat) : Int)) = true) :
    (usesAt C j).Perm (partsOf (C.gs.getD (C.gs.length - 1 - j) g0) ++ usesAt C (j + 1)) := by
  unfold usesAt
  rw [readsTo_back hj, readsUsed, if_neg h, List.nil_append]
  refine (List.perm_iff_count.2 fun y => ?_)
  simp only [List.count_append]
  omega
theorem usesAt_zero (C : Ci) : usesAt C 0 = C.os ++ readsTo C C.gs.length := by simp [usesAt, readsUsed]
theorem usesAt_all (C : Ci) (y : Int) : y ∈ usesAt C C.gs.length ↔ usedB C C.gs.length y = true := by
  rw [usedB_iff]
  unfold usesAt
  simp [readsTo]
theorem readsUsed_low {C : Ci} (hG : Good C) : ∀ (j : Nat), j ≤ C.gs.length → ∀ y ∈ readsUsed C j, 0 ≤ y ∧ y < C.ins + (C.gs.length : Int)
  | 0, _, y, h => by simp [readsUsed] at h
  | j + 1, hj, y, h => by
    rw [readsUsed, List.mem_append] at h
    rcases h with h | h
    · split at h
      · have := parts_low hG (k := C.gs.length - 1 - j) (by omega) y h; omega
      · simp at h
    · exact readsUsed_low hG j (by omega) y h
end Go.Proofs.Yteiibneaihdmbaa
