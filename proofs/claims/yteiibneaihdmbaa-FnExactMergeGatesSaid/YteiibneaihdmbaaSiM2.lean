/- Simplified circuits as mathematics: the circuit without its dead gates. -/
import Derived.Test.YteiibneaihdmbaaCirM8
import Derived.Test.YteiibneaihdmbaaCirI10
import Derived.Test.YteiibneaihdmbaaGdM1
namespace Go.Proofs.Yteiibneaihdmbaa
open Go.RowKit
set_option maxRecDepth 100000

/-- The k-th gate's wire is used. -/
def usedG (C : Ci) (k : Nat) : Bool := usedB C C.gs.length (C.ins + (k : Int))
def cntU (C : Ci) : Nat → Nat
  | 0 => 0
  | k + 1 => cntU C k + if usedG C k = true then 1 else 0
/-- Where a wire lies in the circuit without dead gates. -/
def plD (C : Ci) (i : Nat) : Int := if (i : Int) < C.ins then (i : Int) else C.ins + (cntU C (i - C.ins.toNat) : Int)
/-- The used ones of the first k gates. -/
def keptTo (C : Ci) : Nat → List Ga
  | 0 => []
  | k + 1 => if usedG C k = true then keptTo C k ++ [C.gs.getD k g0] else keptTo C k
def placesTo (C : Ci) (k : Nat) : List Int := mapTo (plD C) (C.ins.toNat + k)
/-- The same, but -1 for a dead gate. -/
def plM (C : Ci) (i : Nat) : Int := if (i : Int) < C.ins then (i : Int) else if usedG C (i - C.ins.toNat) = true then plD C i else -1
def movedD (C : Ci) (k : Nat) : List Int := mapTo (plM C) (C.ins.toNat + k)
def dropC (C : Ci) : Ci := ⟨C.in0, C.in1, (keptTo C C.gs.length).map (mvG (plD C)), C.os.map fun z => plD C z.toNat⟩
def m_DropDead (C : Ci) : Ci × Bool := if gd C = true then (dropC C, true) else (⟨0, 0, [], []⟩, false)

theorem cntU_le (C : Ci) : ∀ k, cntU C k ≤ k
  | 0 => Nat.le_refl _
  | k + 1 => by have := cntU_le C k; rw [cntU]; split <;> omega
theorem keptTo_length (C : Ci) : ∀ k, (keptTo C k).length = cntU C k
  | 0 => rfl
  | k + 1 => by
    rw [keptTo, cntU]
    split
    · rw [List.length_append, keptTo_length C k]; rfl
    · rw [keptTo_length C k]; rfl
theorem placesTo_succ {C : Ci} (h0 : 0 ≤ C.ins) (k : Nat) : placesTo C (k + 1) = placesTo C k ++ [C.ins + (cntU C k : Int)] := by
  have e : plD C (C.ins.toNat + k) = C.ins + (cntU C k : Int) := by
    rw [plD, if_neg (by omega), Nat.add_sub_cancel_left]
  rw [placesTo, ← Nat.add_assoc, mapTo_succ, e]
  rfl
theorem placesTo_zero {C : Ci} (h0 : 0 ≤ C.ins) : placesTo C 0 = rangeL 0 C.ins.toNat := mapTo_eq (fun k hk => by rw [plD, if_pos (by omega)]; omega)
theorem movedD_zero {C : Ci} (h0 : 0 ≤ C.ins) : movedD C 0 = rangeL 0 C.ins.toNat := mapTo_eq (fun k hk => by rw [plM, if_pos (by omega)]; omega)
theorem movedD_succ {C : Ci} (h0 : 0 ≤ C.ins) (k : Nat) : movedD C (k + 1) = movedD C k ++ [if usedG C k = true then C.ins + (cntU C k : Int) else -1] := by
  have e : plM C (C.ins.toNat + k) = if usedG C k = true then C.ins + (cntU C k : Int) else -1 := by
    have hn : ¬ ((C.ins.toNat + k : Nat) : Int) < C.ins := by omega
    rw [plM, if_neg hn, plD, if_neg hn, Nat.add_sub_cancel_left]
  rw [movedD, ← Nat.add_assoc, mapTo_succ, e]
  rfl
theorem placesTo_length (C : Ci) (k : Nat) : (placesTo C k).length = C.ins.toNat + k := mapTo_length _ _
theorem movedD_length (C : Ci) (k : Nat) : (movedD C k).length = C.ins.toNat + k := mapTo_length _ _
theorem readsUsed_more (C : Ci) {y : Int} : ∀ (m j : Nat), y ∈ readsUsed C j → y ∈ readsUsed C (j + m)
  | 0, _, h => h
  | m + 1, j, h => by
    rw [← Nat.add_assoc, readsUsed]
    exact List.mem_append_right _ (readsUsed_more C m j h)
theorem readsUsed_less {C : Ci} (hG : Good C) {k : Nat} (hk : k < C.gs.length) : ∀ (m : Nat), C.gs.length - 1 - k + m ≤ C.gs.length → C.ins + (k : Int) ∈ readsUsed C (C.gs.length - 1 - k + m) → C.ins + (k : Int) ∈ readsUsed C (C.gs.length - 1 - k)
  | 0, _, h => h
  | m + 1, hm, h => by
    rw [← Nat.add_assoc, readsUsed, List.mem_append] at h
    rcases h with h | h
    · split at h
      · have := parts_low hG (k := C.gs.length - 1 - (C.gs.length - 1 - k + m)) (by omega) _ h
        omega
      · simp at h
    · exact readsUsed_less hG hk m (by omega) h
/-- What a used gate reads is used. -/
theorem usedParts {C : Ci} (hG : Good C) {k : Nat} (hk : k < C.gs.length) (h : usedG C k = true) : ∀ y ∈ partsOf (C.gs.getD k g0), usedB C C.gs.length y = true := by
  intro y hy
  have h1 : usedB C (C.gs.length - 1 - k) (C.ins + (k : Int)) = true := by
    rw [usedG, usedB_iff, List.mem_append] at h
    rw [usedB_iff, List.mem_append]
    rcases h with h | h
    · exact .inl h
    · refine .inr (readsUsed_less hG hk (k + 1) (by omega) ?_)
      rw [show C.gs.length - 1 - k + (k + 1) = C.gs.length by omega]
      exact h
  have h2 : y ∈ readsUsed C (C.gs.length - 1 - k + 1) := by
    have e : C.gs.length - 1 - (C.gs.length - 1 - k) = k := by omega
    rw [readsUsed, e, if_pos h1]
    exact List.mem_append_left _ hy
  rw [usedB_iff, List.mem_append]
  right
  have := readsUsed_more C k (C.gs.length - 1 - k + 1) h2
  rw [show C.gs.length - 1 - k + 1 + k = C.gs.length by omega] at this
  exact this
theorem usedOuts (C : Ci) : ∀ y ∈ C.os, usedB C C.gs.length y = true := fun y hy => by
  rw [usedB_iff, List.mem_append]
  exact .inl hy
/-- For a used wire both lists have its place. -/
theorem movedD_used {C : Ci} (h0 : 0 ≤ C.ins) {k : Nat} {y : Int} (hy0 : 0 ≤ y) (hy : y < C.ins + (k : Int)) (hu : usedB C C.gs.length y = true) : (movedD C k).getD y.toNat 0 = plD C y.toNat := by
  rw [movedD, mapTo_at _ (by omega), plM]
  by_cases c : (y.toNat : Int) < C.ins
  · rw [if_pos c, plD, if_pos c]
  · rw [if_neg c, if_pos]
    rw [usedG, show C.ins + ((y.toNat - C.ins.toNat : Nat) : Int) = y by omega]
    exact hu
theorem placesTo_at {C : Ci} {k j : Nat} (hj : j < C.ins.toNat + k) : (placesTo C k).getD j 0 = plD C j := mapTo_at _ hj
theorem partsTwo {x y z : Int} (h : x = 0 ∨ x = 1) : partsOf (x, y, z) = [y, z] := if_pos h
theorem partsOne (y z : Int) : partsOf (2, y, z) = [y] := rfl
theorem keptTo_ok {C : Ci} (hG : Good C) : ∀ k, k ≤ C.gs.length → ∀ j, j < (keptTo C k).length → gateOk (C.ins + (C.gs.length : Int)) ((keptTo C k).getD j g0) = true
  | 0, _, j, hj => by simp [keptTo] at hj
  | k + 1, hk, j, hj => by
    rw [keptTo] at hj ⊢
    by_cases hu : usedG C k = true
    · rw [if_pos hu] at hj ⊢
      by_cases c : j < (keptTo C k).length
      · have e : (keptTo C k ++ [C.gs.getD k g0]).getD j g0 = (keptTo C k).getD j g0 := by simp [List.getD, List.getElem?_append_left c]
        rw [e]
        exact keptTo_ok hG k (by omega) j c
      · have ej : j = (keptTo C k).length := by simp at hj; omega
        have e : (keptTo C k ++ [C.gs.getD k g0]).getD j g0 = C.gs.getD k g0 := by subst ej; simp [List.getD]
        rw [e]
        have hg := hG.gate k (by omega)
        obtain ⟨x, y, z, hx⟩ : ∃ x y z, C.gs.getD k g0 = (x, y, z) := ⟨_, _, _, rfl⟩
        rw [hx] at hg ⊢
        exact gateOk_mono hg (by omega)
    · rw [if_neg hu] at hj ⊢
      exact keptTo_ok hG k (by omega) j hj
end Go.Proofs.Yteiibneaihdmbaa
