/- Circuits as mathematics: the wires that are used. -/
import Derived.Test.YteiibneaihdmbaaCirM3
namespace Go.Proofs.Yteiibneaihdmbaa
open Go.RowKit
set_option maxRecDepth 100000

/-- The wires that are used, as far as the last j gates tell. -/
def usedB (C : Ci) : Nat → Int → Bool
  | 0, y => C.os.contains y
  | j + 1, y => usedB C j y || (usedB C j (C.ins + ((C.gs.length - 1 - j : Nat) : Int)) && (partsOf (C.gs.getD (C.gs.length - 1 - j) g0)).contains y)
def usedL (C : Ci) : List Int := ((List.range C.wires.toNat).filter fun (i : Nat) => usedB C C.gs.length (i : Int)).map fun (i : Nat) => (i : Int)
def m_UsedWires (C : Ci) : List Int × Bool := if gd C = true then (usedL C, true) else ([], false)

/-- Two strictly rising lists with the same members are the same. -/
theorem risingEq : ∀ {l r : List Int}, l.Pairwise (· < ·) → r.Pairwise (· < ·) → (∀ y, y ∈ l ↔ y ∈ r) → l = r
  | [], [], _, _, _ => rfl
  | [], b :: r, _, _, h => absurd ((h b).2 (List.mem_cons_self ..)) (by simp)
  | a :: l, [], _, _, h => absurd ((h a).1 (List.mem_cons_self ..)) (by simp)
  | a :: l, b :: r, hl, hr, h => by
    obtain ⟨ha, hl'⟩ := List.pairwise_cons.1 hl
    obtain ⟨hb, hr'⟩ := List.pairwise_cons.1 hr
    have e : a = b := by
      rcases List.mem_cons.1 ((h a).1 (List.mem_cons_self ..)) with e | e
      · exact e
      · rcases List.mem_cons.1 ((h b).2 (List.mem_cons_self ..)) with e' | e'
        · exact e'.symm
        · have := hb a e; have := ha b e'; omega
    subst e
    congr 1
    refine risingEq hl' hr' fun y => ?_
    constructor
    · intro hy
      rcases List.mem_cons.1 ((h y).1 (List.mem_cons_of_mem _ hy)) with e | e
      · have := ha y hy; omega
      · exact e
    · intro hy
      rcases List.mem_cons.1 ((h y).2 (List.mem_cons_of_mem _ hy)) with e | e
      · have := hb y hy; omega
      · exact e

theorem contains_iff {l : List Int} {y : Int} : l.contains y = true ↔ y ∈ l := by simp
/-- What is used is a wire. -/
theorem usedB_wire {C : Ci} (hG : Good C) : ∀ (j : Nat), j ≤ C.gs.length → ∀ y, usedB C j y = true → 0 ≤ y ∧ y < C.wires
  | 0, _, y, h => by
    rw [usedB, contains_iff] at h
    obtain ⟨k, hk, e⟩ := List.getElem_of_mem h
    have := hG.out k hk
    have e2 : C.os.getD k 0 = y := by simp [List.getD, hk, e]
    omega
  | j + 1, hj, y, h => by
    rw [usedB, Bool.or_eq_true, Bool.and_eq_true, contains_iff] at h
    rcases h with h | ⟨_, h⟩
    · exact usedB_wire hG j (by omega) y h
    · have hlt : C.gs.length - 1 - j < C.gs.length := by omega
      have hg := hG.gate _ hlt
      obtain ⟨x, a, b, hx⟩ : ∃ x a b, C.gs.getD (C.gs.length - 1 - j) g0 = (x, a, b) := ⟨_, _, _, rfl⟩
      rw [hx] at hg
      have hin : 0 ≤ y ∧ y < C.ins + ((C.gs.length - 1 - j : Nat) : Int) := by
        rcases gateOk_yes hg with ⟨hx1, hy, hz⟩ | ⟨rfl, hy, _⟩ | ⟨rfl, _, _⟩
        · have ep : partsOf (x, a, b) = [a, b] := if_pos hx1
          rw [hx, ep] at h
          rcases List.mem_cons.1 h with e | h
          · rw [e]; exact hy
          · rw [List.mem_singleton.1 h]; exact hz
        · rw [hx] at h
          have ep : partsOf (2, a, b) = [a] := rfl
          rw [ep] at h
          rw [List.mem_singleton.1 h]; exact hy
        · rw [hx] at h
          exact absurd h (by simp [partsOf])
      have : C.wires = C.ins + (C.gs.length : Int) := rfl
      omega
theorem usedL_is {C : Ci} (hG : Good C) {rs : List Int} (hs : rs.Pairwise (· < ·)) (hm : ∀ y, y ∈ rs ↔ usedB C C.gs.length y = true) : rs = usedL C := by
  refine risingEq hs ?_ fun y => ?_
  · unfold usedL
    rw [List.pairwise_map]
    exact ((List.pairwise_lt_range).filter _).imp (fun h => by omega)
  · rw [hm y, usedL, List.mem_map]
    constructor
    · intro h
      have hw := usedB_wire hG _ (Nat.le_refl _) y h
      refine ⟨y.toNat, List.mem_filter.2 ⟨List.mem_range.2 (by omega), ?_⟩, by omega⟩
      rw [show ((y.toNat : Nat) : Int) = y by omega]
      exact h
    · rintro ⟨i, hi, rfl⟩
      exact (List.mem_filter.1 hi).2
end Go.Proofs.Yteiibneaihdmbaa
