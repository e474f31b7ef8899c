/- Circuits as mathematics: the values of the wires, the values of the outs. -/
import Derived.Test.YteiibneaihdmbaaCirM1
namespace Go.Proofs.Yteiibneaihdmbaa
open Go.RowKit
set_option maxRecDepth 100000

/-- The value of a gate's wire over the values of the wires before it. -/
def gval (v : List Int) (g : Ga) : Int :=
  if g.1 = 0 then (v.getD g.2.1.toNat 0 + v.getD g.2.2.toNat 0) % 2 else if g.1 = 1 then v.getD g.2.1.toNat 0 * v.getD g.2.2.toNat 0 else if g.1 = 2 then 1 - v.getD g.2.1.toNat 0 else 1
/-- The wires' values behind the first k gates. -/
def valsTo (C : Ci) (v : List Int) : Nat → List Int
  | 0 => v
  | k + 1 => valsTo C v k ++ [gval (valsTo C v k) (C.gs.getD k g0)]
def valsC (C : Ci) (v : List Int) : List Int := valsTo C v C.gs.length
def pickL (l at_ : List Int) : List Int := at_.map fun i => l.getD i.toNat 0
/-- A valid circuit with bits for its inputs. -/
def asked (C : Ci) (a b : List Int) : Bool := gd C && good 20 a && good 20 b && decide ((a.length : Int) = C.in0) && decide ((b.length : Int) = C.in1)
def m_WireValues (C : Ci) (a b : List Int) : List Int × Bool := if asked C a b = true then (valsC C (a ++ b), true) else ([], false)
def m_EvalCircuit (C : Ci) (a b : List Int) : List Int × Bool := if asked C a b = true then (pickL (valsC C (a ++ b)) C.os, true) else ([], false)

def Bits (v : List Int) : Prop := ∀ j, j < v.length → v.getD j 0 = 0 ∨ v.getD j 0 = 1

theorem valsTo_length (C : Ci) (v : List Int) : ∀ k, (valsTo C v k).length = v.length + k
  | 0 => rfl
  | k + 1 => by rw [valsTo, List.length_append, valsTo_length C v k]; simp; omega
theorem getD_append_left {l r : List Int} {j : Nat} (h : j < l.length) : (l ++ r).getD j 0 = l.getD j 0 := by simp [List.getD, List.getElem?_append_left h]
theorem getD_snoc {l : List Int} {z : Int} : (l ++ [z]).getD l.length 0 = z := by simp [List.getD]
/-- What a valid gate is, kind by kind. -/
theorem gateOk_yes {n x y z : Int} (h : gateOk n (x, y, z) = true) : (x = 0 ∨ x = 1) ∧ (0 ≤ y ∧ y < n) ∧ (0 ≤ z ∧ z < n) ∨ x = 2 ∧ (0 ≤ y ∧ y < n) ∧ z = 0 ∨ x = 3 ∧ y = 0 ∧ z = 0 := by
  unfold gateOk at h
  by_cases c : x = 0 ∨ x = 1
  · rw [if_pos c, Bool.and_eq_true] at h
    simp only [wireOk, Bool.and_eq_true, decide_eq_true_eq] at h
    exact .inl ⟨c, by omega, by omega⟩
  · rw [if_neg c] at h
    by_cases c2 : x = 2
    · rw [if_pos c2, Bool.and_eq_true] at h
      simp only [wireOk, Bool.and_eq_true, decide_eq_true_eq] at h
      exact .inr (.inl ⟨c2, by omega, h.2⟩)
    · rw [if_neg c2, decide_eq_true_eq] at h
      injection h with h1 h2
      injection h2 with h2 h3
      exact .inr (.inr ⟨h1, h2, h3⟩)
theorem bitsOf {v : List Int} (h : Bits v) (i : Int) : v.getD i.toNat 0 = 0 ∨ v.getD i.toNat 0 = 1 := by
  by_cases c : i.toNat < v.length
  · exact h _ c
  · left; simp [List.getD, List.getElem?_eq_none (Nat.le_of_not_lt c)]
theorem gval_bit {v : List Int} (h : Bits v) (g : Ga) : gval v g = 0 ∨ gval v g = 1 := by
  unfold gval
  rcases bitsOf h g.2.1 with e1 | e1 <;> rcases bitsOf h g.2.2 with e2 | e2 <;> rw [e1, e2] <;> repeat' split
  all_goals simp
theorem valsTo_bits {C : Ci} {v : List Int} (h : Bits v) : ∀ k, Bits (valsTo C v k)
  | 0 => h
  | k + 1 => by
    intro j hj
    rw [valsTo] at hj ⊢
    have ih := valsTo_bits (C := C) h k
    by_cases c : j < (valsTo C v k).length
    · rw [getD_append_left c]; exact ih j c
    · have e : j = (valsTo C v k).length := by simp at hj; omega
      rw [e, getD_snoc]
      exact gval_bit ih _
theorem bits_good {m : Nat} {v : List Int} (h : good m v = true) : Bits v := fun j hj => by
  have := (good_yes h).2 j hj
  omega
theorem bits_append {a b : List Int} (ha : Bits a) (hb : Bits b) : Bits (a ++ b) := fun j hj => by
  by_cases c : j < a.length
  · rw [getD_append_left c]; exact ha j c
  · have e : (a ++ b).getD j 0 = b.getD (j - a.length) 0 := by simp [List.getD, List.getElem?_append_right (Nat.le_of_not_lt c)]
    rw [e]
    exact hb _ (by simp at hj; omega)
/-- What is asked for, in parts. -/
theorem asked_yes {C : Ci} {a b : List Int} (h : asked C a b = true) : gd C = true ∧ good 20 a = true ∧ good 20 b = true ∧ (a.length : Int) = C.in0 ∧ (b.length : Int) = C.in1 := by
  simp only [asked, Bool.and_eq_true, decide_eq_true_eq] at h
  exact ⟨h.1.1.1.1, h.1.1.1.2, h.1.1.2, h.1.2, h.2⟩
end Go.Proofs.Yteiibneaihdmbaa
