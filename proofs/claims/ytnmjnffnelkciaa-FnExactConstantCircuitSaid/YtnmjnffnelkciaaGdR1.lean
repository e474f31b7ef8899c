/- The outs of a circuit for inputs given as numbers, as a number (RunWith): mathematics. No condition. -/
import Derived.Test.YtnmjnffnelkciaaCirM5
import Derived.Test.YtnmjnffnelkciaaBitsAll
namespace Go.Proofs.Ytnmjnffnelkciaa
open Go Go.RowKit
set_option maxRecDepth 100000

def wordB (n w : Int) : Bool := decide (0 ≤ w ∧ w ≤ 16 ∧ 0 ≤ n ∧ n < 2 ^ w.toNat)
def bitsL (n w : Int) : List Int := mapTo (fun j => n / 2 ^ j % 2) w.toNat
def runL (C : Ci) (a b : Int) : List Int := pickL (valsC C (bitsL a C.in0 ++ bitsL b C.in1)) C.os
def m_RunWith (C : Ci) (a b : Int) : Int × Bool :=
  if gd C = true ∧ C.os.length ≤ 16 ∧ wordB a C.in0 = true ∧ wordB b C.in1 = true then (numTo (runL C a b) C.os.length, true) else (0, false)

theorem bitsL_length (n w : Int) : (bitsL n w).length = w.toNat := mapTo_length _ _
theorem bitsL_bits (n w : Int) : Bits (bitsL n w) := fun j hj => by
  rw [bitsL_length] at hj
  rw [bitsL, mapTo_at _ hj]
  omega
theorem bitsOf_eq (n w : Int) : m_BitsOf n w = if wordB n w = true then (bitsL n w, true) else ([], false) := by
  unfold m_BitsOf wordB bitsL
  by_cases h : 0 ≤ w ∧ w ≤ 16 ∧ 0 ≤ n ∧ n < 2 ^ w.toNat
  · rw [if_pos h, if_pos (decide_eq_true h)]
  · rw [if_neg h, if_neg (by simpa using h)]
theorem good_bits {m : Nat} {zs : List Int} (h : zs.length ≤ m) (hb : Bits zs) : good m zs = true := good_mk h fun k hk => by
  rcases hb k hk with e | e <;> rw [e] <;> omega
theorem wordB_yes {n w : Int} (h : wordB n w = true) : 0 ≤ w ∧ w ≤ 16 ∧ 0 ≤ n ∧ n < 2 ^ w.toNat := by simpa [wordB] using h
theorem run_asked {C : Ci} {a b : Int} (ha : wordB a C.in0 = true) (hb : wordB b C.in1 = true) : asked C (bitsL a C.in0) (bitsL b C.in1) = gd C := by
  have h1 := wordB_yes ha
  have h2 := wordB_yes hb
  have g1 : good 20 (bitsL a C.in0) = true := good_bits (by rw [bitsL_length]; omega) (bitsL_bits _ _)
  have g2 : good 20 (bitsL b C.in1) = true := good_bits (by rw [bitsL_length]; omega) (bitsL_bits _ _)
  have l1 : ((bitsL a C.in0).length : Int) = C.in0 := by rw [bitsL_length]; omega
  have l2 : ((bitsL b C.in1).length : Int) = C.in1 := by rw [bitsL_length]; omega
  rw [asked, g1, g2, decide_eq_true l1, decide_eq_true l2]
  simp
theorem runL_bits (C : Ci) (a b : Int) : Bits (runL C a b) := pickL_bits (valsTo_bits (bits_append (bitsL_bits _ _) (bitsL_bits _ _)) _) _
theorem runL_length (C : Ci) (a b : Int) : (runL C a b).length = C.os.length := pickL_length _ _
/-- The program's way to the same number. -/
theorem run_eq (C : Ci) (a b : Int) : m_RunWith C a b = (if ((m_EvalCircuit C (m_BitsOf a C.in0).1 (m_BitsOf b C.in1).1).2 && (m_BitsOf a C.in0).2 && (m_BitsOf b C.in1).2) = true then m_NumberOf (m_EvalCircuit C (m_BitsOf a C.in0).1 (m_BitsOf b C.in1).1).1 else (0, false)) := by
  rw [bitsOf_eq, bitsOf_eq]
  by_cases ha : wordB a C.in0 = true
  · by_cases hb : wordB b C.in1 = true
    · rw [if_pos ha, if_pos hb]
      simp only
      rw [m_EvalCircuit, run_asked ha hb]
      cases hg : gd C with
      | false => rw [m_RunWith, if_neg (by simp [hg])]; simp
      | true =>
        rw [if_pos rfl]
        simp only [Bool.and_self, if_true]
        show _ = m_NumberOf (runL C a b)
        rw [m_NumberOf, m_RunWith]
        by_cases hl : C.os.length ≤ 16
        · rw [if_pos ⟨hg, hl, ha, hb⟩, if_pos (good_bits (by rw [runL_length]; exact hl) (runL_bits C a b)), runL_length]
        · rw [if_neg (fun h => hl h.2.1), if_neg (fun h => hl (by have := (good_yes h).1; rw [runL_length] at this; exact this))]
    · rw [m_RunWith, if_neg (fun h => hb h.2.2.2), if_neg (c := wordB b C.in1 = true) hb]
      simp
  · rw [m_RunWith, if_neg (fun h => ha h.2.2.1), if_neg (c := wordB a C.in0 = true) ha]
    simp

end Go.Proofs.Ytnmjnffnelkciaa
