/- Simplified circuits as mathematics: small circuits, the values of an out, unequal circuits, equal outs. -/
import Derived.Test.YtnelcbjegbchkaaCirM5
import Derived.Test.YtnelcbjegbchkaaRet
namespace Go.Proofs.Ytnelcbjegbchkaa
open Go.RowKit
set_option maxRecDepth 100000

/-- A valid circuit with at most 10 inputs. -/
def tiny (C : Ci) : Bool := gd C && decide (C.ins ≤ 10)
def pairB (C D : Ci) : Bool := tiny C && tiny D && decide (C.in0 = D.in0) && decide (C.in1 = D.in1) && decide (C.os.length = D.os.length)
def neAt (C D : Ci) (k : Nat) : Bool := decide (outBits C (k : Int) ≠ outBits D (k : Int))
/-- The least number of inputs, of the first n, with different outs; n if there is none. -/
def neTo (C D : Ci) : Nat → Nat
  | 0 => 0
  | n + 1 => if neTo C D n < n then neTo C D n else if neAt C D n = true then n else n + 1
def rowsN (C : Ci) : Nat := 2 ^ C.ins.toNat
def m_AreEqual (C D : Ci) : Bool × Bool := if pairB C D = true then (decide (neTo C D (rowsN C) = rowsN C), true) else (false, false)
def m_FirstUnequal (C D : Ci) : Int × Bool := if pairB C D = true ∧ neTo C D (rowsN C) < rowsN C then ((neTo C D (rowsN C) : Int), true) else (0, false)
/-- The values of an out for the first n numbers of inputs. -/
def colTo (C : Ci) (k n : Nat) : List Int := mapTo (fun j => (outBits C (j : Int)).getD k 0) n
def colOf (C : Ci) (k : Nat) : List Int := colTo C k (rowsN C)
def outAsk (C : Ci) (k : Int) : Bool := tiny C && (decide (0 ≤ k) && decide (k < (C.os.length : Int)))
def m_OnesOf (C : Ci) (k : Int) : Int × Bool := if outAsk C k = true then ((colOf C k.toNat).sum, true) else (0, false)
/-- The first out, of those before n, with the same values as the k-th; n if there is none. -/
def sameTo (C : Ci) (k : Nat) : Nat → Nat
  | 0 => 0
  | n + 1 => if sameTo C k n < n then sameTo C k n else if colOf C n = colOf C k then n else n + 1
def m_EqualOuts (C : Ci) : List Int × Bool := if tiny C = true then (mapTo (fun k => (sameTo C k (k + 1) : Int)) C.os.length, true) else ([], false)
/-- A change of the i-th input alone changes the out for the j-th inputs. -/
def flipAt (C : Ci) (k i j : Nat) : Bool := decide ((colOf C k).getD (j ^^^ 2 ^ i) 0 ≠ (colOf C k).getD j 0)
def depOn (C : Ci) (k i : Nat) : Bool := (List.range (rowsN C)).any fun j => flipAt C k i j
def m_DependsOn (C : Ci) (k : Int) : List Int × Bool := if outAsk C k = true then (((List.range C.ins.toNat).filter fun i => depOn C k.toNat i).map fun (i : Nat) => (i : Int), true) else ([], false)

theorem neTo_le (C D : Ci) : ∀ n, neTo C D n ≤ n
  | 0 => Nat.le_refl _
  | n + 1 => by
    have := neTo_le C D n
    rw [neTo]
    split
    · omega
    · split <;> omega
/-- As long as nothing differs: all of the first n are equal. -/
theorem neTo_all {C D : Ci} : ∀ {n : Nat}, neTo C D n = n → ∀ j, j < n → neAt C D j = false
  | 0, _, j, hj => by omega
  | n + 1, h, j, hj => by
    have hle := neTo_le C D n
    rw [neTo] at h
    split at h
    · omega
    · split at h
      · omega
      · rename_i h1 h2
        by_cases e : j = n
        · subst e; simpa using h2
        · exact neTo_all (n := n) (by omega) j (by omega)
theorem neTo_next {C D : Ci} {n : Nat} (h : neTo C D n = n) (hn : neAt C D n = false) : neTo C D (n + 1) = n + 1 := by
  rw [neTo, if_neg (by omega), if_neg (by simp [hn])]
theorem neTo_here {C D : Ci} {n : Nat} (h : neTo C D n = n) (hn : neAt C D n = true) : ∀ m, n < m → neTo C D m = n
  | 0, hm => by omega
  | m + 1, hm => by
    rw [neTo]
    by_cases e : m = n
    · subst e; rw [if_neg (by omega), if_pos hn]
    · rw [neTo_here h hn m (by omega), if_pos (by omega)]
theorem sameTo_le (C : Ci) (k : Nat) : ∀ n, sameTo C k n ≤ n
  | 0 => Nat.le_refl _
  | n + 1 => by
    have := sameTo_le C k n
    rw [sameTo]
    split
    · omega
    · split <;> omega
theorem sameTo_next {C : Ci} {k n : Nat} (h : sameTo C k n = n) (hn : ¬ colOf C n = colOf C k) : sameTo C k (n + 1) = n + 1 := by
  rw [sameTo, if_neg (by omega), if_neg hn]
theorem sameTo_here {C : Ci} {k n : Nat} (h : sameTo C k n = n) (hn : colOf C n = colOf C k) : ∀ m, n < m → sameTo C k m = n
  | 0, hm => by omega
  | m + 1, hm => by
    rw [sameTo]
    by_cases e : m = n
    · subst e; rw [if_neg (by omega), if_pos hn]
    · rw [sameTo_here h hn m (by omega), if_pos (by omega)]
theorem tiny_yes {C : Ci} (h : tiny C = true) : gd C = true ∧ C.ins ≤ 10 := by
  simpa only [tiny, Bool.and_eq_true, decide_eq_true_eq] using h
theorem pairB_yes {C D : Ci} (h : pairB C D = true) : tiny C = true ∧ tiny D = true ∧ C.in0 = D.in0 ∧ C.in1 = D.in1 ∧ C.os.length = D.os.length := by
  simp only [pairB, Bool.and_eq_true, decide_eq_true_eq] at h
  exact ⟨h.1.1.1.1, h.1.1.1.2, h.1.1.2, h.1.2, h.2⟩
theorem outAsk_yes {C : Ci} {k : Int} (h : outAsk C k = true) : tiny C = true ∧ 0 ≤ k ∧ k < (C.os.length : Int) := by
  simp only [outAsk, Bool.and_eq_true, decide_eq_true_eq] at h
  exact ⟨h.1, h.2.1, h.2.2⟩
theorem outBits_length (C : Ci) (k : Int) : (outBits C k).length = C.os.length := pickL_length _ _
theorem colTo_length (C : Ci) (k n : Nat) : (colTo C k n).length = n := mapTo_length _ _
theorem colTo_succ (C : Ci) (k n : Nat) : colTo C k (n + 1) = colTo C k n ++ [(outBits C (n : Int)).getD k 0] := mapTo_succ _ _
theorem colTo_at {C : Ci} {k n j : Nat} (hj : j < n) : (colTo C k n).getD j 0 = (outBits C (j : Int)).getD k 0 := mapTo_at _ hj
theorem colTo_bits (C : Ci) (k n j : Nat) : (colTo C k n).getD j 0 = 0 ∨ (colTo C k n).getD j 0 = 1 := by
  by_cases h : j < n
  · rw [colTo_at h]
    have := bitsOf (outBits_bits C (j : Int)) (k : Int)
    simpa using this
  · left
    rw [List.getD, List.getElem?_eq_none (by rw [colTo_length]; omega)]
    rfl
theorem tinyPow {C : Ci} (h : tiny C = true) : ∃ p N : Nat, C.ins = (p : Int) ∧ C.ins.toNat = p ∧ p ≤ 10 ∧ rowsN C = N ∧ (2 : Int) ^ p = (N : Int) ∧ 0 < N ∧ N ≤ 1024 := by
  obtain ⟨hgd, hi⟩ := tiny_yes h
  have hG := gd_yes hgd
  have h0 : 0 ≤ C.ins := by have := hG.a0; have := hG.b0; unfold Ci.ins; omega
  obtain ⟨p, hp⟩ : ∃ p : Nat, C.ins = (p : Int) := ⟨C.ins.toNat, by omega⟩
  have p10 : p ≤ 10 := by omega
  have hpow : 2 ^ p ≤ 1024 ∧ 0 < 2 ^ p := by
    have : p = 0 ∨ p = 1 ∨ p = 2 ∨ p = 3 ∨ p = 4 ∨ p = 5 ∨ p = 6 ∨ p = 7 ∨ p = 8 ∨ p = 9 ∨ p = 10 := by omega
    rcases this with rfl | rfl | rfl | rfl | rfl | rfl | rfl | rfl | rfl | rfl | rfl <;> decide
  refine ⟨p, 2 ^ p, hp, by omega, p10, ?_, by push_cast; rfl, hpow.2, hpow.1⟩
  rw [rowsN, show C.ins.toNat = p by omega]
end Go.Proofs.Ytnelcbjegbchkaa
