/- Circuits as mathematics: truth tables. -/
import Derived.Test.YtnelcbjegbchkaaCirM2
import Derived.Test.YtnelcbjegbchkaaBitsAll
namespace Go.Proofs.Ytnelcbjegbchkaa
open Go.RowKit
set_option maxRecDepth 100000

/-- A valid circuit that is small enough for a table. -/
def small (C : Ci) : Bool := gd C && decide (C.ins ≤ 10) && decide (C.os.length ≤ 16)
/-- The bits of the number k, as many as there are inputs. -/
def inBits (C : Ci) (k : Int) : List Int := mapTo (fun j => k / 2 ^ j % 2) C.ins.toNat
def outBits (C : Ci) (k : Int) : List Int := pickL (valsC C (inBits C k)) C.os
def tabAt (C : Ci) (k : Nat) : Int := numTo (outBits C (k : Int)) C.os.length
def m_TruthTable (C : Ci) : List Int × Bool := if small C = true then (mapTo (tabAt C) (2 ^ C.ins.toNat), true) else ([], false)
theorem inBits_bits (C : Ci) (k : Int) : Bits (inBits C k) := fun j hj => by
  unfold inBits at hj ⊢
  rw [mapTo_length] at hj
  rw [mapTo_at _ hj]
  omega
theorem inBits_length (C : Ci) (k : Int) : (inBits C k).length = C.ins.toNat := mapTo_length _ _
theorem pickL_length (l at_ : List Int) : (pickL l at_).length = at_.length := by simp [pickL]
theorem pickL_bits {l : List Int} (h : Bits l) (at_ : List Int) : Bits (pickL l at_) := fun j hj => by
  rw [pickL_length] at hj
  have e : (pickL l at_).getD j 0 = l.getD (at_.getD j 0).toNat 0 := by simp [pickL, List.getD, hj]
  rw [e]
  exact bitsOf h _
theorem outBits_bits (C : Ci) (k : Int) : Bits (outBits C k) := pickL_bits (valsTo_bits (inBits_bits C k) _) _
theorem small_yes {C : Ci} (h : small C = true) : gd C = true ∧ C.ins ≤ 10 ∧ C.os.length ≤ 16 := by
  simp only [small, Bool.and_eq_true, decide_eq_true_eq] at h
  exact ⟨h.1.1, h.1.2, h.2⟩
end Go.Proofs.Ytnelcbjegbchkaa
