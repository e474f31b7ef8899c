/- Circuits as mathematics: when one is valid. -/
import Derived.Test.YteiibneaihdmbaaCirAll
import Derived.Test.YteiibneaihdmbaaBits1
namespace Go.Proofs.Yteiibneaihdmbaa
open Go.RowKit
set_option maxRecDepth 100000

/-- A wire before the n-th. -/
def wireOk (n z : Int) : Bool := decide (0 ≤ z) && decide (z ≤ n - 1)
/-- A gate that is valid behind n wires. -/
def gateOk (n : Int) (g : Ga) : Bool := if g.1 = 0 ∨ g.1 = 1 then wireOk n g.2.1 && wireOk n g.2.2 else if g.1 = 2 then wireOk n g.2.1 && decide (g.2.2 = 0) else decide (g = (3, 0, 0))
def Ci.ins (C : Ci) : Int := C.in0 + C.in1
def Ci.wires (C : Ci) : Int := C.in0 + C.in1 + (C.gs.length : Int)
/-- The first k gates are valid. -/
def gatesTo (C : Ci) : Nat → Bool
  | 0 => true
  | k + 1 => gatesTo C k && gateOk (C.ins + (k : Int)) (C.gs.getD k g0)
/-- A valid circuit. -/
def gd (C : Ci) : Bool := decide (0 ≤ C.in0 ∧ C.in0 ≤ 20 ∧ 0 ≤ C.in1 ∧ C.in1 ≤ 20 ∧ C.gs.length ≤ 300 ∧ C.os.length ≤ 40) && gatesTo C C.gs.length && allIn 0 (C.wires - 1) C.os
def m_IsCircuit (C : Ci) : Bool := gd C

theorem gatesTo_at {C : Ci} : ∀ {n : Nat}, gatesTo C n = true → ∀ k, k < n → gateOk (C.ins + (k : Int)) (C.gs.getD k g0) = true
  | 0, _, k, hk => by omega
  | n + 1, h, k, hk => by
    rw [gatesTo, Bool.and_eq_true] at h
    by_cases e : k = n
    · subst e; exact h.2
    · exact gatesTo_at h.1 k (by omega)
theorem gatesTo_no {C : Ci} : ∀ {n k : Nat}, k < n → gateOk (C.ins + (k : Int)) (C.gs.getD k g0) = false → gatesTo C n = false
  | 0, k, hk, _ => by omega
  | n + 1, k, hk, h => by
    rw [gatesTo]
    by_cases e : k = n
    · subst e; rw [h, Bool.and_false]
    · rw [gatesTo_no (by omega) h, Bool.false_and]
/-- What a valid circuit is, in parts. -/
structure Good (C : Ci) : Prop where
  a0 : 0 ≤ C.in0
  a1 : C.in0 ≤ 20
  b0 : 0 ≤ C.in1
  b1 : C.in1 ≤ 20
  g : C.gs.length ≤ 300
  o : C.os.length ≤ 40
  gate : ∀ k, k < C.gs.length → gateOk (C.ins + (k : Int)) (C.gs.getD k g0) = true
  out : ∀ k, k < C.os.length → 0 ≤ C.os.getD k 0 ∧ C.os.getD k 0 ≤ C.wires - 1
theorem gd_yes {C : Ci} (h : gd C = true) : Good C := by
  rw [gd, Bool.and_eq_true, Bool.and_eq_true, decide_eq_true_eq] at h
  obtain ⟨⟨⟨h1, h2, h3, h4, h5, h6⟩, h7⟩, h8⟩ := h
  exact ⟨h1, h2, h3, h4, h5, h6, fun k hk => gatesTo_at h7 k hk, fun k hk => allIn_yes h8 k hk⟩
end Go.Proofs.Yteiibneaihdmbaa
