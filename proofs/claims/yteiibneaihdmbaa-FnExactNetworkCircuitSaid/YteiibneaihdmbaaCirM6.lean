/- Circuits as mathematics: moved gates, one circuit after the other. -/
import Derived.Test.YteiibneaihdmbaaCirM2
import Derived.Test.YteiibneaihdmbaaLists
namespace Go.Proofs.Yteiibneaihdmbaa
open Go.RowKit
set_option maxRecDepth 100000

/-- A gate whose wires are replaced by those of a list. -/
def movedG (ws : List Int) (g : Ga) : Ga := if g.1 = 0 ∨ g.1 = 1 then (g.1, ws.getD g.2.1.toNat 0, ws.getD g.2.2.toNat 0) else if g.1 = 2 then (g.1, ws.getD g.2.1.toNat 0, g.2.2) else g
/-- A list of wires, and behind it the own wires of k gates from a number on. -/
def wiresTo (ws : List Int) (next : Int) (k : Nat) : List Int := ws ++ mapTo (fun j => next + (j : Int)) k
/-- The first k of the moved gates. -/
def movTo (gs : List Ga) (ws : List Int) (next : Int) (k : Nat) : List Ga := (List.range k).map fun j => movedG (wiresTo ws next j) (gs.getD j g0)
theorem movTo_succ (gs : List Ga) (ws : List Int) (next : Int) (k : Nat) : movTo gs ws next (k + 1) = movTo gs ws next k ++ [movedG (wiresTo ws next k) (gs.getD k g0)] := by simp [movTo, List.range_succ]
theorem movTo_length (gs : List Ga) (ws : List Int) (next : Int) (k : Nat) : (movTo gs ws next k).length = k := by simp [movTo]
theorem wiresTo_succ (ws : List Int) (next : Int) (k : Nat) : wiresTo ws next (k + 1) = wiresTo ws next k ++ [next + (k : Int)] := by rw [wiresTo, mapTo_succ, ← List.append_assoc]; rfl
theorem wiresTo_length (ws : List Int) (next : Int) (k : Nat) : (wiresTo ws next k).length = ws.length + k := by simp [wiresTo, mapTo_length]
/-- A circuit, if it is valid. -/
def ifG (C : Ci) : Ci × Bool := if gd C = true then (C, true) else (⟨0, 0, [], []⟩, false)
def thenC (C D : Ci) : Ci := ⟨C.in0, C.in1, C.gs ++ movTo D.gs C.os C.wires D.gs.length, pickL (wiresTo C.os C.wires D.gs.length) D.os⟩
def m_ThenCircuit (C D : Ci) : Ci × Bool := if gd C = true ∧ gd D = true ∧ (C.os.length : Int) = D.ins then ifG (thenC C D) else (⟨0, 0, [], []⟩, false)
/-- Where the inputs of two circuits lie beside each other. -/
def leftAt (C D : Ci) (i : Nat) : Int := if (i : Int) < C.in0 then (i : Int) else (i : Int) + D.in0
def rightAt (C D : Ci) (i : Nat) : Int := if (i : Int) < D.in0 then (i : Int) + C.in0 else (i : Int) + C.in0 + C.in1
def besideC (C D : Ci) : Ci :=
  ⟨C.in0 + D.in0, C.in1 + D.in1,
   movTo C.gs (mapTo (leftAt C D) C.ins.toNat) (C.ins + D.ins) C.gs.length ++ movTo D.gs (mapTo (rightAt C D) D.ins.toNat) (C.ins + D.ins + (C.gs.length : Int)) D.gs.length,
   pickL (wiresTo (mapTo (leftAt C D) C.ins.toNat) (C.ins + D.ins) C.gs.length) C.os ++ pickL (wiresTo (mapTo (rightAt C D) D.ins.toNat) (C.ins + D.ins + (C.gs.length : Int)) D.gs.length) D.os⟩
def m_BesideCircuit (C D : Ci) : Ci × Bool := if gd C = true ∧ gd D = true then ifG (besideC C D) else (⟨0, 0, [], []⟩, false)
end Go.Proofs.Yteiibneaihdmbaa
