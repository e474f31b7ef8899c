/- Simplified circuits as mathematics: wires that are constant by the rules. -/
import Derived.Test.YtnelcbjegbchkaaSiM2
namespace Go.Proofs.Ytnelcbjegbchkaa
open Go.RowKit
set_option maxRecDepth 100000

/-- What the rules tell of a gate's wire over what is known of the wires before it: 0, 1, or -1. -/
def conV (v : List Int) (g : Ga) : Int :=
  if g.1 = 3 then 1
  else if g.1 = 2 then (if v.getD g.2.1.toNat 0 = -1 then -1 else 1 - v.getD g.2.1.toNat 0)
  else if g.1 = 0 then (if g.2.1 = g.2.2 then 0 else if v.getD g.2.1.toNat 0 = -1 ∨ v.getD g.2.2.toNat 0 = -1 then -1 else (v.getD g.2.1.toNat 0 + v.getD g.2.2.toNat 0) % 2)
  else (if v.getD g.2.1.toNat 0 = 0 ∨ v.getD g.2.2.toNat 0 = 0 then 0 else if v.getD g.2.1.toNat 0 = 1 ∧ v.getD g.2.2.toNat 0 = 1 then 1 else -1)
def conTo (C : Ci) : Nat → List Int
  | 0 => mapTo (fun _ => -1) C.ins.toNat
  | k + 1 => conTo C k ++ [conV (conTo C k) (C.gs.getD k g0)]
def m_ConstantWires (C : Ci) : List Int × Bool := if gd C = true then (conTo C C.gs.length, true) else ([], false)
/-- Known or not. -/
def Con (z : Int) : Prop := z = -1 ∨ z = 0 ∨ z = 1
theorem conTo_length (C : Ci) : ∀ k, (conTo C k).length = C.ins.toNat + k
  | 0 => mapTo_length _ _
  | k + 1 => by rw [conTo, List.length_append, conTo_length C k]; rfl
theorem conV_con {v : List Int} (h : ∀ i : Nat, Con (v.getD i 0)) (g : Ga) : Con (conV v g) := by
  unfold conV
  have ha := h g.2.1.toNat
  have hb := h g.2.2.toNat
  unfold Con at *
  generalize v.getD g.2.1.toNat 0 = a at *
  generalize v.getD g.2.2.toNat 0 = b at *
  repeat' split
  all_goals omega
theorem conTo_con (C : Ci) : ∀ (k i : Nat), Con ((conTo C k).getD i 0)
  | 0, i => by
    by_cases h : i < C.ins.toNat
    · left; rw [conTo, mapTo_at _ h]
    · right; left; rw [List.getD, List.getElem?_eq_none (by rw [conTo_length]; omega)]; rfl
  | k + 1, i => by
    rw [conTo]
    by_cases h : i < (conTo C k).length
    · rw [getD_append_left h]; exact conTo_con C k i
    · by_cases e : i = (conTo C k).length
      · rw [e, getD_snoc]; exact conV_con (conTo_con C k) _
      · right; left; rw [List.getD, List.getElem?_eq_none (by simp; omega)]; rfl
end Go.Proofs.Ytnelcbjegbchkaa
