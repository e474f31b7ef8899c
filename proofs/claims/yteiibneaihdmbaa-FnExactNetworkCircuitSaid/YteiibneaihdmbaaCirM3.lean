/- Circuits as mathematics: how many gates of each kind, how deep each wire lies. -/
import Derived.Test.YteiibneaihdmbaaCirM2
import Derived.Test.YteiibneaihdmbaaGen1
import Derived.Test.YteiibneaihdmbaaLists
namespace Go.Proofs.Yteiibneaihdmbaa
open Go.RowKit
set_option maxRecDepth 100000

/-- How many of the first k gates have a kind. -/
def cntTo (C : Ci) (kind : Int) : Nat → Int
  | 0 => 0
  | k + 1 => cntTo C kind k + if (C.gs.getD k g0).1 = kind then 1 else 0
def countsTo (C : Ci) (k : Nat) : List Int := mapTo (fun j => cntTo C (j : Int) k) 4
def m_CountGates (C : Ci) : List Int × Bool := if gd C = true then (countsTo C C.gs.length, true) else ([], false)
theorem cntTo_range (C : Ci) (kind : Int) : ∀ k, 0 ≤ cntTo C kind k ∧ cntTo C kind k ≤ (k : Int)
  | 0 => ⟨Int.le_refl _, Int.le_refl _⟩
  | k + 1 => by
    have := cntTo_range C kind k
    rw [cntTo]
    split <;> push_cast <;> omega
theorem countsTo_set (C : Ci) (k j : Nat) (hj : (C.gs.getD k g0).1 = (j : Int)) (h4 : j < 4) : (countsTo C k).set j (cntTo C (j : Int) k + 1) = countsTo C (k + 1) := by
  unfold countsTo
  rw [mapTo_set]
  congr 1
  funext i
  rw [cntTo, hj]
  by_cases e : i = j
  · subst e; rw [if_pos rfl, if_pos rfl]
  · rw [if_neg e, if_neg (by omega), Int.add_zero]

/-- The wires that a gate depends on. -/
def partsOf (g : Ga) : List Int := if g.1 = 0 ∨ g.1 = 1 then [g.2.1, g.2.2] else if g.1 = 2 then [g.2.1] else []
/-- The greater number, as the model has it. -/
def mostOf (a b : Int) : Int := if a > b then a else b
/-- The greatest of m and the numbers of wires. -/
def mostAt (d : List Int) (m : Int) (is : List Int) : Int := is.foldl (fun m i => mostOf m (d.getD i.toNat 0)) m
def gdep (ands : Bool) (d : List Int) (g : Ga) : Int := if ands = false ∨ g.1 = 1 then mostAt d 0 (partsOf g) + 1 else mostAt d 0 (partsOf g)
def depTo (C : Ci) (ands : Bool) : Nat → List Int
  | 0 => mapTo (fun _ => 0) C.ins.toNat
  | k + 1 => depTo C ands k ++ [gdep ands (depTo C ands k) (C.gs.getD k g0)]
def depC (C : Ci) (ands : Bool) : List Int := depTo C ands C.gs.length
def m_DepthOf (C : Ci) : Int × Int × Bool := if gd C = true then (mostAt (depC C false) 0 C.os, mostAt (depC C true) 0 C.os, true) else (0, 0, false)
theorem depTo_length (C : Ci) (ands : Bool) : ∀ k, (depTo C ands k).length = C.ins.toNat + k
  | 0 => mapTo_length _ _
  | k + 1 => by rw [depTo, List.length_append, depTo_length C ands k]; simp; omega
theorem getD_past {l : List Int} {j : Nat} (h : l.length ≤ j) : l.getD j 0 = 0 := by simp [List.getD, List.getElem?_eq_none h]
theorem mostAt_range {d : List Int} {b : Int} (hd : ∀ j, 0 ≤ d.getD j 0 ∧ d.getD j 0 ≤ b) : ∀ (is : List Int) (m : Int), 0 ≤ m ∧ m ≤ b → 0 ≤ mostAt d m is ∧ mostAt d m is ≤ b
  | [], m, h => h
  | i :: is, m, h => by
    have := hd i.toNat
    have hq : 0 ≤ mostOf m (d.getD i.toNat 0) ∧ mostOf m (d.getD i.toNat 0) ≤ b := by unfold mostOf; split <;> omega
    exact mostAt_range hd is _ hq
theorem depTo_range (C : Ci) (ands : Bool) : ∀ k j, 0 ≤ (depTo C ands k).getD j 0 ∧ (depTo C ands k).getD j 0 ≤ (k : Int)
  | 0, j => by
    rw [depTo]
    by_cases h : j < C.ins.toNat
    · rw [mapTo_at _ h]; exact ⟨Int.le_refl _, Int.le_refl _⟩
    · have e : (mapTo (fun _ => 0) C.ins.toNat).getD j 0 = 0 := getD_past (by rw [mapTo_length]; omega)
      rw [e]; exact ⟨Int.le_refl _, Int.le_refl _⟩
  | k + 1, j => by
    rw [depTo]
    have ih := depTo_range C ands k
    have hm := mostAt_range ih (partsOf (C.gs.getD k g0)) 0 ⟨Int.le_refl _, by omega⟩
    by_cases h : j < (depTo C ands k).length
    · rw [getD_append_left h]
      have := ih j
      push_cast; omega
    · by_cases e : j = (depTo C ands k).length
      · rw [e, getD_snoc, gdep]
        split <;> push_cast <;> omega
      · have e2 : (depTo C ands k ++ [gdep ands (depTo C ands k) (C.gs.getD k g0)]).getD j 0 = 0 := getD_past (by rw [List.length_append, List.length_singleton]; omega)
        rw [e2]; exact ⟨Int.le_refl _, by omega⟩
end Go.Proofs.Yteiibneaihdmbaa
