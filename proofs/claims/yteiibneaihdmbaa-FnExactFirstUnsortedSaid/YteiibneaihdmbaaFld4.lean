/- The library's walk over a list from behind (slices.Backward), and the value of a polynomial, the program's by that walk and the model's by a counter: both by Horner's rule. For slices of at most 16777216 elements of the field. -/
import Derived.Test.YteiibneaihdmbaaFld3
import Derived.RangeFuncBox
import Derived.RangeFuncLeaves
import Derived.Shelf.Abstract
import Derived.OwnWalkIn
import Derived.TacticsInMore
import Derived.LoopNIn
import Derived.LoopIn
namespace Go.Proofs.Yteiibneaihdmbaa
open Go.RowKit Go.Shelf
set_option maxRecDepth 100000
attribute [local go_sem] Oper.semAt_some

/-- The value by Horner's rule, from behind. -/
def evM (p x : Int) (zs : List Int) : Int := zs.foldr (fun c v => (v * x + c) % p) 0
theorem evM_in {p x : Int} {zs : List Int} (h : 2 ≤ p) : 0 ≤ evM p x zs ∧ evM p x zs < p := by
  cases zs with
  | nil => exact ⟨Int.le_refl _, by show (0 : Int) < p; omega⟩
  | cons c l => exact modIn h
theorem evM_drop {p x : Int} {zs : List Int} {k : Nat} (h : k < zs.length) : evM p x (zs.drop k) = (evM p x (zs.drop (k + 1)) * x + zs.getD k 0) % p := by
  unfold evM
  rw [List.drop_eq_getElem_cons h, List.foldr_cons, List.getD, List.getElem?_eq_getElem h, Option.getD_some]
theorem evM_end {p x : Int} {zs : List Int} : evM p x (zs.drop zs.length) = 0 := by simp [evM]

/-- Horner's step fits. -/
theorem hornerFits {p v x c : Int} (hp : p ≤ 251) (v0 : 0 ≤ v) (v1 : v < p) (x0 : 0 ≤ x) (x1 : x < p) (c0 : 0 ≤ c) (c1 : c < p) : 0 ≤ v * x ∧ v * x ≤ 62500 ∧ 0 ≤ v * x + c ∧ v * x + c ≤ 62750 := by
  have := mulFits hp v0 v1 x0 x1
  omega

/-- What has come when k rounds are over. -/
def upto {α : Type} (f : Nat → α) (k : Nat) : List α := (List.range k).map f
theorem upto_succ {α : Type} (f : Nat → α) (k : Nat) : upto f (k + 1) = upto f k ++ [f k] := by simp [upto, List.range_succ]
theorem upto_length {α : Type} (f : Nat → α) (k : Nat) : (upto f k).length = k := by simp [upto]

/-- What a round keeps: whatever lay below n₀, and the cell that the iterator reads. -/
def Kb (n₀ Bs : Nat) (W W' : World) : Prop := Below n₀ W W' ∧ ∀ v, W.cell? ⟨Bs, 0, none⟩ = some v → W'.cell? ⟨Bs, 0, none⟩ = some v
theorem Kb.t {n₀ Bs : Nat} {A B C : World} (h : Kb n₀ Bs A B) (k : Kb n₀ Bs B C) : Kb n₀ Bs A C := ⟨h.1.trans k.1, fun v hv => k.2 v (h.2 v hv)⟩
theorem Kb.b {n₀ Bs : Nat} {w : World} (hn : n₀ ≤ w.heap.size) (W : World) (l : Nat) (o o' : Obj) (hl : w.heap.size ≤ l) (h : W.heap[l]? = some o) (hc : o.isCells = false) (hw : o.isWalk = false) : Kb n₀ Bs W (W.putObj l o') :=
  ⟨belowK_b hn W l o o' hl h hc hw, fun v hv => cell_kept hv (grownBy_putObj' W l o') (fun r e => by cases e; exact ⟨_, h, hc⟩)⟩

/-- An index and an element of the field. -/
abbrev El (p : Int) := { q : Int × Int // 0 ≤ q.2 ∧ q.2 < p }
def hv (p x : Int) (pre : List (El p)) : Int := pre.foldl (fun v q => (v * x + q.1.2) % p) 0
theorem hv_snoc (p x : Int) (pre : List (El p)) (q : El p) : hv p x (pre ++ [q]) = (hv p x pre * x + q.1.2) % p := by simp [hv]
theorem hv_in {p x : Int} (pre : List (El p)) (h : 2 ≤ p) : 0 ≤ hv p x pre ∧ hv p x pre < p := by
  rcases List.eq_nil_or_concat pre with rfl | ⟨l, q, rfl⟩
  · exact ⟨Int.le_refl _, by show (0 : Int) < p; omega⟩
  · rw [List.concat_eq_append, hv_snoc]
    exact modIn h
theorem all_in {p : Int} {zs : List Int} (h2 : 2 ≤ p) (hz : ∀ k, k < zs.length → 0 ≤ zs.getD k 0 ∧ zs.getD k 0 < p) (k : Nat) : 0 ≤ zs.getD k 0 ∧ zs.getD k 0 < p := by
  by_cases hk : k < zs.length
  · exact hz k hk
  · rw [List.getD, List.getElem?_eq_none (by omega), Option.getD_none]
    omega
theorem hv_upto (p x : Int) (zs : List Int) (hz : ∀ k, 0 ≤ zs.getD k 0 ∧ zs.getD k 0 < p) (k : Nat) (hk : k ≤ zs.length) :
    hv p x (upto (fun j => (⟨((zs.length : Int) - 1 - (j : Int), zs.getD (zs.length - 1 - j) 0), hz _⟩ : El p)) k) = evM p x (zs.drop (zs.length - k)) := by
  induction k with
  | zero => simp [upto, hv, evM]
  | succ k ih =>
    rw [upto_succ, hv_snoc, ih (by omega), evM_drop (k := zs.length - (k + 1)) (by omega)]
    have e1 : zs.length - (k + 1) + 1 = zs.length - k := by omega
    have e2 : zs.length - 1 - k = zs.length - (k + 1) := by omega
    rw [e1]
    simp only [e2]

end Go.Proofs.Yteiibneaihdmbaa
