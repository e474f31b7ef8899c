/- Rows of the call's own whose cells are known and turn one by one, and the model's product of a polynomial and x + a. For slices of at most 12 elements of a small field. -/
import Derived.Test.YteiibneaihdmbaaFld12
import Derived.Test.YteiibneaihdmbaaHelp
namespace Go.Proofs.Yteiibneaihdmbaa
open Go.RowKit
set_option maxRecDepth 100000

def timesC (p : Int) (l : List Int) (j : Nat) : Int := if j = 0 then 0 else l.getD (j - 1) 0 % p
theorem timesC_in {p : Int} {l : List Int} {j : Nat} (h : 2 ≤ p) : 0 ≤ timesC p l j ∧ timesC p l j < p := by
  unfold timesC
  split
  · omega
  · exact modIn h
/-- The product when k elements are taken in. -/
def timesT (p : Int) (l : List Int) (a : Int) (n k : Nat) : List Int := mapTo (fun j => if j < k then (timesC p l j + l.getD j 0 * a) % p else if j = k then timesC p l j else 0) (n + 1)
theorem timesT_zero (p : Int) (l : List Int) (a : Int) (n : Nat) : mapTo (fun _ => 0) (n + 1) = timesT p l a n 0 := mapTo_eq fun j _ => by
  by_cases e : j = 0
  · simp [e, timesC]
  · simp [e]
theorem timesT_end {p : Int} {l : List Int} (a : Int) : timesT p l a l.length l.length = timesM p l a := mapTo_eq fun j hj => by
  by_cases e : j < l.length
  · rw [if_pos e, timesC]
  · have e2 : j = l.length := by omega
    have h0 : l.getD j 0 = 0 := getD_out (by omega)
    rw [if_neg e, if_pos e2, h0, Int.zero_mul, Int.add_zero, timesC]
    split
    · simp
    · rw [Int.emod_emod]
theorem timesT_succ (p : Int) (l : List Int) (a : Int) (n k : Nat) : ((timesT p l a n k).set k ((timesC p l k + l.getD k 0 * a) % p)).set (k + 1) (l.getD k 0 % p) = timesT p l a n (k + 1) := by
  unfold timesT
  rw [mapTo_set, mapTo_set]
  refine mapTo_eq fun j hj => ?_
  by_cases e1 : j = k + 1
  · rw [if_pos e1, if_neg (by omega), if_pos e1, timesC, if_neg (by omega), e1, Nat.add_sub_cancel]
  · rw [if_neg e1]
    by_cases e2 : j = k
    · rw [if_pos e2, if_pos (by omega), e2]
    · rw [if_neg e2]
      by_cases e3 : j < k
      · rw [if_pos e3, if_pos (by omega)]
      · rw [if_neg e3, if_neg e2, if_neg (by omega), if_neg e1]

end Go.Proofs.Yteiibneaihdmbaa
