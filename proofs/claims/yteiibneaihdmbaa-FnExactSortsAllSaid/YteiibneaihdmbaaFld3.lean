/- What PowMod, InverseMod, DivideMod and OrderMod do, the program's and the model's: the same answer. -/
import Derived.Test.YteiibneaihdmbaaFld2
namespace Go.Proofs.Yteiibneaihdmbaa
open Go.RowKit
set_option maxRecDepth 100000

/-- The least n of at least 1 with a to the power n being 1, looked for from k + 1 on. -/
def ordGo (p a : Int) : Nat → Nat → Int
  | 0, _ => 0
  | f + 1, k => if powM p a (k + 1) = 1 then (k : Int) + 1 else ordGo p a f (k + 1)
theorem ordGo_eq {p a : Int} {k : Nat} (h : powM p a (k + 1) = 1) (hlt : ∀ j, j < k → powM p a (j + 1) ≠ 1) : ∀ (d f k0 : Nat), k0 + d = k → d < f → ordGo p a f k0 = (k : Int) + 1 := by
  intro d
  induction d with
  | zero =>
    intro f k0 hk hf
    obtain ⟨f, rfl⟩ : ∃ g, f = g + 1 := ⟨f - 1, by omega⟩
    obtain rfl : k0 = k := by omega
    rw [ordGo, if_pos h]
  | succ d ih =>
    intro f k0 hk hf
    obtain ⟨f, rfl⟩ : ∃ g, f = g + 1 := ⟨f - 1, by omega⟩
    rw [ordGo, if_neg (hlt k0 (by omega))]
    exact ih f (k0 + 1) (by omega) (by omega)
def m_OrderMod (p a : Int) : Int × Bool := if elsIn p (one a) && decide (a ≠ 0) then (ordGo p a 251 0, true) else (0, false)
theorem powM_succ (p a : Int) (k : Nat) (h : 2 ≤ p) : powM p a k * a % p = powM p a (k + 1) := by
  refine Cg.eq (p := p) ?_ (modIn h).1 (modIn h).2 (powM_in (by omega)).1 (powM_in (by omega)).2
  refine (Cg.mod _ _).trans (((powM_cg p a k).mulRight a).trans ?_)
  rw [← Int.pow_succ]
  exact (powM_cg _ _ _).symm
theorem powM_one {p a : Int} (a0 : 0 ≤ a) (a1 : a < p) : powM p a 1 = a := by
  unfold powM
  rw [show a ^ 1 = a from by grind]
  exact Int.emod_eq_of_lt a0 a1
theorem ordEnds {p a : Int} {k : Nat} (hp : primeB p = true) (a0 : 0 < a) (a1 : a < p) (h : ∀ j, j < k → powM p a (j + 1) ≠ 1) : (k : Int) + 1 < p := by
  have h2 := primeB_yes hp
  refine Int.lt_of_not_ge fun hge => ?_
  refine h (p.toNat - 2) (by omega) ?_
  have := fermat hp a0 a1
  rw [show p.toNat - 2 + 1 = p.toNat - 1 by omega]
  exact this

end Go.Proofs.Yteiibneaihdmbaa
