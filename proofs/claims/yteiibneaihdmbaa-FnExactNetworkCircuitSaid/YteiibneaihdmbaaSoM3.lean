/- Layers of a network as mathematics. -/
import Derived.Test.YteiibneaihdmbaaSo3
import Derived.Test.YteiibneaihdmbaaSoG2
import Derived.Test.YteiibneaihdmbaaCirM3
namespace Go.Proofs.Yteiibneaihdmbaa
open Go Go.RowKit
set_option maxRecDepth 100000

def lo (l : List St) (k : Nat) : Nat := (l.getD k st0).1.toNat
def hi (l : List St) (k : Nat) : Nat := (l.getD k st0).2.toNat
/-- The first layer behind those of the first k steps that have line j. -/
def behF (l : List St) : Nat → Nat → Nat
  | 0, _ => 0
  | k + 1, j => if j = lo l k ∨ j = hi l k then max (behF l k (lo l k)) (behF l k (hi l k)) + 1 else behF l k j
def atL (l : List St) (k : Nat) : Nat := max (behF l k (lo l k)) (behF l k (hi l k))
/-- How many layers the first k steps have. -/
def cntL (l : List St) : Nat → Nat
  | 0 => 0
  | k + 1 => if atL l k = cntL l k then cntL l k + 1 else cntL l k
/-- The a-th layer of the first k steps. -/
def layM (l : List St) : Nat → Nat → List Int
  | 0, _ => []
  | k + 1, a => if a = atL l k then layM l k a ++ [(k : Int)] else layM l k a
def m_LayersOf (n : Int) (l : List St) : (Nat × (Nat → List Int)) × Bool := if netB n l = true then ((cntL l l.length, layM l l.length), true) else ((0, fun _ => []), false)
theorem behF_le (l : List St) : ∀ k j, behF l k j ≤ cntL l k
  | 0, _ => Nat.le_refl _
  | k + 1, j => by
    have h1 := behF_le l k (lo l k)
    have h2 := behF_le l k (hi l k)
    have h3 := behF_le l k j
    rw [behF, cntL]
    unfold atL
    split <;> split <;> omega
theorem atL_le (l : List St) (k : Nat) : atL l k ≤ cntL l k := by
  have h1 := behF_le l k (lo l k)
  have h2 := behF_le l k (hi l k)
  unfold atL
  omega
theorem cntL_le (l : List St) : ∀ k, cntL l k ≤ k
  | 0 => Nat.le_refl _
  | k + 1 => by have := cntL_le l k; rw [cntL]; split <;> omega
theorem layM_nil (l : List St) : ∀ k a, cntL l k ≤ a → layM l k a = []
  | 0, _, _ => rfl
  | k + 1, a, h => by
    have hle := atL_le l k
    rw [cntL] at h
    by_cases e : atL l k = cntL l k
    · rw [if_pos e] at h
      rw [layM, if_neg (by omega)]
      exact layM_nil l k a (by omega)
    · rw [if_neg e] at h
      rw [layM, if_neg (by omega)]
      exact layM_nil l k a h
theorem layM_length (l : List St) : ∀ k a, (layM l k a).length ≤ k
  | 0, _ => Nat.le_refl _
  | k + 1, a => by have := layM_length l k a; rw [layM]; split <;> simp <;> omega
/-- The row of the first layers behind. -/
def behL (l : List St) (n k : Nat) : List Int := mapTo (fun j => (behF l k j : Int)) n
theorem behL_zero (l : List St) (n : Nat) : mapTo (fun _ => (0 : Int)) n = behL l n 0 := rfl
theorem behL_at {l : List St} {n k j : Nat} (h : j < n) : (behL l n k).getD j 0 = (behF l k j : Int) := mapTo_at _ h
theorem behL_next {l : List St} {n k : Nat} : ((behL l n k).set (lo l k) ((atL l k : Int) + 1)).set (hi l k) ((atL l k : Int) + 1) = behL l n (k + 1) := by
  rw [behL, mapTo_set, mapTo_set]
  exact mapTo_eq (fun j _ => by
    rw [behF]
    by_cases e : j = hi l k
    · rw [if_pos e, if_pos (.inr e)]; unfold atL; push_cast; rfl
    · rw [if_neg e]
      by_cases e2 : j = lo l k
      · rw [if_pos e2, if_pos (.inl e2)]; unfold atL; push_cast; rfl
      · rw [if_neg e2, if_neg (by rintro (h | h); exact e2 h; exact e h)])
theorem mostOf_max (p q : Nat) : mostOf (p : Int) (q : Int) = ((max p q : Nat) : Int) := by unfold mostOf; split <;> omega

/-- A row of rows does not lie in a block of another type. -/
theorem rowNotBlk {w : World} {B e size n c g b : Nat} {xs : List Value} {cs : Array Value} {t : TypeId} (h : w.ownsRow B e size (.slice (some ⟨g, 0, none⟩) n c) n xs) (y : Blk w b cs t) (ht : t ≠ e) : g ≠ b := by
  intro eg
  rcases h.2 with ⟨hv, _⟩ | ⟨g', cap, cur, hv, _, hg, _⟩
  · cases hv
  · injection hv with e1
    injection e1 with e1
    have e' : g = g' := by injection e1
    subst e'
    subst eg
    rw [show w.heap[g]? = some (.cells cs t (0, 0)) from y] at hg
    injection hg with hg
    injection hg with _ h2
    exact ht h2
theorem LayR.rowIn {w w' : World} {B n c k : Nat} {A : Option Addr} {rs : Nat → RwS} {M : Nat → List Int} (h : LayR w B A n c rs M) (hk : k < n) (hg : w.grownBy w' (blockOf (rs k).1)) : w'.ownsRow B 23 1 (.slice A n c) n (rwVs rs n) :=
  keptRow h.row hg (fun x e e2 => by
    cases A with
    | none => simp [Value.ownBlock] at e
    | some a =>
      simp [Value.ownBlock] at e
      subst e
      cases hR : (rs k).1 with
      | none => rw [hR] at e2; simp [blockOf] at e2
      | some b => rw [hR] at e2; simp [blockOf] at e2; exact rowApart h.row (h.own k hk) a b rfl hR e2)

end Go.Proofs.Yteiibneaihdmbaa
