/- One step of Gauss's elimination, as the program takes it. For at most 6 equations over a small field. -/
import Derived.Test.YtadkbfjhghipaaaDoorMat3
import Derived.Deep.RegionHeld3
namespace Go.Proofs.YtadkbfjhghipaaaDoor
open Go.RowKit Go.Shelf

/-- The first row from the r-th on, of at most f, in which column k is not 0. -/
def pivGo (M : Nat → List Int) (k : Nat) : Nat → Nat → Nat
  | 0, r => r
  | f + 1, r => if (M r).getD k 0 ≠ 0 then r else pivGo M k f (r + 1)
def pivot (M : Nat → List Int) (k n : Nat) : Nat := pivGo M k (n - k) k
theorem pivGo_eq {M : Nat → List Int} {k n r : Nat} (hlt : ∀ i, i < r → k ≤ i → (M i).getD k 0 = 0) (hat : r < n → (M r).getD k 0 ≠ 0) (hr : r ≤ n) : ∀ (f r0 : Nat), k ≤ r0 → r0 + f = n → r0 ≤ r → pivGo M k f r0 = r := by
  intro f
  induction f with
  | zero => intro r0 _ hf hle; rw [pivGo]; omega
  | succ f ih =>
    intro r0 hk hf hle
    rw [pivGo]
    by_cases e : r0 = r
    · rw [if_pos (by rw [e]; exact hat (by omega)), e]
    · rw [if_neg (by rw [hlt r0 (by omega) hk]; simp)]
      exact ih (r0 + 1) (by omega) (by omega) (by omega)
theorem pivot_eq {M : Nat → List Int} {k n r : Nat} (hk : k ≤ r) (hr : r ≤ n) (hlt : ∀ i, i < r → k ≤ i → (M i).getD k 0 = 0) (hat : r < n → (M r).getD k 0 ≠ 0) : pivot M k n = r :=
  pivGo_eq hlt hat hr (n - k) k (Nat.le_refl _) (by omega) hk

/-- Rows k and r changed places. -/
def swM (M : Nat → List Int) (k r : Nat) : Nat → List Int := fun i => if i = r then M k else if i = k then M r else M i
/-- The row R times the inverse of its k-th element. -/
def solR (p : Int) (n k : Nat) (R : List Int) : List Int := mapTo (fun c => R.getD c 0 * powM p (R.getD k 0) (p.toNat - 2) % p) (n + 1)
def elimR (p : Int) (n k : Nat) (S R : List Int) : List Int := mapTo (fun c => (R.getD c 0 + (p - R.getD k 0) * S.getD c 0) % p) (n + 1)
/-- The equations when the unknown k is eliminated by row r. -/
def nextM (p : Int) (n : Nat) (M : Nat → List Int) (k r : Nat) : Nat → List Int := fun i => if i = k then solR p n k (swM M k r k) else elimR p n k (solR p n k (swM M k r k)) (swM M k r i)
/-- n rows of n + 1 elements of the field. -/
def GoodM (p : Int) (n : Nat) (M : Nat → List Int) : Prop := ∀ i, i < n → (M i).length = n + 1 ∧ ∀ j, 0 ≤ (M i).getD j 0 ∧ (M i).getD j 0 < p

section
variable {p : Int} {n k r : Nat} {M : Nat → List Int}
theorem GoodM.sw (h : GoodM p n M) (hk : k < n) (hr : r < n) : GoodM p n (swM M k r) := fun i hi => by
  unfold swM
  split
  · exact h k hk
  · split
    · exact h r hr
    · exact h i hi
theorem solR_in (h : 2 ≤ p) {R : List Int} : ∀ j, 0 ≤ (solR p n k R).getD j 0 ∧ (solR p n k R).getD j 0 < p := all_in h (mapTo_in h)
theorem GoodM.next (h2 : 2 ≤ p) : GoodM p n (nextM p n M k r) := fun i _ => by
  unfold nextM
  split
  · exact ⟨mapTo_length _ _, solR_in h2⟩
  · exact ⟨mapTo_length _ _, all_in h2 (mapTo_in h2)⟩
end

theorem Has.stored {w : World} {R : Option Addr} {m : Nat} {L : List Int} (h : Has w R m L) {g : Nat} (hne : ∀ ad : Addr, R = some ad → ad.block ≠ g) (k : Nat) (u : Value) : Has (w.setCell ⟨g, k, none⟩ u) R m L :=
  h.grown (grown_setCell (World.grownBy.refl w (some g)) k u) (fun ad e => by simpa using hne ad e)
theorem MatR.drew {w : World} {S g n : Nat} {M : Nat → List Int} (h : MatR w S g n M) : MatR w.drew S g n M := h
theorem grownCell {w w' : World} {g b i : Nat} {v : Value} (hg : w.grownBy w' (some g)) (hb : b < w.heap.size) (hne : b ≠ g) (hc : w.cell? ⟨b, i, none⟩ = some v) : w'.cell? ⟨b, i, none⟩ = some v :=
  (World.cell?_of_block (hg.block b hb (by simpa using hne))).trans hc
theorem grownTrans {a b c : World} {g : Nat} (h : a.grownBy b (some g)) (h' : b.grownBy c (some g)) : a.grownBy c (some g) :=
  ⟨h'.os.trans h.os, h'.tape.trans h.tape, h'.output.trans h.output, Nat.le_trans h.size h'.size, fun k hk hne => (h'.block k (Nat.lt_of_lt_of_le hk h.size) hne).trans (h.block k hk hne)⟩

end Go.Proofs.YtadkbfjhghipaaaDoor
