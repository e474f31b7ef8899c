/- A row of bools of the call's own. -/
import Derived.Test.YteiibneaihdmbaaGen2
namespace Go.Proofs.Yteiibneaihdmbaa
open Go Go.RowKit
set_option maxRecDepth 100000

/-! ## rows of bools -/
def bvals (f : Nat → Bool) (n : Nat) : List Value := (List.range n).map fun j => .bool (f j)
theorem bvals_length (f : Nat → Bool) (n : Nat) : (bvals f n).length = n := by simp [bvals]
theorem bvals_at (f : Nat → Bool) {n k : Nat} (h : k < n) : (bvals f n)[k]? = some (.bool (f k)) := by simp [bvals, h]
theorem bvals_set (f : Nat → Bool) (n k : Nat) (b : Bool) : (bvals f n).set k (.bool b) = bvals (fun j => if j = k then b else f j) n := by
  apply List.ext_getElem?
  intro i
  by_cases hi : i < n
  · rw [bvals_at _ hi, List.getElem?_set, bvals_at _ hi, bvals_length]
    by_cases e : k = i
    · subst e
      rw [if_pos rfl, if_pos hi, if_pos rfl]
    · rw [if_neg e, if_neg (fun h => e h.symm)]
  · rw [List.getElem?_eq_none (by rw [List.length_set, bvals_length]; omega), List.getElem?_eq_none (by rw [bvals_length]; omega)]
theorem bvals_congr {f g : Nat → Bool} {n : Nat} (h : ∀ j, j < n → f j = g j) : bvals f n = bvals g n := List.map_congr_left fun j hj => by rw [h j (List.mem_range.1 hj)]
/-- Block g is a row of n bools of the call's own, from block B on. -/
def RowB (w : World) (B g n : Nat) (f : Nat → Bool) : Prop := w.ownsRow B 4 1 (.slice (some ⟨g, 0, none⟩) n n) n (bvals f n)
section
variable {w w' : World} {B B' g n k : Nat} {f f' : Nat → Bool}
theorem RowB.cell (h : RowB w B g n f) (hk : k < n) : w.cell? ⟨g, k, none⟩ = some (.bool (f k)) := by
  have h' : w.ownsRow B 4 1 (.slice (some ⟨g, 0, none⟩) n n) n (bvals f n) := h
  rw [h'.cellAt k (by omega), bvals_at f hk]
theorem RowB.free (h : RowB w B g n f) (k : Nat) : w.frozen? ⟨g, k, none⟩ = false := World.ownsRow.frozenAt h k
theorem RowB.lt (h : RowB w B g n f) : B ≤ g ∧ g < w.heap.size := World.ownsRow.lt h g rfl
theorem RowB.put (h : RowB w B g n f) (k : Nat) (b : Bool) : RowB (w.setCell ⟨g, k, none⟩ (.bool b)) B g n (fun j => if j = k then b else f j) := by
  unfold RowB
  rw [← bvals_set]
  exact (World.ownsRow.stored h k _).1
theorem RowB.congr (h : RowB w B g n f) (e : ∀ j, j < n → f j = f' j) : RowB w B g n f' := by
  unfold RowB
  rw [← bvals_congr e]
  exact h
theorem RowB.grown {row : Option Nat} (h : RowB w B g n f) (hg : w.grownBy w' row) (hne : some g ≠ row) : RowB w' B g n f := World.ownsRow.kept h hg (.inr hne)
theorem RowB.below (h : RowB w B g n f) (hb : Below w.heap.size w w') : RowB w' B g n f := h.grown (grownOf hb none) (by simp)
theorem RowB.mono (h : RowB w B g n f) (hB : B' ≤ B) : RowB w B' g n f := World.ownsRow.mono h hB
end
theorem infoBool : (Try.prog.info? 4).map (fun i => (i.zero, i.size, i.bytes)) = some (some (.bool false), 1, 1) := by kernel_rfl
theorem zeroBools (n : Nat) : (madeCells (Value.bool false).cells (n * 1)).toList = bvals (fun _ => false) n := by
  apply List.ext_getElem?
  intro j
  by_cases hj : j < n
  · rw [bvals_at _ hj]
    simp [madeCells, hj, Value.cells, Nat.mod_one]
  · rw [List.getElem?_eq_none (by simp [size_madeCells]; omega), List.getElem?_eq_none (by rw [bvals_length]; omega)]
theorem makeBools {ops : Array Oper} {rest : List Oper} {o : Oper} {a : Act} {Q : Exit → Act → World → Prop} (w : World) (hg : o.guard = none) (l : Operand) (hop : o.op = Op.makeSlice 101 l l)
    (n : Nat) (hl : a.eval l = .int .i64 (n : Int)) (hn : n ≤ 16777216)
    (hK : ∀ w', RowB w' w.heap.size w.heap.size n (fun _ => false) → Below w.heap.size w w' → wpList Try.prog ops Q rest (a.put o.dst (.slice (some ⟨w.heap.size, 0, none⟩) n n)) w') :
    wpList Try.prog ops Q (o :: rest) a w := by
  obtain ⟨i0, hi, hz0, hz1, hz2⟩ := info_parts infoBool
  refine wpList_make_full _ hg l l 101 hop w.heap.size 4 i0 (.bool false) 1 Try.underlying101 hi hz0 hz1 .i64 .i64 _ _ n hl hl rfl rfl (by rw [hz2]; omega) (by simp only [maxLen]; omega) (Nat.le_refl _) ?_
  intro w1 hown hgrow
  rw [zeroBools] at hown
  exact hK w1 hown (belowOf hgrow)

end Go.Proofs.Yteiibneaihdmbaa
