/- Rows of the call's own whose cells are known and turn one by one, and the model's product of a polynomial and x + a. For slices of at most 12 elements of a small field. -/
import Derived.Test.YtadkbfjhghipaaaDoorFld12
import Derived.Test.YtadkbfjhghipaaaDoorHelp
namespace Go.Proofs.YtadkbfjhghipaaaDoor
open Go.RowKit

/-- A row of n cells in block g, born at B or later, that holds zs. -/
def Row (w : World) (B g n : Nat) (zs : List Int) : Prop := zs.length = n ∧ w.ownsRow B 3 1 (.slice (some ⟨g, 0, none⟩) n n) n (vals zs)
section
variable {w w' : World} {B S g n k : Nat} {zs : List Int}
theorem Row.own (h : Row w B g n zs) : Own w B (some ⟨g, 0, none⟩) n n zs := h
theorem Row.has (h : Row w B g n zs) : Has w (some ⟨g, 0, none⟩) n zs := Own.has h
theorem Row.lt (h : Row w B g n zs) : B ≤ g ∧ g < w.heap.size := h.2.lt g rfl
theorem Row.cell (h : Row w B g n zs) (hk : k < n) : w.cell? ⟨g, k, none⟩ = some (.int .i64 (zs.getD k 0)) := by
  rw [h.2.cellAt k (by omega), vals_at zs k (by rw [h.1]; exact hk)]
theorem Row.free (h : Row w B g n zs) (k : Nat) : w.frozen? ⟨g, k, none⟩ = false := h.2.frozenAt k
theorem vals_set (zs : List Int) (k : Nat) (z : Int) : (vals zs).set k (.int .i64 z) = vals (zs.set k z) := by simp [vals]
theorem Row.put (h : Row w B g n zs) (k : Nat) (z : Int) : Row (w.setCell ⟨g, k, none⟩ (.int .i64 z)) B g n (zs.set k z) :=
  ⟨by rw [List.length_set, h.1], by rw [← vals_set]; exact (h.2.stored k _).1⟩
theorem Row.kept {row : Option Nat} (h : Row w B g n zs) (hg : w.grownBy w' row) (hne : some g ≠ row) : Row w' B g n zs := ⟨h.1, h.2.kept hg (.inr hne)⟩
theorem Row.below (h : Row w B g n zs) (hb : Below w.heap.size w w') : Row w' B g n zs := h.kept (grownOf hb none) (by simp)
theorem Row.drewN (h : Row w B g n zs) (k : Nat) : Row (w.drewN k) B g n zs := h
theorem Row.mono (h : Row w B g n zs) (hS : S ≤ B) : Row w S g n zs := ⟨h.1, h.2.mono hS⟩
/-- A store into another block. -/
theorem Row.other (h : Row w B g n zs) {b : Nat} (hne : g ≠ b) (k : Nat) (u : Value) : Row (w.setCell ⟨b, k, none⟩ u) B g n zs :=
  h.kept (grown_setCell (World.grownBy.refl w (some b)) k u) (by simpa using hne)
theorem mapTo_set (f : Nat → Int) (n k : Nat) (z : Int) : (mapTo f n).set k z = mapTo (fun j => if j = k then z else f j) n := by
  apply List.ext_getElem?
  intro j
  by_cases hj : j < n
  · by_cases e : j = k
    · subst e
      rw [List.getElem?_set_self (by rw [mapTo_length]; exact hj)]
      simp [mapTo, hj]
    · rw [List.getElem?_set_ne (by omega)]
      simp [mapTo, hj, e]
  · rw [List.getElem?_eq_none (by rw [List.length_set, mapTo_length]; omega), List.getElem?_eq_none (by rw [mapTo_length]; omega)]
end
theorem zeroCells (n : Nat) : (madeCells (Value.int .i64 0).cells (n * 1)).toList = vals (mapTo (fun _ => 0) n) := by
  apply List.ext_getElem?
  intro j
  by_cases hj : j < n
  · rw [mapTo_vals _ hj]
    simp [madeCells, hj, Value.cells, Nat.mod_one]
  · rw [List.getElem?_eq_none (by simp [size_madeCells]; omega), List.getElem?_eq_none (by rw [vals_length, mapTo_length]; omega)]

/-- make([]int, n): a row of noughts. -/
theorem makeRow {ops : Array Oper} {rest : List Oper} {o : Oper} {a : Act} {Q : Exit → Act → World → Prop} (w : World) (hg : o.guard = none) (l : Operand) (hop : o.op = Op.makeSlice 22 l l)
    (n : Nat) (hl : a.eval l = .int .i64 (n : Int)) (hn : n ≤ 16777216)
    (hK : ∀ w', Row w' w.heap.size w.heap.size n (mapTo (fun _ => 0) n) → Below w.heap.size w w' → wpList Tryd.prog ops Q rest (a.put o.dst (.slice (some ⟨w.heap.size, 0, none⟩) n n)) w') :
    wpList Tryd.prog ops Q (o :: rest) a w := by
  obtain ⟨i0, hi, hz0, hz1, hz2⟩ := info_parts infoInt
  refine wpList_make_full _ hg l l 22 hop w.heap.size 3 i0 (.int .i64 0) 1 Tryd.underlying22 hi hz0 hz1 .i64 .i64 _ _ n hl hl rfl rfl (by rw [hz2]; omega) (by simp only [maxLen]; omega) (Nat.le_refl _) ?_
  intro w1 hown hgrow
  rw [zeroCells] at hown
  exact hK w1 ⟨mapTo_length _ _, hown⟩ (belowOf hgrow)

def timesC (p : Int) (l : List Int) (j : Nat) : Int := if j = 0 then 0 else l.getD (j - 1) 0 % p
theorem timesC_in {p : Int} {l : List Int} {j : Nat} (h : 2 ≤ p) : 0 ≤ timesC p l j ∧ timesC p l j < p := by
  unfold timesC
  split
  · omega
  · exact modIn h
/-- The product when k elements are taken in. -/
def timesT (p : Int) (l : List Int) (a : Int) (n k : Nat) : List Int := mapTo (fun j => if j < k then (timesC p l j + l.getD j 0 * a) % p else if j = k then timesC p l j else 0) (n + 1)
theorem timesT_zero (p : Int) (l : List Int) (a : Int) (n : Nat) : mapTo (fun _ => 0) (n + 1) = timesT p l a n 0 := mapTo_eq fun j _ => by
  by_cases e : j = 0
  · simp [e, timesC]
  · simp [e]
theorem timesT_end {p : Int} {l : List Int} (a : Int) : timesT p l a l.length l.length = timesM p l a := mapTo_eq fun j hj => by
  by_cases e : j < l.length
  · rw [if_pos e, timesC]
  · have e2 : j = l.length := by omega
    have h0 : l.getD j 0 = 0 := getD_out (by omega)
    rw [if_neg e, if_pos e2, h0, Int.zero_mul, Int.add_zero, timesC]
    split
    · simp
    · rw [Int.emod_emod]
theorem timesT_succ (p : Int) (l : List Int) (a : Int) (n k : Nat) : ((timesT p l a n k).set k ((timesC p l k + l.getD k 0 * a) % p)).set (k + 1) (l.getD k 0 % p) = timesT p l a n (k + 1) := by
  unfold timesT
  rw [mapTo_set, mapTo_set]
  refine mapTo_eq fun j hj => ?_
  by_cases e1 : j = k + 1
  · rw [if_pos e1, if_neg (by omega), if_pos e1, timesC, if_neg (by omega), e1, Nat.add_sub_cancel]
  · rw [if_neg e1]
    by_cases e2 : j = k
    · rw [if_pos e2, if_pos (by omega), e2]
    · rw [if_neg e2]
      by_cases e3 : j < k
      · rw [if_pos e3, if_pos (by omega)]
      · rw [if_neg e3, if_neg e2, if_neg (by omega), if_neg e1]

end Go.Proofs.YtadkbfjhghipaaaDoor
