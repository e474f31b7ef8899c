/- slices.Sort and slices.Compact on a row of the call's own: the row holds the list in order; the slice is cut to the list without repetitions. For rows of at most 16777216 elements. -/
import Derived.Test.YtjalpankapakkaaDoorShelf
namespace Go.Proofs.YtjalpankapakkaaDoor
open Go.Shelf Go.RowKit Go.Sort

theorem ownHolds {w : World} {S g n c : Nat} {zs : List Int} (h : Own w S (some ⟨g, 0, none⟩) n c zs) : Holds (Value.int .i64) w g 0 zs.toArray := by
  intro j hj
  have hj' : j < n := by rw [← h.1]; simpa using hj
  have hl : j < zs.length := by simpa using hj
  rw [Nat.zero_add]
  refine ⟨?_, h.freeR j⟩
  rw [h.cellR hj']
  simp [List.getD, hl]

theorem growBelow (w : World) (os : Array Obj) : w.grownBy (grow w os) none := ⟨rfl, rfl, rfl, by simp, fun k hk _ => heap_grow_old w os hk⟩

set_option maxHeartbeats 1000000 in
theorem sortInts_any (g n c : Nat) (zs : List Int) (S : Nat) (w0 w : World) (h : Own w S (some ⟨g, 0, none⟩) n c zs) (hn : n ≤ 16777216) (hb : Below S w0 w) :
    Calls Tryd.prog 52 #[.slice (some ⟨g, 0, none⟩) n c] w fun e w' => e = .returned (.tuple #[]) ∧ Own w' S (some ⟨g, 0, none⟩) n c (zs.mergeSort fun x y => decide (x ≤ y)) ∧ Below S w0 w' := by
  have hl := h.1
  have hg := h.born _ rfl
  have hs := Any.slices_Sort_int laysSort g 0 c zs w (ownHolds h) hg.2 (by omega)
  rw [hl] at hs
  refine hs.mono ?_
  rintro e w' ⟨rfl, q, os, rfl⟩
  have hk : (zs.mergeSort fun x y => decide (x ≤ y)).length = n := by rw [List.length_mergeSort, hl]
  have ho := Lib.ownsRow_putRow (q := q) (k := n) h.2 hk (Nat.le_refl n)
  rw [List.take_of_length_le (by omega)] at ho
  refine ⟨rfl, ⟨hk, ho.kept (growBelow _ _) (.inr (by simp [Value.ownBlock]))⟩, ?_⟩
  have hb2 : Below S w0 (putRow (Value.int .i64) (Sort.ahead w q) g 0 (zs.mergeSort fun x y => decide (x ≤ y)).toArray) := Lib.below_putRow hb hg.1
  have g1 : S ≤ g := hg.1
  have g2 : g < w.heap.size := hg.2
  exact hb2.grown (growBelow _ os) (by simp [putRow, mapBlock, Sort.ahead]; omega) (fun j hj => by cases hj)

set_option maxHeartbeats 1000000 in
theorem compactInts_any (g n c : Nat) (zs : List Int) (S : Nat) (w0 w : World) (h : Own w S (some ⟨g, 0, none⟩) n c zs) (hn : n ≤ 16777216) (hb : Below S w0 w) :
    Calls Tryd.prog 53 #[.slice (some ⟨g, 0, none⟩) n c] w fun e w' => e = .returned (.slice (some ⟨g, 0, none⟩) (Lib.compact zs).length c) ∧ Own w' S (some ⟨g, 0, none⟩) (Lib.compact zs).length c (Lib.compact zs) ∧ Below S w0 w' := by
  have hl := h.1
  have hg := h.born _ rfl
  have hc := h.capLe
  have hs := Any.slices_Compact_int laysCompact g 0 c zs w (ownHolds h) (by omega) (by omega)
  rw [hl] at hs
  refine hs.mono ?_
  rintro e w' ⟨rfl, q, rfl⟩
  have hle := Lib.compact_length_le zs
  have ho := Lib.ownsRow_putRow (q := q) (k := (Lib.compact zs).length) (ys := Lib.compact zs ++ List.replicate (n - (Lib.compact zs).length) 0) h.2 (by rw [List.length_append, List.length_replicate]; omega) (by omega)
  rw [List.take_left] at ho
  exact ⟨rfl, ⟨rfl, ho⟩, Lib.below_putRow hb hg.1⟩

end Go.Proofs.YtjalpankapakkaaDoor
