/- Rows of the call's own that lie in blocks of their own and are turned in place. No condition beyond what each lemma names. -/
import Derived.Test.YtkmnhdnifpglnaaMat6
namespace Go.Proofs.Ytkmnhdnifpglnaa
open Go.RowKit Go.Shelf

/-- An outer row v of n slices; the i-th is a row of the call's own of m integers, in block b i; no block serves twice. -/
def MatV (w : World) (S : Nat) (v : Value) (n m : Nat) (b : Nat → Nat) (M : Nat → List Int) : Prop :=
  (∃ vs : List Value, w.ownsRow S 32 1 v n vs ∧ ∀ i, i < n → ∃ c, vs[i]? = some (.slice (some ⟨b i, 0, none⟩) m c) ∧ w.ownsRow S 3 1 (.slice (some ⟨b i, 0, none⟩) m c) m (vals (M i))) ∧
    (∀ i, i < n → v.ownBlock ≠ some (b i)) ∧ ∀ i j, i < n → j < n → i ≠ j → b i ≠ b j

section
variable {w w' : World} {S n m i j k r g cap : Nat} {v : Value} {b : Nat → Nat} {M M' : Nat → List Int}
theorem MatV.nil_ (w : World) (S m : Nat) : MatV w S (.slice none 0 0) 0 m (fun _ => 0) (fun _ => []) := ⟨⟨[], World.ownsRow_nil _ _ _ _, fun i hi => by omega⟩, fun i hi => by omega, fun i j hi => by omega⟩
theorem MatV.ext (h : MatV w S v n m b M) (e : ∀ i, i < n → M i = M' i) : MatV w S v n m b M' := by
  obtain ⟨⟨vs, ho, hr⟩, h1, h2⟩ := h
  exact ⟨⟨vs, ho, fun i hi => by rw [← e i hi]; exact hr i hi⟩, h1, h2⟩
theorem MatV.below (h : MatV w S v n m b M) (hb : Below w.heap.size w w') : MatV w' S v n m b M := by
  obtain ⟨⟨vs, ho, hr⟩, h1, h2⟩ := h
  refine ⟨⟨vs, ho.kept (grownOf hb none) ?_, fun i hi => ?_⟩, h1, h2⟩
  · by_cases e : v.ownBlock = none
    · exact .inl e
    · exact .inr e
  · obtain ⟨c, e1, e2⟩ := hr i hi
    exact ⟨c, e1, e2.kept (grownOf hb none) (.inr (by simp [Value.ownBlock]))⟩
theorem MatV.cell (h : MatV w S (.slice (some ⟨g, 0, none⟩) n cap) n m b M) (hi : i < n) : ∃ c, w.cell? ⟨g, i, none⟩ = some (.slice (some ⟨b i, 0, none⟩) m c) := by
  obtain ⟨⟨vs, ho, hr⟩, _⟩ := h
  obtain ⟨c, e1, _⟩ := hr i hi
  exact ⟨c, by rw [ho.cellAt i (by omega)]; exact e1⟩
theorem MatV.free (h : MatV w S (.slice (some ⟨g, 0, none⟩) n cap) n m b M) (i : Nat) : w.frozen? ⟨g, i, none⟩ = false := by
  obtain ⟨⟨vs, ho, _⟩, _⟩ := h
  exact ho.frozenAt i
theorem MatV.len (h : MatV w S v n m b M) (hi : i < n) : (M i).length = m := by
  obtain ⟨⟨vs, ho, hr⟩, _⟩ := h
  obtain ⟨c, _, e2⟩ := hr i hi
  have := e2.1
  rw [vals_length] at this
  omega
theorem MatV.elem (h : MatV w S v n m b M) (hi : i < n) (hj : j < m) : w.cell? ⟨b i, j, none⟩ = some (.int .i64 ((M i).getD j 0)) := by
  have hl := h.len hi
  obtain ⟨⟨vs, ho, hr⟩, _⟩ := h
  obtain ⟨c, _, e2⟩ := hr i hi
  rw [e2.cellAt j (by omega), vals_at _ j (by omega)]
theorem MatV.efree (h : MatV w S v n m b M) (hi : i < n) (j : Nat) : w.frozen? ⟨b i, j, none⟩ = false := by
  obtain ⟨⟨vs, ho, hr⟩, _⟩ := h
  obtain ⟨c, _, e2⟩ := hr i hi
  exact e2.frozenAt j
theorem MatV.lt (h : MatV w S v n m b M) (hi : i < n) : S ≤ b i ∧ b i < w.heap.size := by
  obtain ⟨⟨vs, ho, hr⟩, _⟩ := h
  obtain ⟨c, _, e2⟩ := hr i hi
  exact e2.lt (b i) rfl
theorem MatV.olt (h : MatV w S (.slice (some ⟨g, 0, none⟩) n cap) n m b M) : S ≤ g ∧ g < w.heap.size := by
  obtain ⟨⟨vs, ho, hr⟩, _⟩ := h
  exact ho.lt g rfl
theorem stays {w : World} {B e n x k : Nat} {v : Value} {xs : List Value} (h : w.ownsRow B e 1 v n xs) (hne : v.ownBlock ≠ some x) (u : Value) : (w.setCell ⟨x, k, none⟩ u).ownsRow B e 1 v n xs :=
  h.kept (grown_setCell (World.grownBy.refl w (some x)) k u) (.inr hne)
/-- An element of a row is turned. -/
theorem MatV.put (h : MatV w S v n m b M) (hi : i < n) (j : Nat) (z : Int) : MatV (w.setCell ⟨b i, j, none⟩ (.int .i64 z)) S v n m b (fun r => if r = i then (M i).set j z else M r) := by
  obtain ⟨⟨vs, ho, hr⟩, h1, h2⟩ := h
  refine ⟨⟨vs, stays ho (h1 i hi) _, fun r hr' => ?_⟩, h1, h2⟩
  obtain ⟨c, e1, e2⟩ := hr r hr'
  refine ⟨c, e1, ?_⟩
  show World.ownsRow _ S _ 1 _ m (vals (if r = i then (M i).set j z else M r))
  by_cases e : r = i
  · subst e
    rw [if_pos rfl, ← vals_set]
    exact (e2.stored j _).1
  · rw [if_neg e]
    exact stays e2 (by simpa [Value.ownBlock] using h2 r i hr' hi e) _
/-- Rows k and r change places: first the r-th is stored, then the k-th. -/
theorem MatV.swap (h : MatV w S (.slice (some ⟨g, 0, none⟩) n cap) n m b M) (hk : k < n) (hr : r < n) {ck cr : Nat} (hck : w.cell? ⟨g, k, none⟩ = some (.slice (some ⟨b k, 0, none⟩) m ck)) (hcr : w.cell? ⟨g, r, none⟩ = some (.slice (some ⟨b r, 0, none⟩) m cr)) :
    MatV ((w.setCell ⟨g, r, none⟩ (.slice (some ⟨b k, 0, none⟩) m ck)).setCell ⟨g, k, none⟩ (.slice (some ⟨b r, 0, none⟩) m cr)) S (.slice (some ⟨g, 0, none⟩) n cap) n m (fun i => if i = k then b r else if i = r then b k else b i) (fun i => if i = k then M r else if i = r then M k else M i) := by
  obtain ⟨⟨vs, ho, hrow⟩, h1, h2⟩ := h
  have hl : vs.length = n := by simpa using ho.1
  have s1 := ho.stored r (.slice (some ⟨b k, 0, none⟩) m ck)
  have s2 := s1.1.stored k (.slice (some ⟨b r, 0, none⟩) m cr)
  have keep : ∀ i, i < n → ∀ {c : Nat} {xs : List Value}, w.ownsRow S 3 1 (.slice (some ⟨b i, 0, none⟩) m c) m xs → ((w.setCell ⟨g, r, none⟩ (.slice (some ⟨b k, 0, none⟩) m ck)).setCell ⟨g, k, none⟩ (.slice (some ⟨b r, 0, none⟩) m cr)).ownsRow S 3 1 (.slice (some ⟨b i, 0, none⟩) m c) m xs := fun i hi _ _ hx =>
    stays (stays hx (fun e => h1 i hi (by simpa [Value.ownBlock] using e.symm)) _) (fun e => h1 i hi (by simpa [Value.ownBlock] using e.symm)) _
  obtain ⟨ck', ek, eko⟩ := hrow k hk
  obtain ⟨cr', er, ero⟩ := hrow r hr
  rw [ho.cellAt k (by omega), ek] at hck
  rw [ho.cellAt r (by omega), er] at hcr
  have eck : ck' = ck := by injection hck with hck; injection hck
  have ecr : cr' = cr := by injection hcr with hcr; injection hcr
  subst eck ecr
  refine ⟨⟨_, s2.1, fun i hi => ?_⟩, fun i hi => ?_, fun i j hi hj hne => ?_⟩
  · show ∃ c, ((vs.set r _).set k _)[i]? = some (.slice (some ⟨if i = k then b r else if i = r then b k else b i, 0, none⟩) m c) ∧ World.ownsRow _ S _ 1 (.slice (some ⟨if i = k then b r else if i = r then b k else b i, 0, none⟩) m c) m (vals (if i = k then M r else if i = r then M k else M i))
    by_cases e1 : i = k
    · subst e1
      rw [if_pos rfl, if_pos rfl]
      exact ⟨cr', by rw [List.getElem?_set_self (by rw [List.length_set]; omega)], keep r hr ero⟩
    · rw [if_neg e1, if_neg e1]
      by_cases e2 : i = r
      · subst e2
        rw [if_pos rfl, if_pos rfl]
        exact ⟨ck', by rw [List.getElem?_set_ne (by omega), List.getElem?_set_self (by omega)], keep k hk eko⟩
      · rw [if_neg e2, if_neg e2]
        obtain ⟨c, e3, e4⟩ := hrow i hi
        exact ⟨c, by rw [List.getElem?_set_ne (by omega), List.getElem?_set_ne (by omega)]; exact e3, keep i hi e4⟩
  · show (Value.slice (some ⟨g, 0, none⟩) n cap).ownBlock ≠ some (if i = k then b r else if i = r then b k else b i)
    split
    · exact h1 r hr
    · split
      · exact h1 k hk
      · exact h1 i hi
  · show (if i = k then b r else if i = r then b k else b i) ≠ (if j = k then b r else if j = r then b k else b j)
    have hb : ∀ i, (if i = k then b r else if i = r then b k else b i) = b (if i = k then r else if i = r then k else i) := fun i => by
      split
      · rfl
      · split <;> rfl
    rw [hb, hb]
    refine h2 _ _ ?_ ?_ ?_
    · split
      · exact hr
      · split
        · exact hk
        · exact hi
    · split
      · exact hr
      · split
        · exact hk
        · exact hj
    · split <;> split <;> (try split) <;> (try split) <;> omega
/-- A row more. -/
theorem MatV.push {w2 : World} {vs : List Value} {x c g' : Nat} {L : List Int} (hr : ∀ i, i < n → ∃ c, vs[i]? = some (.slice (some ⟨b i, 0, none⟩) m c) ∧ w.ownsRow S 3 1 (.slice (some ⟨b i, 0, none⟩) m c) m (vals (M i))) (hl : vs.length = n)
    (h1 : ∀ i, i < n → v.ownBlock ≠ some (b i)) (h2 : ∀ i j, i < n → j < n → i ≠ j → b i ≠ b j) (hx : w.ownsRow S 3 1 (.slice (some ⟨x, 0, none⟩) m c) m (vals L)) (hxb : ∀ i, i < n → b i ≠ x) (hvx : v.ownBlock ≠ some x)
    (ho2 : w2.ownsRow S 32 1 (.slice (some ⟨g', 0, none⟩) (n + 1) cap) (n + 1) (vs ++ [.slice (some ⟨x, 0, none⟩) m c])) (hgr : w.grownBy w2 v.ownBlock) (hg : v.ownBlock = some g' ∨ g' = w.heap.size) :
    MatV w2 S (.slice (some ⟨g', 0, none⟩) (n + 1) cap) (n + 1) m (fun i => if i = n then x else b i) (fun i => if i = n then L else M i) := by
  refine ⟨⟨_, ho2, fun i hi => ?_⟩, fun i hi => ?_, fun i j hi hj hne => ?_⟩
  · show ∃ c', (vs ++ [.slice (some ⟨x, 0, none⟩) m c])[i]? = some (.slice (some ⟨if i = n then x else b i, 0, none⟩) m c') ∧ World.ownsRow _ S _ 1 (.slice (some ⟨if i = n then x else b i, 0, none⟩) m c') m (vals (if i = n then L else M i))
    by_cases e : i = n
    · rw [if_pos e, if_pos e]
      refine ⟨c, ?_, hx.kept hgr (.inr (fun e2 => hvx e2.symm))⟩
      rw [List.getElem?_append_right (by omega), hl, e, Nat.sub_self]
      rfl
    · rw [if_neg e, if_neg e]
      obtain ⟨c', e1, e2⟩ := hr i (by omega)
      exact ⟨c', by rw [List.getElem?_append_left (by omega)]; exact e1, e2.kept hgr (.inr (fun e3 => h1 i (by omega) e3.symm))⟩
  · show some g' ≠ some (if i = n then x else b i)
    rcases hg with hg | hg
    · rw [← hg]
      split
      · exact hvx
      · exact h1 i (by omega)
    · subst hg
      split
      · have := (hx.lt x rfl).2
        simp; omega
      · obtain ⟨c', _, e2⟩ := hr i (by omega)
        have := (e2.lt (b i) rfl).2
        simp; omega
  · show (if i = n then x else b i) ≠ (if j = n then x else b j)
    by_cases i1 : i = n <;> by_cases j1 : j = n
    · omega
    · rw [if_pos i1, if_neg j1]; exact (hxb j (by omega)).symm
    · rw [if_neg i1, if_pos j1]; exact hxb i (by omega)
    · rw [if_neg i1, if_neg j1]; exact h2 i j (by omega) (by omega) hne
end

end Go.Proofs.Ytkmnhdnifpglnaa
