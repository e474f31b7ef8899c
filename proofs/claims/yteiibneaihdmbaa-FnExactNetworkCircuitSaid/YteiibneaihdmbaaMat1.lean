/- Words for memory that holds lists of lists of integers: rows that are read, and an outer row of the call's own. No condition beyond what each lemma names. -/
import Derived.Test.YteiibneaihdmbaaGen1
namespace Go.Proofs.Yteiibneaihdmbaa
open Go.RowKit
set_option maxRecDepth 100000

theorem infoRow : (Try.prog.info? 23).map (fun i => (i.zero, i.size, i.bytes)) = some (some (.slice none 0 0), 1, 24) := by kernel_rfl

/-- The slice of n slices at address A reads as M 0, M 1, .. -/
def HasM (w : World) (A : Option Addr) (n : Nat) (M : Nat → List Int) : Prop :=
  0 < n → ∃ ad : Addr, A = some ad ∧ ad.block < w.heap.size ∧ ∀ k, k < n → ∃ R m c, w.cell? (ad.add k) = some (.slice R m c) ∧ Has w R m (M k) ∧ m ≤ 16777216 ∧ m ≤ c ∧ NilOk R m c

section
variable {w w' : World} {A : Option Addr} {n k : Nat} {M : Nat → List Int}
theorem HasM.below (h : HasM w A n M) (hb : Below w.heap.size w w') : HasM w' A n M := fun hn => by
  obtain ⟨ad, rfl, hlt, hc⟩ := h hn
  refine ⟨ad, rfl, by have := hb.size; omega, fun k hk => ?_⟩
  obtain ⟨R, m, c, h1, h2, h3, h4, h5⟩ := hc k hk
  refine ⟨R, m, c, ?_, h2.below hb, h3, h4, h5⟩
  have hq : w'.heap[(ad.add k).block]? = w.heap[(ad.add k).block]? := by rw [addBlock]; exact hb.block _ hlt
  exact (World.cell?_of_block hq).trans h1
theorem HasM.elem (h : HasM w A n M) (hk : k < n) : ∃ (ad : Addr) (R : Option Addr) (m c : Nat), A = some ad ∧ w.cell? (ad.add k) = some (.slice R m c) ∧ Has w R m (M k) ∧ m ≤ 16777216 ∧ m ≤ c ∧ NilOk R m c := by
  obtain ⟨ad, e, _, hc⟩ := h (by omega)
  obtain ⟨R, m, c, h1⟩ := hc k hk
  exact ⟨ad, R, m, c, e, h1⟩
end

/-- An outer row of n slices in block g, of the call's own, whose rows lie elsewhere and read as M 0, M 1, .. -/
def MatR (w : World) (S g n : Nat) (M : Nat → List Int) : Prop :=
  ∃ vs : List Value, w.ownsRow S 23 1 (.slice (some ⟨g, 0, none⟩) n n) n vs ∧ ∀ k, k < n → ∃ R m c, vs[k]? = some (.slice R m c) ∧ Has w R m (M k) ∧ m ≤ 16777216 ∧ m ≤ c ∧ NilOk R m c ∧ ∀ ad : Addr, R = some ad → ad.block ≠ g

section
variable {w w' : World} {S T g n k : Nat} {M M' : Nat → List Int}
theorem MatR.ext (h : MatR w S g n M) (e : ∀ k, k < n → M k = M' k) : MatR w S g n M' := by
  obtain ⟨vs, ho, hr⟩ := h
  exact ⟨vs, ho, fun k hk => by rw [← e k hk]; exact hr k hk⟩
theorem MatR.lt (h : MatR w S g n M) : S ≤ g ∧ g < w.heap.size := by
  obtain ⟨vs, ho, _⟩ := h
  exact ho.lt g rfl
theorem MatR.mono (h : MatR w S g n M) (hT : T ≤ S) : MatR w T g n M := by
  obtain ⟨vs, ho, hr⟩ := h
  exact ⟨vs, ho.mono hT, hr⟩
theorem MatR.below (h : MatR w S g n M) (hb : Below w.heap.size w w') : MatR w' S g n M := by
  obtain ⟨vs, ho, hr⟩ := h
  refine ⟨vs, ho.kept (grownOf hb none) (.inr (by simp [Value.ownBlock])), fun k hk => ?_⟩
  obtain ⟨R, m, c, h1, h2, h3⟩ := hr k hk
  exact ⟨R, m, c, h1, h2.below hb, h3⟩
theorem MatR.free (h : MatR w S g n M) (k : Nat) : w.frozen? ⟨g, k, none⟩ = false := by
  obtain ⟨vs, ho, _⟩ := h
  exact ho.frozenAt k
theorem MatR.elem (h : MatR w S g n M) (hk : k < n) : ∃ R m c, w.cell? ⟨g, k, none⟩ = some (.slice R m c) ∧ Has w R m (M k) ∧ m ≤ 16777216 ∧ m ≤ c ∧ NilOk R m c ∧ ∀ ad : Addr, R = some ad → ad.block ≠ g := by
  obtain ⟨vs, ho, hr⟩ := h
  obtain ⟨R, m, c, h1, h2⟩ := hr k hk
  exact ⟨R, m, c, by rw [ho.cellAt k (by omega)]; exact h1, h2⟩
theorem MatR.put (h : MatR w S g n M) (hk : k < n) {R : Option Addr} {m c : Nat} {L : List Int} (hL : Has w R m L) (hm : m ≤ 16777216) (hc : m ≤ c) (hN : NilOk R m c) (hR : ∀ ad : Addr, R = some ad → ad.block ≠ g) :
    MatR (w.setCell ⟨g, k, none⟩ (.slice R m c)) S g n (fun i => if i = k then L else M i) := by
  obtain ⟨vs, ho, hr⟩ := h
  have hl : vs.length = n := by simpa using ho.1
  have hst := ho.stored k (.slice R m c)
  have hkeep : ∀ {R' : Option Addr} {m' : Nat} {L' : List Int}, Has w R' m' L' → (∀ ad : Addr, R' = some ad → ad.block ≠ g) → Has (w.setCell ⟨g, k, none⟩ (.slice R m c)) R' m' L' := fun h1 h2 => h1.grown hst.2 (fun ad e => by simpa using h2 ad e)
  refine ⟨_, hst.1, fun j hj => ?_⟩
  by_cases e : j = k
  · subst e
    refine ⟨R, m, c, by rw [List.getElem?_set_self (by omega)], ?_, hm, hc, hN, hR⟩
    show Has _ R m (if j = j then L else M j)
    rw [if_pos rfl]
    exact hkeep hL hR
  · obtain ⟨R', m', c', h1, h2, h3, h4, h5, h6⟩ := hr j hj
    refine ⟨R', m', c', by rw [List.getElem?_set_ne (by omega)]; exact h1, ?_, h3, h4, h5, h6⟩
    show Has _ R' m' (if j = k then L else M j)
    rw [if_neg e]
    exact hkeep h2 h6
theorem addNone (g k : Nat) : (⟨g, 0, none⟩ : Addr).add k = ⟨g, k, none⟩ := by simp [Addr.add] <;> omega
theorem addOff (g i k : Nat) : (⟨g, i, none⟩ : Addr).add k = ⟨g, i + k, none⟩ := by simp [Addr.add] <;> omega
/-- The rows from the k-th on, to be read. -/
theorem MatR.tail (h : MatR w S g n M) (k : Nat) : HasM w (some ⟨g, k, none⟩) (n - k) (fun i => M (k + i)) := fun h0 => by
  refine ⟨_, rfl, h.lt.2, fun i hi => ?_⟩
  obtain ⟨R, m, c, h1, h2, h3, h4, h5, _⟩ := h.elem (k := k + i) (by omega)
  exact ⟨R, m, c, by rw [addOff]; exact h1, h2, h3, h4, h5⟩
end

/-- A row's block is not the outer one. -/
theorem Own.apart {w : World} {B g : Nat} {R : Option Addr} {m c : Nat} {L : List Int} (h : Own w B R m c L) (hg : g < B) : ∀ ad : Addr, R = some ad → ad.block ≠ g := fun ad e => by have := (h.born ad e).1; omega

theorem nilCells (n : Nat) : (madeCells (Value.slice none 0 0).cells (n * 1)).toList = List.replicate n (.slice none 0 0) := by
  apply List.ext_getElem?
  intro j
  by_cases hj : j < n
  · simp [madeCells, hj, Value.cells, Nat.mod_one]
  · rw [List.getElem?_eq_none (by simp [size_madeCells]; omega), List.getElem?_eq_none (by simp; omega)]

/-- make([][]int, n): an outer row of empty lists. -/
theorem makeMat {ops : Array Oper} {rest : List Oper} {o : Oper} {a : Act} {Q : Exit → Act → World → Prop} (w : World) (hg : o.guard = none) (l : Operand) (hop : o.op = Op.makeSlice 53 l l)
    (n : Nat) (hl : a.eval l = .int .i64 (n : Int)) (hn : n ≤ 16777216)
    (hK : ∀ w', MatR w' w.heap.size w.heap.size n (fun _ => []) → Below w.heap.size w w' → wpList Try.prog ops Q rest (a.put o.dst (.slice (some ⟨w.heap.size, 0, none⟩) n n)) w') :
    wpList Try.prog ops Q (o :: rest) a w := by
  obtain ⟨i0, hi, hz0, hz1, hz2⟩ := info_parts infoRow
  refine wpList_make_full _ hg l l 53 hop w.heap.size 23 i0 (.slice none 0 0) 1 Try.underlying53 hi hz0 hz1 .i64 .i64 _ _ n hl hl rfl rfl (by rw [hz2]; omega) (by simp only [maxLen]; omega) (Nat.le_refl _) ?_
  intro w1 hown hgrow
  rw [nilCells] at hown
  refine hK w1 ⟨_, hown, fun k hk => ⟨none, 0, 0, by simp [hk], Has.nil_, by omega, by omega, fun _ => ⟨rfl, rfl⟩, fun ad e => by cases e⟩⟩ (belowOf hgrow)

end Go.Proofs.Yteiibneaihdmbaa
