/- Appending to a list that is full, and a new list made of another's elements by a closure: 'withMultiple' adds a multiple of one list to another in the field. For slices of at most 16777216 elements. -/
import Derived.Test.YtadkbfjhghipaaaDoorFld5
import Derived.ArgAppend
namespace Go.Proofs.YtadkbfjhghipaaaDoor
open Go.RowKit

/-- append(a, b...) where a is full: a new row. -/
theorem appendFull {ops : Array Oper} {rest : List Oper} {o : Oper} {a : Act} {Q : Exit → Act → World → Prop} (w : World) (hgd : o.guard = none) (s x : Operand)
    (ho : o.op = .call { callee := .builtin .append, args := #[s, x], argTypes := #[22, 22] }) (A B : Option Addr) (n m c : Nat) (zs ys : List Int) (hs : a.eval s = .slice A n n)
    (hx : a.eval x = .slice B m c) (hA : Has w A n zs) (hB : Has w B m ys) (hm : 0 < m) (hn : n ≤ 1048576) (hm2 : m ≤ 1048576)
    (h : ∀ R c' w', Own w' w.heap.size R (n + m) c' (zs ++ ys) → Below w.heap.size w w' → wpList Tryd.prog ops Q rest (a.put o.dst (.slice R (n + m) c')) w') :
    wpList Tryd.prog ops Q (o :: rest) a w := by
  obtain ⟨i0, hi, hz0, hz1, hz2⟩ := info_parts infoInt
  obtain ⟨ad, rfl, _, hc⟩ := hB.2 hm
  refine wpList_append_grows w hgd s x _ ho 3 i0 (.int .i64 0) 1 8 Tryd.underlying22 hi hz0 hz1 hz2 rfl (by decide) A n n (vals zs) hs ?_ (by rw [vals_length, hA.1]; omega) ?_ ad m c (vals ys) hx (by rw [vals_length, hB.1]; omega) ?_ (vals_one ys) (by omega) (by simp only [maxLen]; omega) (by omega) ?_
  · intro e
    by_cases h0 : n = 0
    · exact ⟨h0, h0⟩
    · obtain ⟨_, e', _⟩ := hA.2 (by omega)
      rw [e] at e'
      cases e'
  · intro b e j u hj
    by_cases h0 : j < n
    · obtain ⟨b', e', _, hc'⟩ := hA.2 (by omega)
      rw [e] at e'
      obtain rfl := Option.some.inj e'
      rw [hc' j h0, ← hj, vals_at zs j (by rw [hA.1]; exact h0)]
    · rw [List.getElem?_eq_none (by rw [vals_length, hA.1]; omega)] at hj
      cases hj
  · intro j u hj
    by_cases h0 : j < m
    · rw [hc j h0, ← hj, vals_at ys j (by rw [hB.1]; exact h0)]
    · rw [List.getElem?_eq_none (by rw [vals_length, hB.1]; omega)] at hj
      cases hj
  · intro v' w' h1 h2
    rw [← vals_append] at h1
    obtain ⟨R, c', rfl⟩ := sliceOf h1
    exact h R c' w' ⟨by rw [List.length_append, hA.1, hB.1], h1⟩ (belowOf h2)

theorem Has.keepHeap {w w' : World} {A : Option Addr} {n : Nat} {zs : List Int} (h : Has w A n zs) (e : w'.heap = w.heap) : Has w' A n zs := h.keep (by rw [e]; exact Nat.le_refl _) fun _ _ _ => by rw [e]
theorem cellKept {S : Nat} {W W' : World} (h : Below S W W') {b i : Nat} {v : Value} (hb : b < S) (hc : W.cell? ⟨b, i, none⟩ = some v) : W'.cell? ⟨b, i, none⟩ = some v := (World.cell?_of_block (h.block b hb)).trans hc

end Go.Proofs.YtadkbfjhghipaaaDoor
