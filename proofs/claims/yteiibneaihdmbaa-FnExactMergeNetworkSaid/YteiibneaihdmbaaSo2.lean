/- Appends of steps to a row of the call's own. For at most 33554432 steps. -/
import Derived.Test.YteiibneaihdmbaaSoM1
import Derived.Test.YteiibneaihdmbaaLists
namespace Go.Proofs.Yteiibneaihdmbaa
open Go Go.RowKit
set_option maxRecDepth 100000

theorem HasT.news {w : World} {ad : Addr} {m : Nat} {l : List St} (h : HasT w (some ad) m l) : ∀ (j : Nat) (u : Value), (tvals l)[j]? = some u → w.cell? (ad.add j) = some u := by
  intro j u hj
  have hl := tvals_length l
  have hlt : j < l.length * 2 := by
    have := (List.getElem?_eq_some_iff.1 hj).1
    omega
  obtain ⟨ad', e, _, hc⟩ := h.2 (by have := h.1; omega)
  obtain rfl := Option.some.inj e
  obtain ⟨k, r, hk, hr, rfl⟩ : ∃ k r, k < l.length ∧ r < 2 ∧ j = k * 2 + r := ⟨j / 2, j % 2, by omega, by omega, by omega⟩
  obtain ⟨h1, h2⟩ := hc k (by rw [← h.1]; exact hk)
  obtain ⟨g1, g2⟩ := tvals_cell l k hk
  rcases (by omega : r = 0 ∨ r = 1) with rfl | rfl
  · rw [Nat.add_zero] at hj ⊢
    rw [g1] at hj
    rw [h1, ← hj]
  · rw [g2] at hj
    rw [← addAdd, h2, ← hj]

theorem ownTOf {w : World} {B : Nat} {v : Value} {n : Nat} {l : List St} (h : w.ownsRow B 93 2 v n (tvals l)) : ∃ R c, v = .slice R n c ∧ OwnT w B R n c l := by
  have hl : l.length = n := by have := h.1; rw [tvals_length] at this; omega
  rcases h.2 with ⟨rfl, rfl⟩ | ⟨g, cap, cur, rfl, _⟩
  · exact ⟨none, 0, rfl, hl, h⟩
  · exact ⟨_, cap, rfl, hl, h⟩

theorem appendSteps {ops : Array Oper} {rest : List Oper} {o : Oper} {a : Act} {Q : Exit → Act → World → Prop} (w : World) (hgd : o.guard = none) (s x : Operand)
    (ho : o.op = .call { callee := .builtin .append, args := #[s, x], argTypes := #[39, 39] }) (S : Nat) (A B : Option Addr) (n d m c : Nat) (l l' : List St) (hsv : a.eval s = .slice A n d) (hv : OwnT w S A n d l)
    (hx : a.eval x = .slice B m c) (hnil : NilOk B m c) (hB : HasT w B m l') (hn : n ≤ 33554432) (hm : m ≤ 33554432) (hS : S ≤ w.heap.size)
    (h : ∀ R c' w', OwnT w' S R (n + m) c' (l ++ l') → Below S w w' → w.grownBy w' (Value.slice A n d).ownBlock → wpList Try.prog ops Q rest (a.put o.dst (.slice R (n + m) c')) w') :
    wpList Try.prog ops Q (o :: rest) a w := by
  obtain ⟨i0, hi, hz0, hz1, hz2⟩ := info_parts infoStep
  cases B with
  | none =>
    obtain ⟨rfl, rfl⟩ := hnil rfl
    have e : l' = [] := List.length_eq_zero_iff.1 hB.1
    subst e
    refine wpList_append_own_none hgd s x _ ho S 93 i0 2 Try.underlying39 hi _ n (tvals l) hsv hv.2 hx ?_
    have := h A d w (by simpa using hv) (Below.refl _ _) (World.grownBy.refl _ _)
    exact this
  | some ad =>
    refine wpList_append_own _ hgd s x _ ho S 93 i0 (.agg #[.int .i64 0, .int .i64 0]) 2 16 Try.underlying39 hi hz0 hz1 hz2 rfl (by decide) _ n (tvals l) hsv hv.2 ad m c (tvals l') hx (by rw [tvals_length, hB.1]) hB.news (tvals_one l') (by simp only [maxLen]; omega) (by omega) hS ?_
    intro v' w' h2 h3 _
    rw [← tvals_append] at h2
    have hlt := hv.2.lt
    obtain ⟨R, c', rfl, ho'⟩ := ownTOf h2
    exact h R c' w' ho' ((Below.refl S w).grown h3 hS fun k hk => (hlt k hk).1) h3

/-- One step is appended. -/
theorem appendStep {ops : Array Oper} {rest : List Oper} {o : Oper} {a : Act} {Q : Exit → Act → World → Prop} (w : World) (hgd : o.guard = none) (s x : Operand)
    (ho : o.op = .call { callee := .builtin .append, args := #[s, x], argTypes := #[39, 39] }) (p q : Int) (S : Nat) (A : Option Addr) (n d : Nat) (l : List St) (hsv : a.eval s = .slice A n d)
    (hx : a.eval x = .slice (some ⟨w.heap.size, 0, none⟩) 1 1) (hv : OwnT w S A n d l) (hn : n ≤ 33554432) (hS : S ≤ w.heap.size)
    (h : ∀ R c' w', OwnT w' S R (n + 1) c' (l ++ [(p, q)]) → Below S w w' → w.grownBy w' (Value.slice A n d).ownBlock → wpList Try.prog ops Q rest (a.put o.dst (.slice R (n + 1) c')) w') :
    wpList Try.prog ops Q (o :: rest) a (w.alloc (.cells #[.int .i64 p, .int .i64 q] 93)) := by
  have b := belowNew w (.cells #[.int .i64 p, .int .i64 q] 93)
  have y := Blk.new w #[.int .i64 p, .int .i64 q] 93
  refine appendSteps _ hgd s x ho S A (some ⟨w.heap.size, 0, none⟩) n d 1 1 l [(p, q)] hsv (hv.below b) hx (fun e => by cases e) ⟨rfl, fun _ => ⟨_, rfl, y.lt, fun k hk => ?_⟩⟩ hn (by omega) (Nat.le_trans hS b.size) fun R c' w' h1 h2 h3 => h R c' w' h1 (((Below.refl S w).alloc hS _).trans h2) ((grownOf b _).trans h3)
  obtain rfl : k = 0 := by omega
  refine ⟨?_, ?_⟩
  · simp [Addr.add]
  · simp [Addr.add]

end Go.Proofs.Yteiibneaihdmbaa
