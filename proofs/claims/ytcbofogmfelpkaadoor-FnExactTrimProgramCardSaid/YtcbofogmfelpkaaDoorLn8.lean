/- Lists of lines and of strings where marks are written elsewhere; how far the marks of a list of lines reach. No condition. -/
import Derived.Test.YtcbofogmfelpkaaDoorLn6
namespace Go.Proofs.YtcbofogmfelpkaaDoor
open Go Go.RowKit
set_option maxRecDepth 100000

section
variable {w w' wb : World} {S T B U n m d c : Nat} {A : Option Addr} {ls : List Ln} {F : Nat → Option Addr × Nat × Nat} {ts : List ByteArray}
theorem Strs.spanHi (h : Strs w B (.slice A n c) n ts) (hs : Span S U w w') (hA : ∀ a : Addr, A = some a → a.block < S) : Strs w' B (.slice A n c) n ts := by
  refine ⟨h.1, ?_⟩
  rcases h.2 with ⟨h1, h2⟩
  refine ⟨h1, ?_⟩
  rcases h2 with h2 | ⟨g, cap, cur, e, hb, hg, h5, h6, h7, h8⟩
  · exact .inl h2
  · refine .inr ⟨g, cap, cur, e, hb, ?_, h5, h6, h7, h8⟩
    have hlt : g < S := by injection e with e1; exact hA ⟨g, 0, none⟩ e1
    rw [hs.block g (by have := (Array.getElem?_eq_some_iff.1 hg).1; exact this) (.inl hlt)]
    exact hg
theorem OwnL.spanHi (h : OwnL w B T A n c ls F) (hs : Span S U w w') (hT : T ≤ S) : OwnL w' B T A n c ls F := by
  obtain ⟨vs, h1, h2⟩ := h.row
  refine ⟨h.len, ⟨vs, ?_, h2⟩, fun k hk => (h.parts k hk).spanHi hs (fun a e => Nat.lt_of_lt_of_le (h.low k hk a e) hT), h.top, h.low, h.apart⟩
  rcases h1 with ⟨h1, h3⟩
  refine ⟨h1, ?_⟩
  rcases h3 with h3 | ⟨g, cap, cur, e, hb, hg, h5, h6, h7, h8⟩
  · exact .inl h3
  · refine .inr ⟨g, cap, cur, e, hb, ?_, h5, h6, h7, h8⟩
    have hlt : g < T := by injection e with e1; exact h.top ⟨g, 0, none⟩ e1
    rw [hs.block g (by have := (Array.getElem?_eq_some_iff.1 hg).1; exact this) (.inl (by omega))]
    exact hg
theorem HasS.spanHi (h : HasS w A n ts) (hs : Span S U w w') (hb : HasS wb A n ts) (hS : wb.heap.size ≤ S) : HasS w' A n ts := by
  refine ⟨h.1, fun hn => ?_⟩
  obtain ⟨ad0, e0, hlt0, _⟩ := hb.2 hn
  have hk : HasS w' A n ts := h.keep hs.size (fun ad e hlt => hs.block _ hlt (.inl (by rw [e0] at e; injection e with e; rw [← e]; omega)))
  exact hk.2 hn
/-- Rows of strings of the call's own whose marks are written: nothing else has turned. -/
theorem spanOfS {wx : World} {X : Option Addr} (hg : w.grownBy w' (blockOf X)) (hX : Strs wx B (.slice X n c) n ts) : Span B wx.heap.size w w' :=
  (Span.refl B wx.heap.size w).grown hg (fun k hk => by
    cases X with
    | none => simp [blockOf] at hk
    | some x =>
      have h2 := hX.born x rfl
      simp [blockOf] at hk
      omega)
/-- A list of the call's own whose marks are written: nothing else has turned. -/
theorem spanOfL {wx : World} {X : Option Addr} {zs : List Int} (hg : w.grownBy w' (blockOf X)) (hX : Own wx B X n c zs) : Span B wx.heap.size w w' :=
  (Span.refl B wx.heap.size w).grown hg (fun k hk => by
    cases X with
    | none => simp [blockOf] at hk
    | some x =>
      have h2 := hX.born x rfl
      simp [blockOf] at hk
      omega)
theorem offN_eq (hF : ∀ k, k < n → (F k).2.1 = (lnAt ls k).parts.length) (m : Nat) : ∀ k, k ≤ n → offN F m k = m + 6 * k + partsTo ls k
  | 0, _ => by simp [offN, partsTo]
  | k + 1, hk => by
    rw [offN, partsTo, offN_eq hF m k (by omega), hF k (by omega)]
    omega
theorem OwnL.off (h : OwnL w B T A n c ls F) (m : Nat) : offN F m n = m + 6 * n + partsTo ls n :=
  offN_eq (fun k hk => (h.parts k hk).1.symm) m n (Nat.le_refl _)
theorem partsTo_le {b : Nat} (h : ∀ j, (lnAt ls j).parts.length ≤ b) : ∀ k, partsTo ls k ≤ b * k
  | 0 => by simp [partsTo]
  | k + 1 => by
    have h1 := partsTo_le h k
    have h2 := h k
    rw [partsTo, Nat.mul_succ]
    omega
end

end Go.Proofs.YtcbofogmfelpkaaDoor
