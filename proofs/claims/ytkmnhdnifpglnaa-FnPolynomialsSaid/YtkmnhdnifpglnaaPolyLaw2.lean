/- The mathematics of the law of polynomials, as the answers of the functions say it. No condition beyond what each lemma names. -/
import Derived.Test.YtkmnhdnifpglnaaPolyLaw
import Derived.Test.YtkmnhdnifpglnaaFld5
namespace Go.Proofs.Ytkmnhdnifpglnaa

theorem poly_law {p : Int} {xs ys ls : List Int} (h : m_PolyThrough p xs ys = (ls, true)) : ls.length = xs.length ∧ ys.length = xs.length ∧ xs.length ≤ 12 ∧
    ∀ i, i < xs.length → m_EvalPoly p ls (xs.getD i 0) = (ys.getD i 0, true) ∧ m_InterpolateAt p xs ys (xs.getD i 0) = (ys.getD i 0, true) ∧ 0 ≤ xs.getD i 0 ∧ xs.getD i 0 ≤ 250 := by
  unfold m_PolyThrough at h
  cases hq : ptsOk p xs ys with
  | false => rw [hq, if_neg (by simp)] at h; simp at h
  | true =>
    rw [hq, if_pos rfl] at h
    obtain ⟨h1, _⟩ := Prod.mk.inj h
    obtain ⟨hpts, h12⟩ := ptsOk_yes hq
    obtain ⟨p2, p251⟩ := hpts.two
    rw [← newIsSum hpts] at h1
    have hl : ls.length = xs.length := by rw [← h1, newC_len]
    refine ⟨hl, hpts.ly, h12, fun i hi => ?_⟩
    obtain ⟨x0, x1⟩ := hpts.inx i hi
    have hv : evM p (xs.getD i 0) (newC p xs ys xs.length) = ys.getD i 0 := by
      have e1 := evM_in (x := xs.getD i 0) (zs := newC p xs ys xs.length) p2
      have e2 := hpts.iny i hi
      refine Cg.eq ?_ e1.1 e1.2 e2.1 e2.2
      have h2 := evM_pe (p := p) (x := xs.getD i 0) (newC p xs ys xs.length)
      rw [newC_len] at h2
      exact h2.trans (newC_at hpts xs.length (Nat.le_refl _) i hi)
    refine ⟨?_, ?_, x0, by omega⟩
    · have hin : elsIn p ls = true := by
        refine elsIn_mk hpts.prime fun k hk => ?_
        rw [← h1] at hk ⊢
        exact newC_in p2 _ k hk
      have hone : elsIn p (one (xs.getD i 0)) = true := by rw [elsOne, hpts.prime, Bool.true_and]; exact decide_eq_true ⟨x0, x1⟩
      rw [m_EvalPoly, decide_eq_true (by omega), hin, hone, Bool.true_and, Bool.true_and, if_pos rfl, ← h1, hv]
    · rw [m_InterpolateAt, hq, decide_eq_true ⟨x0, by omega⟩, Bool.true_and, if_pos rfl, ← newIsAt hpts, hv]

theorem dotBound {p : Int} {R x : Nat → Int} {n : Nat} (p251 : p ≤ 251) (hR : ∀ c, c < n → 0 ≤ R c ∧ R c < p) (hx : ∀ c, c < n → 0 ≤ x c ∧ x c < p) : ∀ m, m ≤ n → 0 ≤ dotTo R x m ∧ dotTo R x m ≤ 62500 * (m : Int) := by
  intro m
  induction m with
  | zero => intro _; exact ⟨Int.le_refl _, by simp [dotTo]⟩
  | succ m ih =>
    intro hm
    have h1 := ih (by omega)
    have h2 := mulFits p251 (hR m (by omega)).1 (hR m (by omega)).2 (hx m (by omega)).1 (hx m (by omega)).2
    rw [dotTo]
    push_cast
    omega

end Go.Proofs.Ytkmnhdnifpglnaa
