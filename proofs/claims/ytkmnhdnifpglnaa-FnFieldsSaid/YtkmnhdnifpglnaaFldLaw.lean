/- The mathematics of the law of fields: quotients are undone, and powers follow the order. No condition beyond what each lemma names. -/
import Derived.Test.YtkmnhdnifpglnaaFld3
namespace Go.Proofs.Ytkmnhdnifpglnaa
open Go.RowKit

theorem invCg {p b : Int} (hp : primeB p = true) (b0 : 0 ≤ b) (b1 : b < p) (hb : b ≠ 0) : Cg p (b * powM p b (p.toNat - 2)) 1 :=
  ((powM_cg p b _).mulLeft b).trans (fermatPow hp (by omega) b1)

/-- A quotient, when there is one, is undone. -/
theorem divide_law {p a b q : Int} (h : m_DivideMod p a b = (q, true)) : m_MulMod p q b = (a, true) ∧ ∃ i, m_InverseMod p b = (i, true) ∧ m_MulMod p i b = (1, true) ∧ -300 ≤ q ∧ q ≤ 300 ∧ -300 ≤ i ∧ i ≤ 300 := by
  unfold m_DivideMod at h
  cases hq : elsIn p (two a b) with
  | false => rw [hq, Bool.false_and, if_neg (by simp)] at h; simp at h
  | true =>
    by_cases hb : b = 0
    · rw [hq, Bool.true_and, decide_eq_false (by simpa using hb), if_neg (by simp)] at h; simp at h
    · rw [hq, Bool.true_and, decide_eq_true hb, if_pos rfl] at h
      obtain ⟨h1, _⟩ := Prod.mk.inj h
      obtain ⟨hp, p2, p251, a0, a1, b0, b1⟩ := elsTwo_yes hq
      have hinv := invCg hp b0 b1 hb
      have hi := powM_in (p := p) (a := b) (n := p.toNat - 2) (by omega)
      have hqi : 0 ≤ q ∧ q < p := by rw [← h1]; exact modIn p2
      have e1 : elsIn p (two q b) = true := by rw [elsTwo, hp, Bool.true_and]; exact decide_eq_true ⟨hqi.1, hqi.2, b0, b1⟩
      have e2 : elsIn p (one b) = true := by rw [elsOne, hp, Bool.true_and]; exact decide_eq_true ⟨b0, b1⟩
      have e3 : elsIn p (two (powM p b (p.toNat - 2)) b) = true := by rw [elsTwo, hp, Bool.true_and]; exact decide_eq_true ⟨hi.1, hi.2, b0, b1⟩
      refine ⟨?_, powM p b (p.toNat - 2), ?_, ?_, by omega, by omega, by omega, by omega⟩
      · rw [m_MulMod, e1, if_pos rfl]
        congr 1
        refine Cg.eq (p := p) ?_ (modIn p2).1 (modIn p2).2 a0 a1
        rw [← h1]
        refine (Cg.mod _ _).trans (((Cg.mod _ _).mulRight b).trans ?_)
        exact (Cg.of_eq (by grind)).trans ((hinv.mulLeft a).trans (Cg.of_eq (by grind)))
      · rw [m_InverseMod, e2, Bool.true_and, decide_eq_true hb, if_pos rfl]
      · rw [m_MulMod, e3, if_pos rfl]
        congr 1
        refine Cg.eq (p := p) ?_ (modIn p2).1 (modIn p2).2 (by omega) (by omega)
        exact (Cg.mod _ _).trans ((Cg.of_eq (by grind)).trans hinv)

theorem ordGo_spec {p a : Int} : ∀ (f k0 : Nat), (∀ j, j < k0 → powM p a (j + 1) ≠ 1) → (∃ j, k0 ≤ j ∧ j < k0 + f ∧ powM p a (j + 1) = 1) → ∃ k : Nat, ordGo p a f k0 = (k : Int) + 1 ∧ powM p a (k + 1) = 1 ∧ ∀ j, j < k → powM p a (j + 1) ≠ 1 := by
  intro f
  induction f with
  | zero => rintro k0 _ ⟨j, h1, h2, _⟩; omega
  | succ f ih =>
    rintro k0 hlt ⟨j, h1, h2, h3⟩
    rw [ordGo]
    by_cases e : powM p a (k0 + 1) = 1
    · rw [if_pos e]
      exact ⟨k0, rfl, e, hlt⟩
    · rw [if_neg e]
      refine ih (k0 + 1) (fun i hi => ?_) ⟨j, ?_, by omega, h3⟩
      · by_cases e2 : i = k0
        · rw [e2]; exact e
        · exact hlt i (by omega)
      · by_cases e2 : j = k0
        · rw [e2] at h3; exact absurd h3 e
        · omega

/-- The order, when there is one: the power 1, the element behind it, and it divides p - 1. -/
theorem order_law {r x o : Int} (h : m_OrderMod r x = (o, true)) : 1 ≤ o ∧ o ≤ 250 ∧ 2 ≤ r ∧ r ≤ 251 ∧ m_PowMod r x o = (1, true) ∧ m_PowMod r x (o + 1) = (x, true) ∧ (r - 1) % o = 0 := by
  unfold m_OrderMod at h
  cases hq : elsIn r (one x) with
  | false => rw [hq, Bool.false_and, if_neg (by simp)] at h; simp at h
  | true =>
    by_cases hx : x = 0
    · rw [hq, Bool.true_and, decide_eq_false (by simpa using hx), if_neg (by simp)] at h; simp at h
    · rw [hq, Bool.true_and, decide_eq_true hx, if_pos rfl] at h
      obtain ⟨h1, _⟩ := Prod.mk.inj h
      obtain ⟨hp, p2, p251, x0, x1⟩ := elsOne_yes hq
      have hend : powM r x (r.toNat - 2 + 1) = 1 := by
        have := fermat hp (a := x) (by omega) x1
        rw [show r.toNat - 2 + 1 = r.toNat - 1 by omega]
        exact this
      obtain ⟨k, hk, hone, hmin⟩ := ordGo_spec (p := r) (a := x) 251 0 (fun j hj => by omega) ⟨r.toNat - 2, by omega, by omega, hend⟩
      rw [hk] at h1
      subst h1
      have hkr := ordEnds hp (a := x) (by omega) x1 hmin
      have hc : Cg r (x ^ (k + 1)) 1 := (powM_cg r x (k + 1)).symm.trans (Cg.of_eq hone)
      have epow : ∀ n : Nat, n ≤ 1000000 → m_PowMod r x (n : Int) = (powM r x n, true) := fun n hn => by
        rw [m_PowMod, hq, Bool.true_and, decide_eq_true ⟨by omega, by omega⟩, if_pos rfl, Int.toNat_natCast]
      refine ⟨by omega, by omega, p2, p251, ?_, ?_, ?_⟩
      · have := epow (k + 1) (by omega)
        rw [hone] at this
        rw [← this]
        congr 1
      · have h2 := epow (k + 2) (by omega)
        have h3 : powM r x (k + 2) = x := by
          refine Cg.eq (p := r) ?_ (powM_in (by omega)).1 (powM_in (by omega)).2 x0 x1
          refine (powM_cg r x (k + 2)).trans ?_
          rw [show k + 2 = (k + 1) + 1 by omega, Int.pow_succ]
          exact (hc.mulRight x).trans (Cg.of_eq (by grind))
        rw [h3] at h2
        rw [← h2]
        congr 1
      · -- the order divides r - 1
        obtain ⟨m, hm⟩ : ∃ m : Nat, r = (m : Int) + 1 := ⟨r.toNat - 1, by omega⟩
        have hmp : Cg r (x ^ m) 1 := by
          have := fermat hp (a := x) (by omega) x1
          rw [show r.toNat - 1 = m by omega] at this
          exact (Cg.mod _ _).symm.trans (Cg.of_eq this)
        have hrem : m % (k + 1) = 0 := by
          have hsplit : x ^ m = (x ^ (k + 1)) ^ (m / (k + 1)) * x ^ (m % (k + 1)) := by
            rw [← Int.pow_mul, ← Int.pow_add]
            congr 1
            exact (Nat.div_add_mod m (k + 1)).symm
          have h5 : Cg r (x ^ (m % (k + 1))) 1 := by
            have h6 : Cg r ((x ^ (k + 1)) ^ (m / (k + 1)) * x ^ (m % (k + 1))) (1 ^ (m / (k + 1)) * x ^ (m % (k + 1))) := (hc.pow _).mulRight _
            rw [← hsplit, Int.one_pow, Int.one_mul] at h6
            exact h6.symm.trans hmp
          by_cases e0 : m % (k + 1) = 0
          · exact e0
          · exfalso
            have hlt := Nat.mod_lt m (show 0 < k + 1 by omega)
            refine hmin (m % (k + 1) - 1) (by omega) ?_
            rw [show m % (k + 1) - 1 + 1 = m % (k + 1) by omega]
            exact ((powM_cg r x _).trans h5).eq (powM_in (by omega)).1 (powM_in (by omega)).2 (by omega) (by omega)
        rw [hm]
        have : ((m : Int) + 1 - 1) % ((k : Int) + 1) = ((m % (k + 1) : Nat) : Int) := by push_cast; congr 1; omega
        rw [this, hrem]
        rfl

end Go.Proofs.Ytkmnhdnifpglnaa
