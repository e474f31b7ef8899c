/- The mathematics of the law of polynomials: the program's polynomial has the values, and solutions solve their equations. No condition beyond what each lemma names. -/
import Derived.Test.YtkmnhdnifpglnaaMat5
import Derived.Test.YtkmnhdnifpglnaaFld14
namespace Go.Proofs.Ytkmnhdnifpglnaa

/-- The sum of the products of the first n elements. -/
def dotTo (R x : Nat → Int) : Nat → Int
  | 0 => 0
  | n + 1 => dotTo R x n + R n * x n
section
variable {p a b : Int} {R S x : Nat → Int} {n : Nat}
theorem dotTo_congr {T : Nat → Int} (h : ∀ c, c < n → Cg p (R c) (T c)) : Cg p (dotTo R x n) (dotTo T x n) := by
  induction n with
  | zero => exact Cg.refl _ _
  | succ n ih => exact (ih fun c hc => h c (by omega)).add ((h n (by omega)).mulRight _)
theorem dotTo_lin : dotTo (fun c => a * R c + b * S c) x n = a * dotTo R x n + b * dotTo S x n := by
  induction n with
  | zero => simp [dotTo]
  | succ n ih => rw [dotTo, dotTo, dotTo, ih]; grind
theorem dotTo_one {k : Nat} (hk : k < n) (h : ∀ c, c < n → R c = if c = k then 1 else 0) : dotTo R x n = x k := by
  have aux : ∀ m, m ≤ n → dotTo R x m = if k < m then x k else 0 := by
    intro m
    induction m with
    | zero => intro _; simp [dotTo]
    | succ m ih =>
      intro hm
      rw [dotTo, ih (by omega), h m (by omega)]
      by_cases e : m = k
      · subst e; simp
      · rw [if_neg e]
        by_cases e2 : k < m
        · rw [if_pos e2, if_pos (by omega)]; grind
        · rw [if_neg e2, if_neg (by omega)]; grind
  rw [aux n (Nat.le_refl _), if_pos hk]
end

/-- x solves the equation R over n unknowns. -/
def Solves (p : Int) (n : Nat) (x : Nat → Int) (R : List Int) : Prop := Cg p (dotTo (fun c => R.getD c 0) x n) (R.getD n 0)
/-- The first k columns are those of the unit. -/
def Unit (n k : Nat) (N : Nat → List Int) : Prop := ∀ i j, i < n → j < k → (N i).getD j 0 = if j = i then 1 else 0

section
variable {p : Int} {n k r : Nat} {N : Nat → List Int}
theorem solR_at (R : List Int) {c : Nat} (hc : c < n + 1) : (solR p n k R).getD c 0 = R.getD c 0 * powM p (R.getD k 0) (p.toNat - 2) % p := mapTo_at _ hc
theorem elimR_at (S R : List Int) {c : Nat} (hc : c < n + 1) : (elimR p n k S R).getD c 0 = (R.getD c 0 + (p - R.getD k 0) * S.getD c 0) % p := mapTo_at _ hc
/-- The pivot's row is its k-th element times the solved row. -/
theorem solR_back (hp : primeB p = true) (R : List Int) (h0 : 0 ≤ R.getD k 0) (h1 : R.getD k 0 < p) (hne : R.getD k 0 ≠ 0) {c : Nat} (hc : c < n + 1) : Cg p (R.getD c 0) (R.getD k 0 * (solR p n k R).getD c 0) := by
  rw [solR_at R hc]
  have h := fermatPow hp (a := R.getD k 0) (by omega) h1
  have h2 : Cg p (R.getD k 0 * powM p (R.getD k 0) (p.toNat - 2)) 1 := ((powM_cg p _ _).mulLeft _).trans h
  refine Cg.symm ((((Cg.mod _ _).mulLeft _)).trans ?_)
  exact (Cg.of_eq (by grind)).trans ((h2.mulLeft (R.getD c 0)).trans (Cg.of_eq (by grind)))
theorem elimR_back (S R : List Int) {c : Nat} (hc : c < n + 1) : Cg p (R.getD c 0) (1 * (elimR p n k S R).getD c 0 + R.getD k 0 * S.getD c 0) := by
  rw [elimR_at S R hc]
  have h : Cg p ((R.getD c 0 + (p - R.getD k 0) * S.getD c 0) % p) (R.getD c 0 + (p - R.getD k 0) * S.getD c 0) := Cg.mod _ _
  refine Cg.symm (((h.mulLeft 1).addRight _).trans ?_)
  exact ⟨S.getD c 0, by grind⟩
theorem solves_lin {x : Nat → Int} {a b : Int} {R S T : List Int} (hS : Solves p n x S) (hT : Solves p n x T) (h : ∀ c, c < n + 1 → Cg p (R.getD c 0) (a * S.getD c 0 + b * T.getD c 0)) : Solves p n x R := by
  unfold Solves at *
  refine (dotTo_congr (fun c hc => h c (by omega))).trans ?_
  rw [dotTo_lin]
  exact ((hS.mulLeft a).add (hT.mulLeft b)).trans (h n (by omega)).symm
theorem solves_scale {x : Nat → Int} {a : Int} {R S : List Int} (hS : Solves p n x S) (h : ∀ c, c < n + 1 → Cg p (R.getD c 0) (a * S.getD c 0)) : Solves p n x R :=
  solves_lin (a := a) (b := 0) hS hS fun c hc => (h c hc).trans (Cg.of_eq (by grind))

/-- What solves the equations after a step solved them before. -/
theorem next_back {x : Nat → Int} (hp : primeB p = true) (hN : GoodM p n N) (hk : k < n) (hr : r < n) (hne : (N r).getD k 0 ≠ 0) (h : ∀ i, i < n → Solves p n x (nextM p n N k r i)) : ∀ i, i < n → Solves p n x (N i) := by
  have hsw : ∀ i, i < n → Solves p n x (swM N k r i) := by
    have hS : Solves p n x (solR p n k (swM N k r k)) := by
      have := h k hk
      rwa [nextM, if_pos rfl] at this
    have hkk : swM N k r k = N r := by
      unfold swM
      by_cases e : k = r
      · rw [if_pos e, e]
      · rw [if_neg e, if_pos rfl]
    intro i hi
    by_cases e : i = k
    · subst e
      have hg := (hN r hr).2 i
      refine solves_scale (a := (swM N i r i).getD i 0) hS fun c hc => ?_
      rw [hkk]
      exact solR_back hp (N r) hg.1 hg.2 hne hc
    · have hE := h i hi
      rw [nextM, if_neg e] at hE
      exact solves_lin (a := 1) (b := (swM N k r i).getD k 0) hE hS fun c hc => elimR_back _ _ hc
  intro i hi
  by_cases e1 : i = k
  · have := hsw r hr
    rw [swM, if_pos rfl] at this
    rw [e1]; exact this
  · by_cases e2 : i = r
    · have := hsw k hk
      unfold swM at this
      by_cases e3 : k = r
      · rw [if_pos e3] at this; rw [e2, ← e3]; exact this
      · rw [if_neg e3, if_pos rfl] at this; rw [e2]; exact this
    · have := hsw i hi
      rw [swM, if_neg e2, if_neg e1] at this
      exact this
theorem swM_k : swM N k r k = N r := by
  unfold swM
  by_cases e : k = r
  · rw [if_pos e, e]
  · rw [if_neg e, if_pos rfl]
theorem unit_next (hp : primeB p = true) (hN : GoodM p n N) (hk : k < n) (hkr : k ≤ r) (hr : r < n) (hne : (N r).getD k 0 ≠ 0) (h : Unit n k N) : Unit n (k + 1) (nextM p n N k r) := by
  have p2 := (primeB_yes hp).1
  have hg := (hN r hr).2 k
  have hSk : (solR p n k (swM N k r k)).getD k 0 = 1 := by
    rw [solR_at _ (by omega), swM_k]
    have h1 := fermatPow hp (a := (N r).getD k 0) (by omega) hg.2
    exact (((Cg.mod p _).trans ((powM_cg p _ _).mulLeft _)).trans h1).eq (modIn p2).1 (modIn p2).2 (by omega) (by omega)
  have hSj : ∀ j, j < k → (solR p n k (swM N k r k)).getD j 0 = 0 := fun j hj => by
    rw [solR_at _ (by omega), swM_k, h r j hr hj, if_neg (by omega), Int.zero_mul, Int.zero_emod]
  intro i j hi hj
  by_cases e : j = k
  · subst e
    by_cases e2 : i = j
    · subst e2
      rw [nextM, if_pos rfl, hSk, if_pos rfl]
    · rw [nextM, if_neg e2, elimR_at _ _ (by omega), hSk, if_neg (fun e => e2 e.symm)]
      rw [show (swM N j r i).getD j 0 + (p - (swM N j r i).getD j 0) * 1 = p by grind]
      exact Int.emod_self
  · have hjk : j < k := by omega
    by_cases e2 : i = k
    · rw [nextM, if_pos e2, hSj j hjk, if_neg (by omega)]
    · rw [nextM, if_neg e2, elimR_at _ _ (by omega), hSj j hjk, Int.mul_zero, Int.add_zero]
      have hsw : (swM N k r i).getD j 0 = if j = i then 1 else 0 := by
        unfold swM
        by_cases e3 : i = r
        · rw [if_pos e3, h k j hk hjk, if_neg (by omega), if_neg (by omega)]
        · rw [if_neg e3, if_neg e2, h i j hi hjk]
      rw [hsw]
      split
      · exact Int.emod_eq_of_lt (by omega) (by omega)
      · exact Int.zero_emod _
theorem pivGo_found {M : Nat → List Int} : ∀ (f r0 : Nat), r0 + f = n → pivGo M k f r0 = n ∨ (r0 ≤ pivGo M k f r0 ∧ pivGo M k f r0 < n ∧ (M (pivGo M k f r0)).getD k 0 ≠ 0) := by
  intro f
  induction f with
  | zero => intro r0 h; exact .inl h
  | succ f ih =>
    intro r0 h
    rw [pivGo]
    by_cases e : (M r0).getD k 0 ≠ 0
    · rw [if_pos e]; exact .inr ⟨Nat.le_refl _, by omega, e⟩
    · rw [if_neg e]
      rcases ih (r0 + 1) (by omega) with h1 | ⟨h1, h2, h3⟩
      · exact .inl h1
      · exact .inr ⟨by omega, h2, h3⟩
theorem gauss_law {M : Nat → List Int} (hp : primeB p = true) (hM : GoodM p n M) : ∀ (k : Nat) (N : Nat → List Int), k ≤ n → gaussM p n M k = some N → GoodM p n N ∧ Unit n k N ∧ ∀ x, (∀ i, i < n → Solves p n x (N i)) → ∀ i, i < n → Solves p n x (M i) := by
  intro k
  induction k with
  | zero =>
    intro N _ h
    rw [gaussM] at h
    obtain rfl := Option.some.inj h
    exact ⟨hM, fun i j _ hj => by omega, fun x hx => hx⟩
  | succ k ih =>
    intro N hk h
    rw [gaussM] at h
    cases hg : gaussM p n M k with
    | none => rw [hg] at h; cases h
    | some N0 =>
      rw [hg] at h
      obtain ⟨g1, g2, g3⟩ := ih N0 (by omega) hg
      have h' : (if pivot N0 k n = n then none else some (nextM p n N0 k (pivot N0 k n))) = some N := h
      by_cases e : pivot N0 k n = n
      · rw [if_pos e] at h'; cases h'
      · rw [if_neg e] at h'
        obtain rfl := Option.some.inj h'
        rcases pivGo_found (M := N0) (k := k) (n := n) (n - k) k (by omega) with h1 | ⟨h1, h2, h3⟩
        · exact absurd h1 e
        · exact ⟨GoodM.next (primeB_yes hp).1, unit_next hp g1 (by omega) h1 h2 h3 g2, fun x hx => g3 x (next_back hp g1 (by omega) h2 h3 hx)⟩

/-- Solutions solve their equations. -/
theorem solve_law {M : Nat → List Int} {ys rs : List Int} (h : m_SolveLinear p n M ys = (rs, true)) : 2 ≤ p ∧ p ≤ 251 ∧ 1 ≤ n ∧ n ≤ 6 ∧ ys.length = n ∧ rs.length = n ∧ (∀ i, i < n → (M i).length = n) ∧ (∀ i, i < n → ∀ j, 0 ≤ (M i).getD j 0 ∧ (M i).getD j 0 < p) ∧ (∀ j, j < n → 0 ≤ rs.getD j 0 ∧ rs.getD j 0 < p) ∧
    ∀ i, i < n → dotTo (fun c => (M i).getD c 0) (fun c => rs.getD c 0) n % p = ys.getD i 0 := by
  unfold m_SolveLinear at h
  cases hs : sysM p n M ys with
  | false => rw [hs, if_neg (by simp)] at h; simp at h
  | true =>
    rw [hs, if_pos rfl] at h
    obtain ⟨hp, n1, n6, hyl, hlen, hgood⟩ := sysM_yes hs
    obtain ⟨p2, p251⟩ := primeB_yes hp
    obtain ⟨_, _, _, h4, h5⟩ := of_decide_eq_true hs
    unfold solM at h
    cases hg : gaussM p n (joinM M ys) n with
    | none => rw [hg] at h; simp at h
    | some N =>
      rw [hg] at h
      obtain ⟨h6, _⟩ := Prod.mk.inj h
      obtain ⟨g1, g2, g3⟩ := gauss_law hp hgood n N (Nat.le_refl _) hg
      have hsol := g3 (fun i => (N i).getD n 0) (fun i hi => by
        unfold Solves
        rw [dotTo_one hi (fun c hc => g2 i c hi hc)]
        exact Cg.refl _ _)
      have hrs : ∀ j, j < n → rs.getD j 0 = (N j).getD n 0 := fun j hj => by rw [← h6, mapTo_at _ hj]
      refine ⟨p2, p251, n1, n6, hyl, by rw [← h6, mapTo_length], hlen, fun i hi => all_in p2 (elsIn_yes (h4 i hi).2).2, fun j hj => by rw [hrs j hj]; exact (g1 j hj).2 n, fun i hi => ?_⟩
      have h7 := hsol i hi
      unfold Solves at h7
      have e1 : dotTo (fun c => (joinM M ys i).getD c 0) (fun i => (N i).getD n 0) n = dotTo (fun c => (M i).getD c 0) (fun c => rs.getD c 0) n := by
        have aux : ∀ m, m ≤ n → dotTo (fun c => (joinM M ys i).getD c 0) (fun i => (N i).getD n 0) m = dotTo (fun c => (M i).getD c 0) (fun c => rs.getD c 0) m := by
          intro m
          induction m with
          | zero => intro _; rfl
          | succ m ih =>
            intro hm
            rw [dotTo, dotTo, ih (by omega), hrs m (by omega)]
            congr 2
            rw [joinM, List.getD, List.getElem?_append_left (by rw [hlen i hi]; omega), List.getD]
        exact aux n (Nat.le_refl _)
      have e2 : (joinM M ys i).getD n 0 = ys.getD i 0 := by
        rw [joinM, List.getD, List.getElem?_append_right (by rw [hlen i hi]; omega), hlen i hi, Nat.sub_self]
        rfl
      rw [e1, e2] at h7
      have hy := (elsIn_yes h5).2 i (by omega)
      rw [h7.emod]
      exact Int.emod_eq_of_lt hy.1 hy.2
end

end Go.Proofs.Ytkmnhdnifpglnaa
