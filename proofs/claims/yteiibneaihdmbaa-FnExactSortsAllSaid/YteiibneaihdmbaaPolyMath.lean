/- The mathematics of polynomials over a small field: there is only one polynomial of few coefficients with given values at different points; Newton's way to it and Lagrange's agree. No condition beyond what each lemma names. -/
import Derived.Test.YteiibneaihdmbaaFld4
namespace Go.Proofs.Yteiibneaihdmbaa
set_option maxRecDepth 100000

/-- The value at x of the polynomial with the first n coefficients f. -/
def pe (f : Nat → Int) : Nat → Int → Int
  | 0, _ => 0
  | n + 1, x => pe f n x + f n * x ^ n
section
variable {p x c r : Int} {f g : Nat → Int} {n : Nat}
theorem pe_congr (h : ∀ j, j < n → Cg p (f j) (g j)) : Cg p (pe f n x) (pe g n x) := by
  induction n with
  | zero => exact Cg.refl _ _
  | succ n ih => exact (ih fun j hj => h j (by omega)).add ((h n (by omega)).mulRight _)
theorem pe_ext (h : ∀ j, j < n → f j = g j) : pe f n x = pe g n x := by
  induction n with
  | zero => rfl
  | succ n ih => rw [pe, pe, ih fun j hj => h j (by omega), h n (by omega)]
theorem pe_add : pe (fun j => f j + g j) n x = pe f n x + pe g n x := by
  induction n with
  | zero => rfl
  | succ n ih => rw [pe, pe, pe, ih]; grind
theorem pe_sub : pe (fun j => f j - g j) n x = pe f n x - pe g n x := by
  induction n with
  | zero => rfl
  | succ n ih => rw [pe, pe, pe, ih]; grind
theorem pe_mul : pe (fun j => c * f j) n x = c * pe f n x := by
  induction n with
  | zero => simp [pe]
  | succ n ih => rw [pe, pe, ih]; grind
theorem pe_shift : pe (fun j => if j = 0 then 0 else f (j - 1)) (n + 1) x = x * pe f n x := by
  induction n with
  | zero => simp [pe]
  | succ n ih =>
    rw [pe, ih, pe, if_neg (by omega), Nat.add_sub_cancel, Int.pow_succ]
    grind
theorem pe_top (h : f n = 0) : pe f (n + 1) x = pe f n x := by rw [pe, h]; grind
theorem pe_cons {l : List Int} : pe (fun j => (c :: l).getD j 0) (n + 1) x = c + x * pe (fun j => l.getD j 0) n x := by
  induction n with
  | zero => simp [pe]
  | succ n ih =>
    rw [pe, ih, pe, List.getD_cons_succ, Int.pow_succ]
    grind
theorem pe_low (h : ∀ j, j < n → Cg p (f (j + 1)) 0) : Cg p (pe f (n + 1) x) (f 0) := by
  induction n with
  | zero => exact Cg.of_eq (by simp [pe])
  | succ n ih =>
    rw [pe]
    exact ((ih fun j hj => h j (by omega)).add ((h n (by omega)).mulRight _)).trans (Cg.of_eq (by grind))
/-- Division by x - r. -/
def qd (f : Nat → Int) (r : Int) : Nat → Nat → Int
  | 0, _ => 0
  | n + 1, j => qd f r n j + (if j ≤ n then f (n + 1) * r ^ (n - j) else 0)
theorem qd_out {j : Nat} (h : n ≤ j) : qd f r n j = 0 := by
  induction n with
  | zero => rfl
  | succ n ih => rw [qd, ih (by omega), if_neg (by omega)]; rfl
theorem geo : pe (fun j => r ^ (n - j)) (n + 1) x * (x - r) = x ^ (n + 1) - r ^ (n + 1) := by
  induction n with
  | zero => simp [pe]; grind
  | succ n ih =>
    have e : pe (fun j => r ^ (n + 1 - j)) (n + 1) x = r * pe (fun j => r ^ (n - j)) (n + 1) x := by
      rw [← pe_mul]
      refine pe_ext fun j hj => ?_
      rw [show n + 1 - j = n - j + 1 by omega, Int.pow_succ]
      grind
    rw [pe, e, Nat.sub_self]
    have e1 : r ^ (n + 1 + 1) = r * r ^ (n + 1) := by rw [Int.pow_succ]; grind
    have e2 : x ^ (n + 1 + 1) = x * x ^ (n + 1) := by rw [Int.pow_succ]; grind
    rw [e1, e2]
    generalize x ^ (n + 1) = X at *
    generalize r ^ (n + 1) = R at *
    generalize pe (fun j => r ^ (n - j)) (n + 1) x = P at *
    have : (r * P + r ^ 0 * X) * (x - r) = r * (P * (x - r)) + X * (x - r) := by grind
    rw [this, ih]
    grind
theorem qd_spec : pe f (n + 1) x - pe f (n + 1) r = (x - r) * pe (qd f r n) n x := by
  induction n with
  | zero => simp [pe]
  | succ n ih =>
    have e : pe (qd f r (n + 1)) (n + 1) x = pe (qd f r n) n x + f (n + 1) * pe (fun j => r ^ (n - j)) (n + 1) x := by
      have e0 : pe (qd f r (n + 1)) (n + 1) x = pe (fun j => qd f r n j + f (n + 1) * r ^ (n - j)) (n + 1) x := by
        refine pe_ext fun j hj => ?_
        rw [qd, if_pos (by omega)]
      rw [e0, pe_add, pe_top (qd_out (Nat.le_refl n)), pe_mul]
    have hg := geo (x := x) (r := r) (n := n)
    rw [e, show pe f (n + 1 + 1) x = pe f (n + 1) x + f (n + 1) * x ^ (n + 1) from rfl, show pe f (n + 1 + 1) r = pe f (n + 1) r + f (n + 1) * r ^ (n + 1) from rfl]
    generalize pe f (n + 1) x = a at *
    generalize pe f (n + 1) r = b at *
    generalize pe (qd f r n) n x = q at *
    generalize pe (fun j => r ^ (n - j)) (n + 1) x = P at *
    generalize x ^ (n + 1) = X at *
    generalize r ^ (n + 1) = R at *
    grind
theorem qd_coeffs (h : ∀ j, j < n → Cg p (qd f r n j) 0) : ∀ j, j < n → Cg p (f (j + 1)) 0 := by
  induction n with
  | zero => intro j hj; omega
  | succ n ih =>
    have htop : Cg p (f (n + 1)) 0 := by
      have := h n (by omega)
      rw [qd, qd_out (Nat.le_refl n), if_pos (Nat.le_refl n), Nat.sub_self] at this
      exact (Cg.of_eq (by grind)).trans this
    intro j hj
    by_cases e : j = n
    · rw [e]; exact htop
    · refine ih (fun i hi => ?_) j (by omega)
      have := h i (by omega)
      rw [qd, if_pos (by omega)] at this
      have h2 := this.sub (htop.mulRight (r ^ (n - i)))
      exact ((Cg.of_eq (by grind)).trans h2).trans (Cg.of_eq (by grind))
end

theorem Un.neg {p a : Int} (h : Un p a) : Un p (-a) := by
  obtain ⟨b, hb⟩ := h
  exact ⟨-b, (Cg.of_eq (by grind)).trans hb⟩

/-- A polynomial of n coefficients that is 0 at n different points is 0. -/
theorem onlyZero {p : Int} : ∀ (n : Nat) (f r : Nat → Int), (∀ i j, i < n → j < n → i ≠ j → Un p (r i - r j)) → (∀ i, i < n → Cg p (pe f n (r i)) 0) → ∀ j, j < n → Cg p (f j) 0 := by
  intro n
  induction n with
  | zero => intro f r _ _ j hj; omega
  | succ n ih =>
    intro f r hu hz
    have hq : ∀ j, j < n → Cg p (qd f (r n) n j) 0 := by
      refine ih (qd f (r n) n) r (fun i j hi hj hne => hu i j (by omega) (by omega) hne) fun i hi => ?_
      refine (hu i n (by omega) (by omega) (by omega)).strike ?_
      rw [← qd_spec]
      exact ((hz i (by omega)).sub (hz n (by omega))).trans (Cg.of_eq (by grind))
    have hf := qd_coeffs hq
    intro j hj
    cases j with
    | zero => exact (pe_low hf).symm.trans (hz n (by omega))
    | succ j => exact hf j (by omega)

/-- Two lists of n elements of the field, whose polynomials have the same values at n different points, are the same. -/
theorem onlyOne {p : Int} {n : Nat} {us vs : List Int} {r y : Nat → Int} (hu : ∀ i j, i < n → j < n → i ≠ j → Un p (r i - r j)) (la : us.length = n) (lb : vs.length = n)
    (ia : ∀ k, k < n → 0 ≤ us.getD k 0 ∧ us.getD k 0 < p) (ib : ∀ k, k < n → 0 ≤ vs.getD k 0 ∧ vs.getD k 0 < p)
    (ha : ∀ i, i < n → Cg p (pe (fun j => us.getD j 0) n (r i)) (y i)) (hb : ∀ i, i < n → Cg p (pe (fun j => vs.getD j 0) n (r i)) (y i)) : us = vs := by
  have h0 := onlyZero n (fun j => us.getD j 0 - vs.getD j 0) r hu (fun i hi => by
    rw [pe_sub]
    exact ((ha i hi).sub (hb i hi)).trans (Cg.of_eq (by grind)))
  rw [list_eq_mapTo us, list_eq_mapTo vs, la, lb]
  refine mapTo_eq fun k hk => ?_
  have h1 := (h0 k hk).addRight (vs.getD k 0)
  exact Cg.eq (((Cg.of_eq (by grind)).trans h1).trans (Cg.of_eq (by grind))) (ia k hk).1 (ia k hk).2 (ib k hk).1 (ib k hk).2

theorem evM_pe {p x : Int} (zs : List Int) : Cg p (evM p x zs) (pe (fun j => zs.getD j 0) zs.length x) := by
  induction zs with
  | nil => exact Cg.refl _ _
  | cons c l ih =>
    rw [List.length_cons, pe_cons]
    have e : evM p x (c :: l) = (evM p x l * x + c) % p := rfl
    rw [e]
    exact (Cg.mod _ _).trans (((ih.mulRight x).addRight c).trans (Cg.of_eq (by grind)))

/-- A product of n factors. -/
def prodTo (g : Nat → Int) : Nat → Int
  | 0 => 1
  | n + 1 => prodTo g n * g n
theorem prodTo_zero {g : Nat → Int} {n k : Nat} (hk : k < n) (h : g k = 0) : prodTo g n = 0 := by
  induction n with
  | zero => omega
  | succ n ih =>
    rw [prodTo]
    by_cases e : k = n
    · rw [← e, h]; grind
    · rw [ih (by omega)]; grind
theorem prodTo_one {p : Int} {g : Nat → Int} {n : Nat} (h : ∀ k, k < n → Cg p (g k) 1) : Cg p (prodTo g n) 1 := by
  induction n with
  | zero => exact Cg.refl _ _
  | succ n ih => rw [prodTo]; exact ((ih fun k hk => h k (by omega)).mul (h n (by omega))).trans (Cg.of_eq (by grind))
theorem prodTo_unit {p : Int} {g : Nat → Int} {n : Nat} (h : ∀ k, k < n → Un p (g k)) : Un p (prodTo g n) := by
  induction n with
  | zero => exact Un.one
  | succ n ih => rw [prodTo]; exact (ih fun k hk => h k (by omega)).mul (h n (by omega))

end Go.Proofs.Yteiibneaihdmbaa
