/- Newton's way to a polynomial (the program's) and Lagrange's (the model's) over a small field: both go through the points, so they give the same list. For different points of the field. -/
import Derived.Test.YteiibneaihdmbaaPolyMath
namespace Go.Proofs.Yteiibneaihdmbaa
set_option maxRecDepth 100000

/-- The polynomial that is 0 at the first k points. -/
def newV (p : Int) (xs : List Int) : Nat → List Int
  | 0 => [1]
  | k + 1 => mapTo (fun j => (([0] ++ newV p xs k).getD j 0 + (p - xs.getD k 0) * (newV p xs k ++ [0]).getD j 0) % p) (k + 2)
def newFac (p : Int) (xs ys : List Int) (k : Nat) (cs : List Int) : Int := (ys.getD k 0 - evM p (xs.getD k 0) cs) % p * powM p (evM p (xs.getD k 0) (newV p xs k)) (p.toNat - 2) % p
/-- The polynomial through the first k points. -/
def newC (p : Int) (xs ys : List Int) : Nat → List Int
  | 0 => []
  | k + 1 => mapTo (fun j => ((newC p xs ys k ++ [0]).getD j 0 + newFac p xs ys k (newC p xs ys k) * (newV p xs k).getD j 0) % p) (k + 1)

section
variable {p : Int} {xs ys : List Int}
theorem newV_len (k : Nat) : (newV p xs k).length = k + 1 := by cases k <;> simp [newV, mapTo_length]
theorem newC_len (k : Nat) : (newC p xs ys k).length = k := by cases k <;> simp [newC, mapTo_length]
theorem mapTo_in {f : Nat → Int} {n : Nat} (h : 2 ≤ p) : ∀ k, k < (mapTo (fun j => f j % p) n).length → 0 ≤ (mapTo (fun j => f j % p) n).getD k 0 ∧ (mapTo (fun j => f j % p) n).getD k 0 < p := by
  intro k hk
  rw [mapTo_length] at hk
  rw [mapTo_at _ hk]
  exact modIn h
theorem newV_in (h : 2 ≤ p) (k : Nat) : ∀ j, j < (newV p xs k).length → 0 ≤ (newV p xs k).getD j 0 ∧ (newV p xs k).getD j 0 < p := by
  cases k with
  | zero =>
    intro j hj
    obtain rfl : j = 0 := by simp [newV] at hj; omega
    show (0 : Int) ≤ 1 ∧ (1 : Int) < p
    omega
  | succ k => exact mapTo_in h
theorem newC_in (h : 2 ≤ p) (k : Nat) : ∀ j, j < (newC p xs ys k).length → 0 ≤ (newC p xs ys k).getD j 0 ∧ (newC p xs ys k).getD j 0 < p := by
  cases k with
  | zero => intro j hj; simp [newC] at hj
  | succ k => exact mapTo_in h
theorem pe_mapTo {f : Nat → Int} {n : Nat} {x : Int} : Cg p (pe (fun j => (mapTo (fun j => f j % p) n).getD j 0) n x) (pe f n x) :=
  pe_congr fun j hj => by rw [mapTo_at _ hj]; exact Cg.mod _ _
theorem getD_app0 {l : List Int} (j : Nat) : (l ++ [0]).getD j 0 = l.getD j 0 := by
  by_cases h : j < l.length
  · simp [List.getD, List.getElem?_append_left h]
  · rw [List.getD, List.getD, List.getElem?_append_right (by omega), List.getElem?_eq_none (l := l) (by omega)]
    by_cases e : j - l.length = 0
    · rw [e]; rfl
    · rw [List.getElem?_eq_none (by simp; omega)]
theorem getD_out {l : List Int} {j : Nat} (h : l.length ≤ j) : l.getD j 0 = 0 := by rw [List.getD, List.getElem?_eq_none h]; rfl
theorem newV_pe (k : Nat) (x : Int) : Cg p (pe (fun j => (newV p xs k).getD j 0) (k + 1) x) (prodTo (fun j => x - xs.getD j 0) k) := by
  induction k with
  | zero => exact Cg.of_eq (by simp [newV, pe, prodTo])
  | succ k ih =>
    rw [newV]
    refine pe_mapTo.trans ?_
    rw [pe_add, pe_mul, prodTo]
    have e1 : pe (fun j => ([0] ++ newV p xs k).getD j 0) (k + 2) x = x * pe (fun j => (newV p xs k).getD j 0) (k + 1) x := by
      rw [← pe_shift]
      refine pe_ext fun j hj => ?_
      cases j with
      | zero => rfl
      | succ j => simp
    have e2 : pe (fun j => (newV p xs k ++ [0]).getD j 0) (k + 2) x = pe (fun j => (newV p xs k).getD j 0) (k + 1) x := by
      have e3 : pe (fun j => (newV p xs k ++ [0]).getD j 0) (k + 2) x = pe (fun j => (newV p xs k).getD j 0) (k + 2) x := pe_ext fun j _ => getD_app0 j
      rw [e3]
      exact pe_top (getD_out (by rw [newV_len]; omega))
    rw [e1, e2]
    have h1 := ih.mulRight (x - xs.getD k 0)
    refine Cg.trans ?_ h1
    generalize pe (fun j => (newV p xs k).getD j 0) (k + 1) x = P
    exact ⟨P, by grind⟩

/-- Different points of the field, and as many values. -/
structure Pts (p : Int) (xs ys : List Int) (n : Nat) : Prop where
  prime : primeB p = true
  lx : xs.length = n
  ly : ys.length = n
  inx : ∀ k, k < n → 0 ≤ xs.getD k 0 ∧ xs.getD k 0 < p
  iny : ∀ k, k < n → 0 ≤ ys.getD k 0 ∧ ys.getD k 0 < p
  apart : ∀ i j, i < n → j < n → i ≠ j → xs.getD i 0 ≠ xs.getD j 0
variable {n : Nat}
theorem Pts.two (h : Pts p xs ys n) : 2 ≤ p ∧ p ≤ 251 := primeB_yes h.prime
theorem Pts.unit (h : Pts p xs ys n) {i j : Nat} (hi : i < n) (hj : j < n) (hne : i ≠ j) : Un p (xs.getD i 0 - xs.getD j 0) :=
  unDiff h.prime (h.inx i hi).1 (h.inx i hi).2 (h.inx j hj).1 (h.inx j hj).2 (h.apart i j hi hj hne)
/-- The inverse by a power, of a unit. -/
theorem invPow {v : Int} (hp : primeB p = true) (v0 : 0 ≤ v) (v1 : v < p) (hu : Un p v) : Cg p (v * powM p v (p.toNat - 2)) 1 := by
  have h2 := primeB_yes hp
  have hne : v ≠ 0 := by
    rintro rfl
    obtain ⟨b, hb⟩ := hu
    have := ((Cg.of_eq (by grind : (0 : Int) = 0 * b)).trans hb).eq (by omega) (by omega) (by omega) (by omega)
    omega
  exact ((powM_cg p v _).mulLeft v).trans (fermatPow hp (by omega) v1)
theorem newC_at (h : Pts p xs ys n) (k : Nat) (hk : k ≤ n) : ∀ j, j < k → Cg p (pe (fun i => (newC p xs ys k).getD i 0) k (xs.getD j 0)) (ys.getD j 0) := by
  induction k with
  | zero => intro j hj; omega
  | succ k ih =>
    intro j hj
    rw [newC]
    refine pe_mapTo.trans ?_
    rw [pe_add, pe_mul]
    have e1 : pe (fun i => (newC p xs ys k ++ [0]).getD i 0) (k + 1) (xs.getD j 0) = pe (fun i => (newC p xs ys k).getD i 0) k (xs.getD j 0) := by
      have e3 : pe (fun i => (newC p xs ys k ++ [0]).getD i 0) (k + 1) (xs.getD j 0) = pe (fun i => (newC p xs ys k).getD i 0) (k + 1) (xs.getD j 0) := pe_ext fun i _ => getD_app0 i
      rw [e3]
      exact pe_top (getD_out (by rw [newC_len]; omega))
    rw [e1]
    have hV := newV_pe (p := p) (xs := xs) k (xs.getD j 0)
    by_cases e : j = k
    · subst e
      have hu : Un p (prodTo (fun i => xs.getD j 0 - xs.getD i 0) j) := prodTo_unit fun i hi => h.unit (by omega) (by omega) (by omega)
      have hev := evM_pe (p := p) (x := xs.getD j 0) (newV p xs j)
      rw [newV_len] at hev
      have hvu : Un p (evM p (xs.getD j 0) (newV p xs j)) := hu.congr (hev.trans hV).symm
      have hin := evM_in (x := xs.getD j 0) (zs := newV p xs j) h.two.1
      have hone := invPow h.prime hin.1 hin.2 hvu
      have hc := evM_pe (p := p) (x := xs.getD j 0) (newC p xs ys j)
      rw [newC_len] at hc
      rw [newFac]
      generalize pe (fun i => (newC p xs ys j).getD i 0) j (xs.getD j 0) = P at *
      generalize pe (fun i => (newV p xs j).getD i 0) (j + 1) (xs.getD j 0) = V at *
      generalize evM p (xs.getD j 0) (newC p xs ys j) = c at *
      generalize evM p (xs.getD j 0) (newV p xs j) = v at *
      generalize powM p v (p.toNat - 2) = q at *
      have h1 : Cg p ((ys.getD j 0 - c) % p * q % p) ((ys.getD j 0 - c) * q) := (Cg.mod _ _).trans ((Cg.mod _ _).mulRight q)
      have h2 := h1.mul hev.symm
      have h3 : Cg p ((ys.getD j 0 - c) * q * v) (ys.getD j 0 - c) := (Cg.of_eq (by grind)).trans ((hone.mulLeft (ys.getD j 0 - c)).trans (Cg.of_eq (by grind)))
      have h4 := hc.symm.add (h2.trans h3)
      exact h4.trans (Cg.of_eq (by grind))
    · have h0 : prodTo (fun i => xs.getD j 0 - xs.getD i 0) k = 0 := prodTo_zero (k := j) (by omega) (by grind)
      rw [h0] at hV
      have h1 := ih (by omega) j (by omega)
      exact ((h1.add (hV.mulLeft _))).trans (Cg.of_eq (by grind))

/-! Lagrange's way. -/
/-- The inverse of the difference of two points. -/
def lagInv (p : Int) (xs : List Int) (i k : Nat) : Int := powM p ((xs.getD i 0 - xs.getD k 0) % p) (p.toNat - 2)
def wtM (p : Int) (xs : List Int) (i : Nat) (x : Int) : Nat → Int
  | 0 => 1
  | k + 1 => if k = i then wtM p xs i x k else wtM p xs i x k * ((x - xs.getD k 0) % p) % p * lagInv p xs i k % p
def atM (p : Int) (xs ys : List Int) (n : Nat) (x : Int) : Nat → Int
  | 0 => 0
  | i + 1 => (atM p xs ys n x i + ys.getD i 0 * wtM p xs i x n) % p
/-- The product with x + a, as the model reckons it. -/
def timesM (p : Int) (l : List Int) (a : Int) : List Int := mapTo (fun j => ((if j = 0 then 0 else l.getD (j - 1) 0 % p) + l.getD j 0 * a) % p) (l.length + 1)
def partM (p : Int) (xs : List Int) (i : Nat) (y : Int) : Nat → List Int
  | 0 => [y]
  | k + 1 => if k = i then partM p xs i y k else mapTo (fun j => (timesM p (partM p xs i y k) (-xs.getD k 0 % p)).getD j 0 * lagInv p xs i k % p) ((partM p xs i y k).length + 1)
def sumM (p : Int) (xs ys : List Int) (n : Nat) : Nat → List Int
  | 0 => mapTo (fun _ => 0) n
  | i + 1 => mapTo (fun j => ((sumM p xs ys n i).getD j 0 + (partM p xs i (ys.getD i 0) n).getD j 0) % p) n
/-- The factor of a weight. -/
def lagG (p : Int) (xs : List Int) (i : Nat) (x : Int) (k : Nat) : Int := if k = i then 1 else (x - xs.getD k 0) * lagInv p xs i k
def lagSum (p : Int) (xs ys : List Int) (n : Nat) (x : Int) : Nat → Int
  | 0 => 0
  | i + 1 => lagSum p xs ys n x i + ys.getD i 0 * prodTo (lagG p xs i x) n

theorem wtM_cg (i : Nat) (x : Int) (k : Nat) : Cg p (wtM p xs i x k) (prodTo (lagG p xs i x) k) := by
  induction k with
  | zero => exact Cg.refl _ _
  | succ k ih =>
    rw [wtM, prodTo, lagG]
    split
    · exact ih.trans (Cg.of_eq (by grind))
    · refine (Cg.mod _ _).trans (((Cg.mod _ _).trans (ih.mul (Cg.mod _ _))).mulRight _ |>.trans (Cg.of_eq (by grind)))
theorem atM_cg (n : Nat) (x : Int) (i : Nat) : Cg p (atM p xs ys n x i) (lagSum p xs ys n x i) := by
  induction i with
  | zero => exact Cg.refl _ _
  | succ i ih =>
    rw [atM, lagSum]
    exact (Cg.mod _ _).trans (ih.add ((wtM_cg i x n).mulLeft _))
theorem timesM_pe (l : List Int) (a x : Int) : Cg p (pe (fun j => (timesM p l a).getD j 0) (l.length + 1) x) ((x + a) * pe (fun j => l.getD j 0) l.length x) := by
  unfold timesM
  refine pe_mapTo.trans ?_
  rw [pe_add]
  have e1 : Cg p (pe (fun j => if j = 0 then 0 else l.getD (j - 1) 0 % p) (l.length + 1) x) (x * pe (fun j => l.getD j 0) l.length x) := by
    rw [← pe_shift]
    refine pe_congr fun j hj => ?_
    split
    · exact Cg.refl _ _
    · exact Cg.mod _ _
  have e2 : pe (fun j => l.getD j 0 * a) (l.length + 1) x = a * pe (fun j => l.getD j 0) l.length x := by
    have e3 : pe (fun j => l.getD j 0 * a) (l.length + 1) x = pe (fun j => a * l.getD j 0) (l.length + 1) x := pe_ext fun j _ => by grind
    rw [e3, pe_mul, pe_top (getD_out (Nat.le_refl _))]
  rw [e2]
  exact (e1.addRight _).trans (Cg.of_eq (by grind))
theorem partM_len (i : Nat) (y : Int) (k : Nat) : (partM p xs i y k).length = if i < k then k else k + 1 := by
  induction k with
  | zero => rfl
  | succ k ih =>
    rw [partM]
    split
    · rw [ih]; split <;> split <;> omega
    · rw [mapTo_length, ih]; split <;> split <;> omega
theorem partM_pe (i : Nat) (y x : Int) (k : Nat) : Cg p (pe (fun j => (partM p xs i y k).getD j 0) (partM p xs i y k).length x) (y * prodTo (lagG p xs i x) k) := by
  induction k with
  | zero => exact Cg.of_eq (by simp [partM, pe, prodTo])
  | succ k ih =>
    rw [partM, prodTo]
    split
    · rename_i e
      rw [lagG, if_pos e]
      exact ih.trans (Cg.of_eq (by grind))
    · rename_i e
      rw [lagG, if_neg e, mapTo_length]
      refine pe_mapTo.trans ?_
      have e3 : pe (fun j => (timesM p (partM p xs i y k) (-xs.getD k 0 % p)).getD j 0 * lagInv p xs i k) ((partM p xs i y k).length + 1) x = lagInv p xs i k * pe (fun j => (timesM p (partM p xs i y k) (-xs.getD k 0 % p)).getD j 0) ((partM p xs i y k).length + 1) x := by
        rw [← pe_mul]
        exact pe_ext fun j _ => by grind
      rw [e3]
      have h1 := (timesM_pe (p := p) (partM p xs i y k) (-xs.getD k 0 % p) x).trans (((Cg.refl p x).add (Cg.mod p (-xs.getD k 0))).mul ih)
      exact (h1.mulLeft _).trans (Cg.of_eq (by grind))
theorem sumM_len (n : Nat) (i : Nat) : (sumM p xs ys n i).length = n := by cases i <;> simp [sumM, mapTo_length]
theorem sumM_pe (n : Nat) (x : Int) (i : Nat) (hi : i ≤ n) : Cg p (pe (fun j => (sumM p xs ys n i).getD j 0) n x) (lagSum p xs ys n x i) := by
  induction i with
  | zero =>
    have e : pe (fun j => (sumM p xs ys n 0).getD j 0) n x = pe (fun j => 0 * (0 : Int)) n x := pe_ext fun j hj => by rw [sumM, mapTo_at _ hj]; grind
    rw [e, pe_mul]
    exact Cg.of_eq (by rw [lagSum]; grind)
  | succ i ih =>
    rw [sumM, lagSum]
    refine pe_mapTo.trans ?_
    rw [pe_add]
    have hl := partM_len (p := p) (xs := xs) i (ys.getD i 0) n
    rw [if_pos (by omega)] at hl
    have h1 := partM_pe (p := p) (xs := xs) i (ys.getD i 0) x n
    rw [hl] at h1
    exact (ih (by omega)).add h1
theorem lagSum_at (h : Pts p xs ys n) {j : Nat} (hj : j < n) (i : Nat) (hi : i ≤ n) : Cg p (lagSum p xs ys n (xs.getD j 0) i) (if j < i then ys.getD j 0 else 0) := by
  induction i with
  | zero => exact Cg.refl _ _
  | succ i ih =>
    rw [lagSum]
    have h1 := ih (by omega)
    by_cases e : j = i
    · subst e
      rw [if_neg (by omega)] at h1
      rw [if_pos (by omega)]
      have h2 : Cg p (prodTo (lagG p xs j (xs.getD j 0)) n) 1 := prodTo_one fun k hk => by
        rw [lagG]
        split
        · exact Cg.refl _ _
        · rename_i e
          have hm := modIn (a := xs.getD j 0 - xs.getD k 0) h.two.1
          exact ((Cg.mod _ _).symm.mulRight _).trans (invPow h.prime hm.1 hm.2 ((h.unit hj hk (fun e' => e e'.symm)).congr (Cg.mod _ _).symm))
      exact (h1.add (h2.mulLeft _)).trans (Cg.of_eq (by grind))
    · have h2 : prodTo (lagG p xs i (xs.getD j 0)) n = 0 := prodTo_zero hj (by rw [lagG, if_neg e]; grind)
      rw [h2]
      have e3 : (if j < i + 1 then ys.getD j 0 else 0) = if j < i then ys.getD j 0 else 0 := by
        by_cases e4 : j < i
        · rw [if_pos e4, if_pos (by omega)]
        · rw [if_neg e4, if_neg (by omega)]
      rw [e3]
      exact (h1.addRight _).trans (Cg.of_eq (by grind))
theorem sumM_in (h : 2 ≤ p) (i : Nat) : ∀ j, j < n → 0 ≤ (sumM p xs ys n i).getD j 0 ∧ (sumM p xs ys n i).getD j 0 < p := by
  intro j hj
  cases i with
  | zero => rw [sumM, mapTo_at _ hj]; omega
  | succ i => rw [sumM, mapTo_at _ hj]; exact modIn h

/-- Both ways give the same list. -/
theorem newIsSum (h : Pts p xs ys n) : newC p xs ys n = sumM p xs ys n n := by
  refine onlyOne (p := p) (n := n) (r := fun i => xs.getD i 0) (y := fun i => ys.getD i 0) (fun i j hi hj hne => h.unit hi hj hne) (newC_len n) (sumM_len n n) ?_ (sumM_in h.two.1 n) (newC_at h n (Nat.le_refl n)) ?_
  · intro k hk
    exact newC_in h.two.1 n k (by rw [newC_len]; exact hk)
  · intro i hi
    have h1 := lagSum_at h hi n (Nat.le_refl n)
    rw [if_pos hi] at h1
    exact (sumM_pe n _ n (Nat.le_refl n)).trans h1
theorem atM_in (h : 2 ≤ p) (m : Nat) (x : Int) (i : Nat) : 0 ≤ atM p xs ys m x i ∧ atM p xs ys m x i < p := by
  cases i with
  | zero => exact ⟨Int.le_refl _, by show (0 : Int) < p; omega⟩
  | succ i => exact modIn h
/-- The value of the program's polynomial is the model's sum. -/
theorem newIsAt (h : Pts p xs ys n) (x : Int) : evM p x (newC p xs ys n) = atM p xs ys n x n := by
  have e1 := evM_in (x := x) (zs := newC p xs ys n) h.two.1
  have e2 := atM_in (xs := xs) (ys := ys) h.two.1 n x n
  refine Cg.eq ?_ e1.1 e1.2 e2.1 e2.2
  have h1 := evM_pe (p := p) (x := x) (newC p xs ys n)
  rw [newC_len] at h1
  rw [newIsSum h] at h1 ⊢
  exact h1.trans ((sumM_pe n x n (Nat.le_refl n)).trans (atM_cg n x n).symm)
end

end Go.Proofs.Yteiibneaihdmbaa
