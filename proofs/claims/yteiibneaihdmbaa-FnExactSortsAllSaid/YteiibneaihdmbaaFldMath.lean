/- The mathematics of small fields that the proofs of chapter 2 share: primes up to 251, Fermat's theorem for them by reckoning, congruences, units, powers by squaring. No condition beyond what each lemma names. -/
import Derived.Test.YteiibneaihdmbaaBits1
import Derived.Test.YteiibneaihdmbaaLists
namespace Go.Proofs.Yteiibneaihdmbaa
set_option maxRecDepth 100000

/-- p is a prime from 2 to 251. -/
def primeB (p : Int) : Bool := decide (2 ≤ p ∧ p ≤ 251 ∧ ∀ d : Nat, d < 16 → 2 ≤ d → (d : Int) * d ≤ p → p % d ≠ 0)

theorem primeB_yes {p : Int} (h : primeB p = true) : 2 ≤ p ∧ p ≤ 251 := by
  have := of_decide_eq_true h
  exact ⟨this.1, this.2.1⟩

def fermatAt (p : Nat) : Bool := !primeB p || (List.range p).all fun a => a == 0 || a ^ (p - 1) % p == 1
set_option maxRecDepth 100000 in
theorem fermatAll : (List.range 252).all fermatAt = true := by decide +kernel

theorem fermatN {p a : Nat} (h : primeB p = true) (h0 : 0 < a) (h1 : a < p) : a ^ (p - 1) % p = 1 := by
  have hp := (primeB_yes h).2
  have h2 := List.all_eq_true.1 fermatAll p (List.mem_range.2 (by omega))
  unfold fermatAt at h2
  rw [h, Bool.not_true, Bool.false_or, List.all_eq_true] at h2
  have h3 := h2 a (List.mem_range.2 h1)
  simp at h3
  omega

theorem fermat {p a : Int} (h : primeB p = true) (h0 : 0 < a) (h1 : a < p) : a ^ (p.toNat - 1) % p = 1 := by
  obtain ⟨q, rfl⟩ : ∃ q : Nat, p = (q : Int) := ⟨p.toNat, by omega⟩
  obtain ⟨b, rfl⟩ : ∃ b : Nat, a = (b : Int) := ⟨a.toNat, by omega⟩
  have := fermatN h (a := b) (by omega) (by omega)
  rw [Int.toNat_natCast]
  exact_mod_cast this

/-- Two numbers that p does not tell apart. -/
def Cg (p a b : Int) : Prop := ∃ k : Int, a = b + k * p

section
variable {p a b c d : Int}
theorem Cg.refl (p a : Int) : Cg p a a := ⟨0, by grind⟩
theorem Cg.symm (h : Cg p a b) : Cg p b a := by obtain ⟨k, h⟩ := h; exact ⟨-k, by grind⟩
theorem Cg.trans (h : Cg p a b) (h' : Cg p b c) : Cg p a c := by obtain ⟨k, h⟩ := h; obtain ⟨l, h'⟩ := h'; exact ⟨k + l, by grind⟩
theorem Cg.add (h : Cg p a b) (h' : Cg p c d) : Cg p (a + c) (b + d) := by obtain ⟨k, h⟩ := h; obtain ⟨l, h'⟩ := h'; exact ⟨k + l, by grind⟩
theorem Cg.sub (h : Cg p a b) (h' : Cg p c d) : Cg p (a - c) (b - d) := by obtain ⟨k, h⟩ := h; obtain ⟨l, h'⟩ := h'; exact ⟨k - l, by grind⟩
theorem Cg.mul (h : Cg p a b) (h' : Cg p c d) : Cg p (a * c) (b * d) := by obtain ⟨k, h⟩ := h; obtain ⟨l, h'⟩ := h'; exact ⟨k * d + l * b + k * l * p, by grind⟩
theorem Cg.pow (h : Cg p a b) (n : Nat) : Cg p (a ^ n) (b ^ n) := by
  induction n with
  | zero => exact ⟨0, by simp⟩
  | succ n ih => rw [Int.pow_succ, Int.pow_succ]; exact ih.mul h
theorem Cg.of_eq (h : a = b) : Cg p a b := h ▸ Cg.refl _ _
theorem Cg.mod (p a : Int) : Cg p (a % p) a := ⟨-(a / p), by have := Int.emod_add_mul_ediv a p; grind⟩
theorem Cg.emod (h : Cg p a b) : a % p = b % p := by
  obtain ⟨k, rfl⟩ := h
  rw [Int.add_mul_emod_self_right]
theorem Cg.of_emod (h : a % p = b % p) : Cg p a b := ((Cg.mod p a).symm.trans (Cg.of_eq h)).trans (Cg.mod p b)
theorem Cg.eq (h : Cg p a b) (a0 : 0 ≤ a) (a1 : a < p) (b0 : 0 ≤ b) (b1 : b < p) : a = b := by
  have := h.emod
  rw [Int.emod_eq_of_lt a0 a1, Int.emod_eq_of_lt b0 b1] at this
  exact this
theorem Cg.addRight (h : Cg p a b) (c : Int) : Cg p (a + c) (b + c) := h.add (Cg.refl _ _)
theorem Cg.mulLeft (c : Int) (h : Cg p a b) : Cg p (c * a) (c * b) := (Cg.refl _ _).mul h
theorem Cg.mulRight (h : Cg p a b) (c : Int) : Cg p (a * c) (b * c) := h.mul (Cg.refl _ _)
end

/-- a has an inverse. -/
def Un (p a : Int) : Prop := ∃ b : Int, Cg p (a * b) 1
section
variable {p a b c : Int}
theorem Un.mul (h : Un p a) (h' : Un p b) : Un p (a * b) := by
  obtain ⟨x, hx⟩ := h
  obtain ⟨y, hy⟩ := h'
  exact ⟨x * y, ((Cg.of_eq (by grind)).trans (hx.mul hy)).trans (Cg.of_eq (by grind))⟩
theorem Un.one : Un p 1 := ⟨1, Cg.refl _ _⟩
theorem Un.congr (h : Un p a) (hc : Cg p a b) : Un p b := by
  obtain ⟨x, hx⟩ := h
  exact ⟨x, (hc.mulRight x).symm.trans hx⟩
/-- A unit may be struck from a product that is nought. -/
theorem Un.strike (h : Un p a) (h' : Cg p (a * b) 0) : Cg p b 0 := by
  obtain ⟨x, hx⟩ := h
  have h1 : Cg p b (a * x * b) := (Cg.of_eq (Int.one_mul b).symm).trans (hx.mulRight b).symm
  have h2 : Cg p (a * x * b) (a * b * x) := Cg.of_eq (by grind)
  have h3 : Cg p (a * b * x) 0 := (h'.mulRight x).trans (Cg.of_eq (Int.zero_mul x))
  exact (h1.trans h2).trans h3
theorem fermatPow (h : primeB p = true) (h0 : 0 < a) (h1 : a < p) : Cg p (a * a ^ (p.toNat - 2)) 1 := by
  have hp := primeB_yes h
  have hf := fermat h h0 h1
  have e : p.toNat - 1 = (p.toNat - 2) + 1 := by omega
  rw [e, Int.pow_succ] at hf
  refine Cg.of_emod ?_
  rw [Int.mul_comm, hf]
  exact (Int.emod_eq_of_lt (by omega) (by omega)).symm
theorem unOf (h : primeB p = true) (h0 : 0 < a) (h1 : a < p) : Un p a := ⟨_, fermatPow h h0 h1⟩
/-- The difference of two different elements is a unit. -/
theorem unDiff (h : primeB p = true) (a0 : 0 ≤ a) (a1 : a < p) (b0 : 0 ≤ b) (b1 : b < p) (hne : a ≠ b) : Un p (a - b) := by
  by_cases hlt : b < a
  · exact unOf h (by omega) (by omega)
  · exact (unOf h (a := a - b + p) (by omega) (by omega)).congr ⟨1, by grind⟩
end

/-- a to the power n in the field. -/
def powM (p a : Int) (n : Nat) : Int := a ^ n % p
theorem powM_cg (p a : Int) (n : Nat) : Cg p (powM p a n) (a ^ n) := Cg.mod _ _
theorem powM_in {p a : Int} {n : Nat} (h : 0 < p) : 0 ≤ powM p a n ∧ powM p a n < p := ⟨Int.emod_nonneg _ (by omega), Int.emod_lt_of_pos _ h⟩

/-- One round of a power by squaring. -/
theorem powStep {p t q A : Int} {n : Nat} (h : Cg p (t * q ^ n) A) :
    (n % 2 = 1 → Cg p (t * q % p * (q * q % p) ^ (n / 2)) A) ∧ (n % 2 ≠ 1 → Cg p (t * (q * q % p) ^ (n / 2)) A) := by
  have h2 : Cg p ((q * q % p) ^ (n / 2)) (q ^ (2 * (n / 2))) := by
    refine ((Cg.mod p (q * q)).pow (n / 2)).trans (Cg.of_eq ?_)
    rw [Int.pow_mul]
    congr 1
    grind
  refine ⟨fun hn => ?_, fun hn => ?_⟩
  · refine (((Cg.mod p (t * q)).mul h2).trans (Cg.of_eq ?_)).trans h
    have e : n = 2 * (n / 2) + 1 := by omega
    rw [Int.mul_assoc]
    congr 1
    conv => rhs; rw [e, Int.pow_succ]
    rw [Int.mul_comm]
  · refine ((h2.mulLeft t).trans (Cg.of_eq ?_)).trans h
    have e : n = 2 * (n / 2) := by omega
    conv => rhs; rw [e]

end Go.Proofs.Yteiibneaihdmbaa
