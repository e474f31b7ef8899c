/- What AddMod, MulMod, PowMod, InverseMod and DivideMod do, the program's and the model's: the same element, or no element for what is none. -/
import Derived.Test.YtkmnhdnifpglnaaFld1
namespace Go.Proofs.Ytkmnhdnifpglnaa
open Go.RowKit

def one (a : Int) : List Int := [a]
def two (a b : Int) : List Int := [a, b]
theorem hasOne (w : World) (a : Int) : Has (w.alloc (.cells #[.int .i64 a] 3)) (some ⟨w.heap.size, 0, none⟩) 1 (one a) := hasNew w [a] _
theorem hasTwo (w : World) (a b : Int) : Has (w.alloc (.cells #[.int .i64 a, .int .i64 b] 3)) (some ⟨w.heap.size, 0, none⟩) 2 (two a b) := hasNew w [a, b] _
theorem elsOne {p a : Int} : elsIn p (one a) = (primeB p && decide (0 ≤ a ∧ a < p)) := by
  unfold elsIn allIn one
  congr 1
  rw [Bool.eq_iff_iff]
  simp
  omega
theorem elsTwo {p a b : Int} : elsIn p (two a b) = (primeB p && decide (0 ≤ a ∧ a < p ∧ 0 ≤ b ∧ b < p)) := by
  unfold elsIn allIn two
  congr 1
  rw [Bool.eq_iff_iff]
  simp
  omega
theorem elsTwo_yes {p a b : Int} (h : elsIn p (two a b) = true) : primeB p = true ∧ 2 ≤ p ∧ p ≤ 251 ∧ 0 ≤ a ∧ a < p ∧ 0 ≤ b ∧ b < p := by
  rw [elsTwo, Bool.and_eq_true, decide_eq_true_eq] at h
  have := primeB_yes h.1
  exact ⟨h.1, this.1, this.2, h.2⟩
theorem elsOne_yes {p a : Int} (h : elsIn p (one a) = true) : primeB p = true ∧ 2 ≤ p ∧ p ≤ 251 ∧ 0 ≤ a ∧ a < p := by
  rw [elsOne, Bool.and_eq_true, decide_eq_true_eq] at h
  have := primeB_yes h.1
  exact ⟨h.1, this.1, this.2, h.2⟩
/-- A product of two elements fits. -/
theorem mulFits {p a b : Int} (hp : p ≤ 251) (a0 : 0 ≤ a) (a1 : a < p) (b0 : 0 ≤ b) (b1 : b < p) : 0 ≤ a * b ∧ a * b ≤ 62500 := by
  have h1 : a ≤ 250 := by omega
  have h2 : b ≤ 250 := by omega
  refine ⟨Int.mul_nonneg a0 b0, ?_⟩
  have := Int.mul_le_mul h1 h2 b0 (by omega)
  omega
theorem modIn {a p : Int} (h : 2 ≤ p) : 0 ≤ a % p ∧ a % p < p := ⟨Int.emod_nonneg _ (by omega), Int.emod_lt_of_pos _ (by omega)⟩

def m_AddMod (p a b : Int) : Int × Bool := if elsIn p (two a b) then ((a + b) % p, true) else (0, false)
def m_MulMod (p a b : Int) : Int × Bool := if elsIn p (two a b) then (a * b % p, true) else (0, false)
def m_PowMod (p a n : Int) : Int × Bool := if elsIn p (one a) && decide (0 ≤ n ∧ n ≤ 1000000) then (powM p a n.toNat, true) else (0, false)
def m_InverseMod (p a : Int) : Int × Bool := if elsIn p (one a) && decide (a ≠ 0) then (powM p a (p.toNat - 2), true) else (0, false)
def m_DivideMod (p a b : Int) : Int × Bool := if elsIn p (two a b) && decide (b ≠ 0) then (a * powM p b (p.toNat - 2) % p, true) else (0, false)

set_option maxHeartbeats 1000000 in
theorem spec_AddMod (p a b : Int) (ry : Int) (rb : Bool) (w : World) (hp : I64 p) (_ha : I64 a) (_hb : I64 b) (hm : m_AddMod p a b = (ry, rb)) :
    Calls Try.prog 19 #[.int .i64 p, .int .i64 a, .int .i64 b] w fun e w' => e = .returned (.tuple #[.int .i64 ry, .bool rb]) ∧ Below w.heap.size w w' := by
  cases hq : elsIn p (two a b) with
  | false =>
    rw [m_AddMod, hq, if_neg (by simp)] at hm
    obtain ⟨rfl, rfl⟩ := Prod.mk.inj hm
    have HQ := Lib.hid hq
    clear hq hm
    go_enter Try.func19, Try.ntmps19
    go_wp2_with fail
    refine (fpIn_any p _ 2 2 (two a b) false _ hp (hasTwo w a b) (by omega) HQ.out).mono ?_
    rintro e w' ⟨rfl, rfl⟩
    go_wp2_with fail
    go_ret2
    exact ⟨rfl, belowNew _ _⟩
  | true =>
    rw [m_AddMod, hq, if_pos rfl] at hm
    obtain ⟨h1, rfl⟩ := Prod.mk.inj hm
    have H1 := Lib.hid h1
    obtain ⟨_, p2, p251, a0, a1, b0, b1⟩ := elsTwo_yes hq
    have HQ := Lib.hid hq
    clear hq hm h1
    obtain ⟨q0, q1⟩ := mulFits p251 a0 a1 b0 b1
    have tm := tmodPos (a := a + b) (b := p) (by omega)
    go_enter Try.func19, Try.ntmps19
    go_wp2_with fail
    refine (fpIn_any p _ 2 2 (two a b) true _ hp (hasTwo w a b) (by omega) HQ.out).mono ?_
    rintro e w' ⟨rfl, rfl⟩
    go_wp2_with fail
    go_ret2
    obtain rfl := H1.out
    exact ⟨rfl, belowNew _ _⟩

set_option maxHeartbeats 1000000 in
theorem impl_AddMod (p a b : Int) (ry : Int) (rb : Bool) (w : World) (hp : I64 p) (_ha : I64 a) (_hb : I64 b) (hm : m_AddMod p a b = (ry, rb)) :
    Calls Try.prog 18 #[.int .i64 p, .int .i64 a, .int .i64 b] w fun e w' => e = .returned (.tuple #[.int .i64 ry, .bool rb]) ∧ Below w.heap.size w w' := by
  cases hq : elsIn p (two a b) with
  | false =>
    rw [m_AddMod, hq, if_neg (by simp)] at hm
    obtain ⟨rfl, rfl⟩ := Prod.mk.inj hm
    have HQ := Lib.hid hq
    clear hq hm
    go_enter Try.func18, Try.ntmps18
    go_wp2_with fail
    refine (areElements_any p _ 2 2 (two a b) false _ hp (hasTwo w a b) (by omega) HQ.out).mono ?_
    rintro e w' ⟨rfl, rfl⟩
    go_wp2_with fail
    go_ret2
    exact ⟨rfl, belowNew _ _⟩
  | true =>
    rw [m_AddMod, hq, if_pos rfl] at hm
    obtain ⟨h1, rfl⟩ := Prod.mk.inj hm
    have H1 := Lib.hid h1
    obtain ⟨_, p2, p251, a0, a1, b0, b1⟩ := elsTwo_yes hq
    have HQ := Lib.hid hq
    clear hq hm h1
    obtain ⟨q0, q1⟩ := mulFits p251 a0 a1 b0 b1
    have tm := tmodPos (a := a + b) (b := p) (by omega)
    go_enter Try.func18, Try.ntmps18
    go_wp2_with fail
    refine (areElements_any p _ 2 2 (two a b) true _ hp (hasTwo w a b) (by omega) HQ.out).mono ?_
    rintro e w' ⟨rfl, rfl⟩
    go_wp2_with fail
    go_ret2
    obtain rfl := H1.out
    exact ⟨rfl, belowNew _ _⟩

set_option maxHeartbeats 1000000 in
theorem spec_MulMod (p a b : Int) (ry : Int) (rb : Bool) (w : World) (hp : I64 p) (_ha : I64 a) (_hb : I64 b) (hm : m_MulMod p a b = (ry, rb)) :
    Calls Try.prog 20 #[.int .i64 p, .int .i64 a, .int .i64 b] w fun e w' => e = .returned (.tuple #[.int .i64 ry, .bool rb]) ∧ Below w.heap.size w w' := by
  cases hq : elsIn p (two a b) with
  | false =>
    rw [m_MulMod, hq, if_neg (by simp)] at hm
    obtain ⟨rfl, rfl⟩ := Prod.mk.inj hm
    have HQ := Lib.hid hq
    clear hq hm
    go_enter Try.func20, Try.ntmps20
    go_wp2_with fail
    refine (fpIn_any p _ 2 2 (two a b) false _ hp (hasTwo w a b) (by omega) HQ.out).mono ?_
    rintro e w' ⟨rfl, rfl⟩
    go_wp2_with fail
    go_ret2
    exact ⟨rfl, belowNew _ _⟩
  | true =>
    rw [m_MulMod, hq, if_pos rfl] at hm
    obtain ⟨h1, rfl⟩ := Prod.mk.inj hm
    have H1 := Lib.hid h1
    obtain ⟨_, p2, p251, a0, a1, b0, b1⟩ := elsTwo_yes hq
    have HQ := Lib.hid hq
    clear hq hm h1
    obtain ⟨q0, q1⟩ := mulFits p251 a0 a1 b0 b1
    have tm := tmodPos (a := a * b) (b := p) (by omega)
    go_enter Try.func20, Try.ntmps20
    go_wp2_with fail
    refine (fpIn_any p _ 2 2 (two a b) true _ hp (hasTwo w a b) (by omega) HQ.out).mono ?_
    rintro e w' ⟨rfl, rfl⟩
    go_wp2_with fail
    go_ret2
    obtain rfl := H1.out
    exact ⟨rfl, belowNew _ _⟩

set_option maxHeartbeats 1000000 in
theorem impl_MulMod (p a b : Int) (ry : Int) (rb : Bool) (w : World) (hp : I64 p) (_ha : I64 a) (_hb : I64 b) (hm : m_MulMod p a b = (ry, rb)) :
    Calls Try.prog 11 #[.int .i64 p, .int .i64 a, .int .i64 b] w fun e w' => e = .returned (.tuple #[.int .i64 ry, .bool rb]) ∧ Below w.heap.size w w' := by
  cases hq : elsIn p (two a b) with
  | false =>
    rw [m_MulMod, hq, if_neg (by simp)] at hm
    obtain ⟨rfl, rfl⟩ := Prod.mk.inj hm
    have HQ := Lib.hid hq
    clear hq hm
    go_enter Try.func11, Try.ntmps11
    go_wp2_with fail
    refine (areElements_any p _ 2 2 (two a b) false _ hp (hasTwo w a b) (by omega) HQ.out).mono ?_
    rintro e w' ⟨rfl, rfl⟩
    go_wp2_with fail
    go_ret2
    exact ⟨rfl, belowNew _ _⟩
  | true =>
    rw [m_MulMod, hq, if_pos rfl] at hm
    obtain ⟨h1, rfl⟩ := Prod.mk.inj hm
    have H1 := Lib.hid h1
    obtain ⟨_, p2, p251, a0, a1, b0, b1⟩ := elsTwo_yes hq
    have HQ := Lib.hid hq
    clear hq hm h1
    obtain ⟨q0, q1⟩ := mulFits p251 a0 a1 b0 b1
    have tm := tmodPos (a := a * b) (b := p) (by omega)
    go_enter Try.func11, Try.ntmps11
    go_wp2_with fail
    refine (areElements_any p _ 2 2 (two a b) true _ hp (hasTwo w a b) (by omega) HQ.out).mono ?_
    rintro e w' ⟨rfl, rfl⟩
    go_wp2_with fail
    go_ret2
    obtain rfl := H1.out
    exact ⟨rfl, belowNew _ _⟩

set_option maxHeartbeats 1000000 in
theorem powerOf_any (p a : Int) (N : Nat) (y : Int) (w : World) (p2 : 2 ≤ p) (p251 : p ≤ 251) (a0 : 0 ≤ a) (a1 : a < p) (hN : N ≤ 1000000) (hy : powM p a N = y) :
    Calls Try.prog 42 #[.int .i64 p, .int .i64 a, .int .i64 (N : Int)] w fun e w' => e = .returned (.int .i64 y) ∧ w = w' := by
  have HY := Lib.hid hy
  clear hy
  have tm1 := tmodPos (a := 1) (b := p) (by omega)
  have em1 : (1 : Int) % p = 1 := Int.emod_eq_of_lt (by omega) (by omega)
  go_enter Try.func42, Try.ntmps42
  go_wp2
  go_loop [2, 7, 8] (fun i u v => ∃ (k : Nat) (t q : Int), i = .int .i64 k ∧ u = .int .i64 t ∧ v = .int .i64 q ∧ k ≤ N ∧ 0 ≤ t ∧ t < p ∧ 0 ≤ q ∧ q < p ∧ Hid (Cg p (t * q ^ k) (a ^ N))) (fun i u v => (intOf i).toNat)
  case atStart => exact ⟨N, 1, a, rfl, rfl, rfl, Nat.le_refl _, by omega, by omega, a0, a1, Cg.of_eq (by grind)⟩
  case round =>
    obtain ⟨k, t, q, rfl, rfl, rfl, hk, t0, t1, q0, q1, HC⟩ := hrel
    by_cases hlt : 0 < k
    · have hk2 : ((k : Int)).tmod 2 = ((k % 2 : Nat) : Int) := by rw [tmodPos (by omega)]; omega
      obtain ⟨m0, m1⟩ := mulFits p251 t0 t1 q0 q1
      obtain ⟨s0, s1⟩ := mulFits p251 q0 q1 q0 q1
      have tm := tmodPos (a := t * q) (b := p) m0
      have ts := tmodPos (a := q * q) (b := p) s0
      obtain ⟨e0, e1⟩ := modIn (a := t * q) p2
      obtain ⟨f0, f1⟩ := modIn (a := q * q) p2
      by_cases hodd : k % 2 = 1
      · have hodd' : (k : Int) % 2 = 1 := by omega
        go_wp2
        go_round
        case rel => exact ⟨k / 2, _, _, by go_num, rfl, rfl, by omega, e0, e1, f0, f1, (powStep HC.out).1 hodd⟩
        case measure => simp [intOf]; omega
      · have hodd' : (k : Int) % 2 = 0 := by omega
        go_wp2
        go_round
        case rel => exact ⟨k / 2, _, _, by go_num, rfl, rfl, by omega, t0, t1, f0, f1, (powStep HC.out).2 hodd⟩
        case measure => simp [intOf]; omega
    · obtain rfl : k = 0 := by omega
      go_wp2
      go_ret
      refine ⟨?_, rfl⟩
      have e := HY.out
      have hc := HC.out
      have ht : t = powM p a N := (((Cg.of_eq (by grind)).trans hc).trans (powM_cg p a N).symm).eq t0 t1 (powM_in (by omega)).1 (powM_in (by omega)).2
      rw [e] at ht
      subst ht
      rfl

set_option maxHeartbeats 1000000 in
theorem fpPow_any (p a : Int) (N : Nat) (y : Int) (w : World) (p2 : 2 ≤ p) (p251 : p ≤ 251) (a0 : 0 ≤ a) (a1 : a < p) (hN : N ≤ 1000000) (hy : powM p a N = y) :
    Calls Try.prog 48 #[.int .i64 p, .int .i64 a, .int .i64 (N : Int)] w fun e w' => e = .returned (.int .i64 y) ∧ w = w' := by
  have HY := Lib.hid hy
  clear hy
  have tm1 := tmodPos (a := 1) (b := p) (by omega)
  have em1 : (1 : Int) % p = 1 := Int.emod_eq_of_lt (by omega) (by omega)
  go_enter Try.func48, Try.ntmps48
  go_wp2
  go_loop [1, 2, 7] (fun v i u => ∃ (k : Nat) (t q : Int), i = .int .i64 k ∧ u = .int .i64 t ∧ v = .int .i64 q ∧ k ≤ N ∧ 0 ≤ t ∧ t < p ∧ 0 ≤ q ∧ q < p ∧ Hid (Cg p (t * q ^ k) (a ^ N))) (fun v i u => (intOf i).toNat)
  case atStart => exact ⟨N, 1, a, rfl, rfl, rfl, Nat.le_refl _, by omega, by omega, a0, a1, Cg.of_eq (by grind)⟩
  case round =>
    obtain ⟨k, t, q, rfl, rfl, rfl, hk, t0, t1, q0, q1, HC⟩ := hrel
    by_cases hlt : 0 < k
    · have hk2 : ((k : Int)).tmod 2 = ((k % 2 : Nat) : Int) := by rw [tmodPos (by omega)]; omega
      obtain ⟨m0, m1⟩ := mulFits p251 t0 t1 q0 q1
      obtain ⟨s0, s1⟩ := mulFits p251 q0 q1 q0 q1
      have tm := tmodPos (a := t * q) (b := p) m0
      have ts := tmodPos (a := q * q) (b := p) s0
      obtain ⟨e0, e1⟩ := modIn (a := t * q) p2
      obtain ⟨f0, f1⟩ := modIn (a := q * q) p2
      by_cases hodd : k % 2 = 1
      · have hodd' : (k : Int) % 2 = 1 := by omega
        go_wp2
        go_round
        case rel => exact ⟨k / 2, _, _, by go_num, rfl, rfl, by omega, e0, e1, f0, f1, (powStep HC.out).1 hodd⟩
        case measure => simp [intOf]; omega
      · have hodd' : (k : Int) % 2 = 0 := by omega
        go_wp2
        go_round
        case rel => exact ⟨k / 2, _, _, by go_num, rfl, rfl, by omega, t0, t1, f0, f1, (powStep HC.out).2 hodd⟩
        case measure => simp [intOf]; omega
    · obtain rfl : k = 0 := by omega
      go_wp2
      go_ret
      refine ⟨?_, rfl⟩
      have e := HY.out
      have hc := HC.out
      have ht : t = powM p a N := (((Cg.of_eq (by grind)).trans hc).trans (powM_cg p a N).symm).eq t0 t1 (powM_in (by omega)).1 (powM_in (by omega)).2
      rw [e] at ht
      subst ht
      rfl

end Go.Proofs.Ytkmnhdnifpglnaa
