/- What PowMod, InverseMod, DivideMod and OrderMod do, the program's and the model's: the same answer. -/
import Derived.Test.YtkmnhdnifpglnaaFld2
namespace Go.Proofs.Ytkmnhdnifpglnaa
open Go.RowKit

/-- The least n of at least 1 with a to the power n being 1, looked for from k + 1 on. -/
def ordGo (p a : Int) : Nat → Nat → Int
  | 0, _ => 0
  | f + 1, k => if powM p a (k + 1) = 1 then (k : Int) + 1 else ordGo p a f (k + 1)
theorem ordGo_eq {p a : Int} {k : Nat} (h : powM p a (k + 1) = 1) (hlt : ∀ j, j < k → powM p a (j + 1) ≠ 1) : ∀ (d f k0 : Nat), k0 + d = k → d < f → ordGo p a f k0 = (k : Int) + 1 := by
  intro d
  induction d with
  | zero =>
    intro f k0 hk hf
    obtain ⟨f, rfl⟩ : ∃ g, f = g + 1 := ⟨f - 1, by omega⟩
    obtain rfl : k0 = k := by omega
    rw [ordGo, if_pos h]
  | succ d ih =>
    intro f k0 hk hf
    obtain ⟨f, rfl⟩ : ∃ g, f = g + 1 := ⟨f - 1, by omega⟩
    rw [ordGo, if_neg (hlt k0 (by omega))]
    exact ih f (k0 + 1) (by omega) (by omega)
def m_OrderMod (p a : Int) : Int × Bool := if elsIn p (one a) && decide (a ≠ 0) then (ordGo p a 251 0, true) else (0, false)
theorem powM_succ (p a : Int) (k : Nat) (h : 2 ≤ p) : powM p a k * a % p = powM p a (k + 1) := by
  refine Cg.eq (p := p) ?_ (modIn h).1 (modIn h).2 (powM_in (by omega)).1 (powM_in (by omega)).2
  refine (Cg.mod _ _).trans (((powM_cg p a k).mulRight a).trans ?_)
  rw [← Int.pow_succ]
  exact (powM_cg _ _ _).symm
theorem powM_one {p a : Int} (a0 : 0 ≤ a) (a1 : a < p) : powM p a 1 = a := by
  unfold powM
  rw [show a ^ 1 = a from by grind]
  exact Int.emod_eq_of_lt a0 a1
theorem ordEnds {p a : Int} {k : Nat} (hp : primeB p = true) (a0 : 0 < a) (a1 : a < p) (h : ∀ j, j < k → powM p a (j + 1) ≠ 1) : (k : Int) + 1 < p := by
  have h2 := primeB_yes hp
  refine Int.lt_of_not_ge fun hge => ?_
  refine h (p.toNat - 2) (by omega) ?_
  have := fermat hp a0 a1
  rw [show p.toNat - 2 + 1 = p.toNat - 1 by omega]
  exact this

set_option maxHeartbeats 1000000 in
theorem specInv_any (p a : Int) (y : Int) (w : World) (p2 : 2 ≤ p) (p251 : p ≤ 251) (a0 : 0 ≤ a) (a1 : a < p) (hy : powM p a (p.toNat - 2) = y) :
    Calls Try.prog 39 #[.int .i64 p, .int .i64 a] w fun e w' => e = .returned (.int .i64 y) ∧ w = w' := by
  have HY := Lib.hid hy
  clear hy
  obtain ⟨n, rfl⟩ : ∃ n : Nat, p = (n : Int) + 2 := ⟨p.toNat - 2, by omega⟩
  have hn : ((n : Int) + 2).toNat - 2 = n := by omega
  rw [hn] at HY
  go_enter Try.func39, Try.ntmps39
  go_wp2_with fail
  refine (fpPow_any ((n : Int) + 2) a n y _ p2 p251 a0 a1 (by omega) HY.out).mono ?_
  rintro e w' ⟨rfl, rfl⟩
  go_wp2_with fail
  go_ret
  exact ⟨rfl, rfl⟩

set_option maxHeartbeats 1000000 in
theorem spec_PowMod (p a n : Int) (ry : Int) (rb : Bool) (w : World) (hp : I64 p) (_ha : I64 a) (_hn : I64 n) (hm : m_PowMod p a n = (ry, rb)) :
    Calls Try.prog 22 #[.int .i64 p, .int .i64 a, .int .i64 n] w fun e w' => e = .returned (.tuple #[.int .i64 ry, .bool rb]) ∧ Below w.heap.size w w' := by
  cases hq : elsIn p (one a) with
  | false =>
    rw [m_PowMod, hq, Bool.false_and, if_neg (by simp)] at hm
    obtain ⟨rfl, rfl⟩ := Prod.mk.inj hm
    have HQ := Lib.hid hq
    clear hq hm
    go_enter Try.func22, Try.ntmps22
    go_wp2_with fail
    refine (fpIn_any p _ 1 1 (one a) false _ hp (hasOne w a) (by omega) HQ.out).mono ?_
    rintro e w' ⟨rfl, rfl⟩
    go_wp2_with fail
    go_ret2
    exact ⟨rfl, belowNew _ _⟩
  | true =>
    rw [m_PowMod, hq, Bool.true_and] at hm
    obtain ⟨hpr, p2, p251, a0, a1⟩ := elsOne_yes hq
    have HQ := Lib.hid hq
    have HP := Lib.hid hpr
    clear hq hpr
    by_cases hc : 0 ≤ n ∧ n ≤ 1000000
    · rw [decide_eq_true hc, if_pos rfl] at hm
      obtain ⟨h1, rfl⟩ := Prod.mk.inj hm
      have H1 := Lib.hid h1
      obtain ⟨N, rfl⟩ : ∃ N : Nat, n = (N : Int) := ⟨n.toNat, by omega⟩
      rw [Int.toNat_natCast] at H1
      obtain ⟨n0, n1⟩ := hc
      clear hm h1
      go_enter Try.func22, Try.ntmps22
      go_wp2_with fail
      refine (fpIn_any p _ 1 1 (one a) true _ hp (hasOne w a) (by omega) HQ.out).mono ?_
      rintro e w' ⟨rfl, rfl⟩
      go_wp2_with fail
      refine (l1In_any (N : Int) 0 1000000 true _ (by simp; omega)).mono ?_
      rintro e w' ⟨rfl, rfl⟩
      go_wp2_with fail
      refine (fpPow_any p a N ry _ p2 p251 a0 a1 (by omega) H1.out).mono ?_
      rintro e w' ⟨rfl, rfl⟩
      go_wp2_with fail
      go_ret2
      exact ⟨rfl, belowNew _ _⟩
    · rw [decide_eq_false hc, if_neg (by simp)] at hm
      obtain ⟨rfl, rfl⟩ := Prod.mk.inj hm
      clear hm
      have HC := Lib.hid hc
      clear hc
      go_enter Try.func22, Try.ntmps22
      go_wp2_with fail
      refine (fpIn_any p _ 1 1 (one a) true _ hp (hasOne w a) (by omega) HQ.out).mono ?_
      rintro e w' ⟨rfl, rfl⟩
      go_wp2_with fail
      refine (l1In_any n 0 1000000 false _ (by have := HC.out; simp; omega)).mono ?_
      rintro e w' ⟨rfl, rfl⟩
      go_wp2_with fail
      go_ret2
      exact ⟨rfl, belowNew _ _⟩

set_option maxHeartbeats 1000000 in
theorem spec_DivideMod (p a b : Int) (ry : Int) (rb : Bool) (w : World) (hp : I64 p) (_ha : I64 a) (_hb : I64 b) (hm : m_DivideMod p a b = (ry, rb)) :
    Calls Try.prog 8 #[.int .i64 p, .int .i64 a, .int .i64 b] w fun e w' => e = .returned (.tuple #[.int .i64 ry, .bool rb]) ∧ Below w.heap.size w w' := by
  cases hq : elsIn p (two a b) with
  | false =>
    rw [m_DivideMod, hq, Bool.false_and, if_neg (by simp)] at hm
    obtain ⟨rfl, rfl⟩ := Prod.mk.inj hm
    have HQ := Lib.hid hq
    clear hq hm
    go_enter Try.func8, Try.ntmps8
    go_wp2_with fail
    refine (fpIn_any p _ 2 2 (two a b) false _ hp (hasTwo w a b) (by omega) HQ.out).mono ?_
    rintro e w' ⟨rfl, rfl⟩
    go_wp2_with fail
    go_ret2
    exact ⟨rfl, belowNew _ _⟩
  | true =>
    rw [m_DivideMod, hq, Bool.true_and] at hm
    obtain ⟨hpr, p2, p251, a0, a1, b0, b1⟩ := elsTwo_yes hq
    have HQ := Lib.hid hq
    have HP := Lib.hid hpr
    clear hq hpr
    by_cases hc : b = 0
    · subst hc
      rw [if_neg (by simp)] at hm
      obtain ⟨rfl, rfl⟩ := Prod.mk.inj hm
      clear hm
      go_enter Try.func8, Try.ntmps8
      go_wp2_with fail
      refine (fpIn_any p _ 2 2 (two a 0) true _ hp (hasTwo w a 0) (by omega) HQ.out).mono ?_
      rintro e w' ⟨rfl, rfl⟩
      go_wp2_with fail
      go_ret2
      exact ⟨rfl, belowNew _ _⟩
    · rw [decide_eq_true hc, if_pos rfl] at hm
      obtain ⟨h1, rfl⟩ := Prod.mk.inj hm
      have H1 := Lib.hid h1
      have hc' : (b == 0) = false := by simpa using hc
      clear hm h1
      obtain ⟨i0, i1⟩ := powM_in (p := p) (a := b) (n := p.toNat - 2) (by omega)
      obtain ⟨z, hz⟩ : ∃ z, powM p b (p.toNat - 2) = z := ⟨_, rfl⟩
      rw [hz] at H1 i0 i1
      have HZ := Lib.hid hz
      clear hz
      obtain ⟨q0, q1⟩ := mulFits p251 a0 a1 i0 i1
      have tm := tmodPos (a := a * z) (b := p) q0
      go_enter Try.func8, Try.ntmps8
      go_wp2_with fail
      refine (fpIn_any p _ 2 2 (two a b) true _ hp (hasTwo w a b) (by omega) HQ.out).mono ?_
      rintro e w' ⟨rfl, rfl⟩
      go_wp2_with fail
      refine (specInv_any p b z _ p2 p251 b0 b1 HZ.out).mono ?_
      rintro e w' ⟨rfl, rfl⟩
      go_wp2_with fail
      go_ret2
      obtain rfl := H1.out
      exact ⟨rfl, belowNew _ _⟩

set_option maxHeartbeats 1000000 in
theorem spec_OrderMod (p a : Int) (ry : Int) (rb : Bool) (w : World) (hp : I64 p) (_ha : I64 a) (hm : m_OrderMod p a = (ry, rb)) :
    Calls Try.prog 15 #[.int .i64 p, .int .i64 a] w fun e w' => e = .returned (.tuple #[.int .i64 ry, .bool rb]) ∧ Below w.heap.size w w' := by
  cases hq : elsIn p (one a) with
  | false =>
    rw [m_OrderMod, hq, Bool.false_and, if_neg (by simp)] at hm
    obtain ⟨rfl, rfl⟩ := Prod.mk.inj hm
    have HQ := Lib.hid hq
    clear hq hm
    go_enter Try.func15, Try.ntmps15
    go_wp2_with fail
    refine (fpIn_any p _ 1 1 (one a) false _ hp (hasOne w a) (by omega) HQ.out).mono ?_
    rintro e w' ⟨rfl, rfl⟩
    go_wp2_with fail
    go_ret2
    exact ⟨rfl, belowNew _ _⟩
  | true =>
    rw [m_OrderMod, hq, Bool.true_and] at hm
    obtain ⟨hpr, p2, p251, a0, a1⟩ := elsOne_yes hq
    have HQ := Lib.hid hq
    have HP := Lib.hid hpr
    clear hq hpr
    by_cases hc : a = 0
    · subst hc
      rw [if_neg (by simp)] at hm
      obtain ⟨rfl, rfl⟩ := Prod.mk.inj hm
      clear hm
      go_enter Try.func15, Try.ntmps15
      go_wp2_with fail
      refine (fpIn_any p _ 1 1 (one 0) true _ hp (hasOne w 0) (by omega) HQ.out).mono ?_
      rintro e w' ⟨rfl, rfl⟩
      go_wp2_with fail
      go_ret2
      exact ⟨rfl, belowNew _ _⟩
    · rw [decide_eq_true hc, if_pos rfl] at hm
      obtain ⟨h1, rfl⟩ := Prod.mk.inj hm
      have H1 := Lib.hid h1
      have hc' : (a == 0) = false := by simpa using hc
      have ha0 : 0 < a := by omega
      clear hm h1
      go_enter Try.func15, Try.ntmps15
      go_wp2_with fail
      refine (fpIn_any p _ 1 1 (one a) true _ hp (hasOne w a) (by omega) HQ.out).mono ?_
      rintro e w' ⟨rfl, rfl⟩
      go_wp2_with fail
      go_loop [6, 7] (fun i v => ∃ (k : Nat) (x : Int), (k : Int) + 1 < p ∧ i = .int .i64 ((k : Int) + 1) ∧ v = .int .i64 x ∧ 0 ≤ x ∧ x < p ∧ Hid (x = powM p a (k + 1)) ∧ Hid (∀ j, j < k → powM p a (j + 1) ≠ 1)) (fun i _ => 251 - (intOf i).toNat)
      case atStart => exact ⟨0, a, by omega, by simp, rfl, a0, a1, (powM_one a0 a1).symm, fun j hj => absurd hj (by omega)⟩
      case round =>
        obtain ⟨k, x, hk, rfl, rfl, x0, x1, HX, HJ⟩ := hrel
        by_cases hx : x = 1
        · subst hx
          go_wp2
          go_ret2
          have e := H1.out
          rw [ordGo_eq HX.out.symm HJ.out k 251 0 (by omega) (by omega)] at e
          subst e
          exact ⟨rfl, belowNew _ _⟩
        · obtain ⟨m0, m1⟩ := mulFits p251 x0 x1 a0 a1
          have tm := tmodPos (a := x * a) (b := p) m0
          obtain ⟨e0, e1⟩ := modIn (a := x * a) p2
          have hx' : (x != 1) = true := by simpa using hx
          have HK : ∀ j, j < k + 1 → powM p a (j + 1) ≠ 1 := by
            intro j hj
            by_cases e : j = k
            · rw [e, ← HX.out]; exact hx
            · exact HJ.out j (by omega)
          have hend := ordEnds HP.out ha0 a1 HK
          have HK := Lib.hid HK
          clear hx
          go_wp2
          go_round
          case rel => exact ⟨k + 1, _, by omega, by go_num, rfl, e0, e1, by show _ = _; rw [HX.out, powM_succ p a (k + 1) p2], HK⟩
          case measure => simp [intOf]; omega

set_option maxHeartbeats 1000000 in
theorem implInv_any (p a : Int) (y : Int) (w : World) (p2 : 2 ≤ p) (p251 : p ≤ 251) (a0 : 0 ≤ a) (a1 : a < p) (hy : powM p a (p.toNat - 2) = y) :
    Calls Try.prog 37 #[.int .i64 p, .int .i64 a] w fun e w' => e = .returned (.int .i64 y) ∧ w = w' := by
  have HY := Lib.hid hy
  clear hy
  obtain ⟨n, rfl⟩ : ∃ n : Nat, p = (n : Int) + 2 := ⟨p.toNat - 2, by omega⟩
  have hn : ((n : Int) + 2).toNat - 2 = n := by omega
  rw [hn] at HY
  go_enter Try.func37, Try.ntmps37
  go_wp2_with fail
  refine (powerOf_any ((n : Int) + 2) a n y _ p2 p251 a0 a1 (by omega) HY.out).mono ?_
  rintro e w' ⟨rfl, rfl⟩
  go_wp2_with fail
  go_ret
  exact ⟨rfl, rfl⟩

set_option maxHeartbeats 1000000 in
theorem impl_PowMod (p a n : Int) (ry : Int) (rb : Bool) (w : World) (hp : I64 p) (_ha : I64 a) (_hn : I64 n) (hm : m_PowMod p a n = (ry, rb)) :
    Calls Try.prog 16 #[.int .i64 p, .int .i64 a, .int .i64 n] w fun e w' => e = .returned (.tuple #[.int .i64 ry, .bool rb]) ∧ Below w.heap.size w w' := by
  cases hq : elsIn p (one a) with
  | false =>
    rw [m_PowMod, hq, Bool.false_and, if_neg (by simp)] at hm
    obtain ⟨rfl, rfl⟩ := Prod.mk.inj hm
    have HQ := Lib.hid hq
    clear hq hm
    go_enter Try.func16, Try.ntmps16
    go_wp2_with fail
    refine (areElements_any p _ 1 1 (one a) false _ hp (hasOne w a) (by omega) HQ.out).mono ?_
    rintro e w' ⟨rfl, rfl⟩
    go_wp2_with fail
    go_ret2
    exact ⟨rfl, belowNew _ _⟩
  | true =>
    rw [m_PowMod, hq, Bool.true_and] at hm
    obtain ⟨hpr, p2, p251, a0, a1⟩ := elsOne_yes hq
    have HQ := Lib.hid hq
    have HP := Lib.hid hpr
    clear hq hpr
    by_cases hc : 0 ≤ n ∧ n ≤ 1000000
    · rw [decide_eq_true hc, if_pos rfl] at hm
      obtain ⟨h1, rfl⟩ := Prod.mk.inj hm
      have H1 := Lib.hid h1
      obtain ⟨N, rfl⟩ : ∃ N : Nat, n = (N : Int) := ⟨n.toNat, by omega⟩
      rw [Int.toNat_natCast] at H1
      obtain ⟨n0, n1⟩ := hc
      clear hm h1
      go_enter Try.func16, Try.ntmps16
      go_wp2_with fail
      refine (areElements_any p _ 1 1 (one a) true _ hp (hasOne w a) (by omega) HQ.out).mono ?_
      rintro e w' ⟨rfl, rfl⟩
      go_wp2_with fail
      refine (powerOf_any p a N ry _ p2 p251 a0 a1 (by omega) H1.out).mono ?_
      rintro e w' ⟨rfl, rfl⟩
      go_wp2_with fail
      go_ret2
      exact ⟨rfl, belowNew _ _⟩
    · rw [decide_eq_false hc, if_neg (by simp)] at hm
      obtain ⟨rfl, rfl⟩ := Prod.mk.inj hm
      clear hm
      by_cases n0 : n < 0
      · clear hc
        go_enter Try.func16, Try.ntmps16
        go_wp2_with fail
        refine (areElements_any p _ 1 1 (one a) true _ hp (hasOne w a) (by omega) HQ.out).mono ?_
        rintro e w' ⟨rfl, rfl⟩
        go_wp2_with fail
        go_ret2
        exact ⟨rfl, belowNew _ _⟩
      · have n1 : 0 ≤ n := by omega
        have n2 : 1000000 < n := by omega
        clear hc n0
        go_enter Try.func16, Try.ntmps16
        go_wp2_with fail
        refine (areElements_any p _ 1 1 (one a) true _ hp (hasOne w a) (by omega) HQ.out).mono ?_
        rintro e w' ⟨rfl, rfl⟩
        go_wp2_with fail
        go_ret2
        exact ⟨rfl, belowNew _ _⟩

set_option maxHeartbeats 1000000 in
theorem impl_InverseMod (p a : Int) (ry : Int) (rb : Bool) (w : World) (hp : I64 p) (_ha : I64 a) (hm : m_InverseMod p a = (ry, rb)) :
    Calls Try.prog 12 #[.int .i64 p, .int .i64 a] w fun e w' => e = .returned (.tuple #[.int .i64 ry, .bool rb]) ∧ Below w.heap.size w w' := by
  cases hq : elsIn p (one a) with
  | false =>
    rw [m_InverseMod, hq, Bool.false_and, if_neg (by simp)] at hm
    obtain ⟨rfl, rfl⟩ := Prod.mk.inj hm
    have HQ := Lib.hid hq
    clear hq hm
    go_enter Try.func12, Try.ntmps12
    go_wp2_with fail
    refine (areElements_any p _ 1 1 (one a) false _ hp (hasOne w a) (by omega) HQ.out).mono ?_
    rintro e w' ⟨rfl, rfl⟩
    go_wp2_with fail
    go_ret2
    exact ⟨rfl, belowNew _ _⟩
  | true =>
    rw [m_InverseMod, hq, Bool.true_and] at hm
    obtain ⟨hpr, p2, p251, a0, a1⟩ := elsOne_yes hq
    have HQ := Lib.hid hq
    have HP := Lib.hid hpr
    clear hq hpr
    by_cases hc : a = 0
    · subst hc
      rw [if_neg (by simp)] at hm
      obtain ⟨rfl, rfl⟩ := Prod.mk.inj hm
      clear hm
      go_enter Try.func12, Try.ntmps12
      go_wp2_with fail
      refine (areElements_any p _ 1 1 (one 0) true _ hp (hasOne w 0) (by omega) HQ.out).mono ?_
      rintro e w' ⟨rfl, rfl⟩
      go_wp2_with fail
      go_ret2
      exact ⟨rfl, belowNew _ _⟩
    · rw [decide_eq_true hc, if_pos rfl] at hm
      obtain ⟨h1, rfl⟩ := Prod.mk.inj hm
      have H1 := Lib.hid h1
      have hc' : (a == 0) = false := by simpa using hc
      clear hm h1
      go_enter Try.func12, Try.ntmps12
      go_wp2_with fail
      refine (areElements_any p _ 1 1 (one a) true _ hp (hasOne w a) (by omega) HQ.out).mono ?_
      rintro e w' ⟨rfl, rfl⟩
      go_wp2_with fail
      refine (implInv_any p a ry _ p2 p251 a0 a1 H1.out).mono ?_
      rintro e w' ⟨rfl, rfl⟩
      go_wp2_with fail
      go_ret2
      exact ⟨rfl, belowNew _ _⟩

set_option maxHeartbeats 1000000 in
theorem impl_DivideMod (p a b : Int) (ry : Int) (rb : Bool) (w : World) (hp : I64 p) (_ha : I64 a) (_hb : I64 b) (hm : m_DivideMod p a b = (ry, rb)) :
    Calls Try.prog 7 #[.int .i64 p, .int .i64 a, .int .i64 b] w fun e w' => e = .returned (.tuple #[.int .i64 ry, .bool rb]) ∧ Below w.heap.size w w' := by
  cases hq : elsIn p (two a b) with
  | false =>
    rw [m_DivideMod, hq, Bool.false_and, if_neg (by simp)] at hm
    obtain ⟨rfl, rfl⟩ := Prod.mk.inj hm
    have HQ := Lib.hid hq
    clear hq hm
    go_enter Try.func7, Try.ntmps7
    go_wp2_with fail
    refine (areElements_any p _ 2 2 (two a b) false _ hp (hasTwo w a b) (by omega) HQ.out).mono ?_
    rintro e w' ⟨rfl, rfl⟩
    go_wp2_with fail
    go_ret2
    exact ⟨rfl, belowNew _ _⟩
  | true =>
    rw [m_DivideMod, hq, Bool.true_and] at hm
    obtain ⟨hpr, p2, p251, a0, a1, b0, b1⟩ := elsTwo_yes hq
    have HQ := Lib.hid hq
    have HP := Lib.hid hpr
    clear hq hpr
    by_cases hc : b = 0
    · subst hc
      rw [if_neg (by simp)] at hm
      obtain ⟨rfl, rfl⟩ := Prod.mk.inj hm
      clear hm
      go_enter Try.func7, Try.ntmps7
      go_wp2_with fail
      refine (areElements_any p _ 2 2 (two a 0) true _ hp (hasTwo w a 0) (by omega) HQ.out).mono ?_
      rintro e w' ⟨rfl, rfl⟩
      go_wp2_with fail
      go_ret2
      exact ⟨rfl, belowNew _ _⟩
    · rw [decide_eq_true hc, if_pos rfl] at hm
      obtain ⟨h1, rfl⟩ := Prod.mk.inj hm
      have H1 := Lib.hid h1
      have hc' : (b == 0) = false := by simpa using hc
      clear hm h1
      obtain ⟨i0, i1⟩ := powM_in (p := p) (a := b) (n := p.toNat - 2) (by omega)
      obtain ⟨z, hz⟩ : ∃ z, powM p b (p.toNat - 2) = z := ⟨_, rfl⟩
      rw [hz] at H1 i0 i1
      have HZ := Lib.hid hz
      clear hz
      obtain ⟨q0, q1⟩ := mulFits p251 a0 a1 i0 i1
      have tm := tmodPos (a := a * z) (b := p) q0
      go_enter Try.func7, Try.ntmps7
      go_wp2_with fail
      refine (areElements_any p _ 2 2 (two a b) true _ hp (hasTwo w a b) (by omega) HQ.out).mono ?_
      rintro e w' ⟨rfl, rfl⟩
      go_wp2_with fail
      refine (implInv_any p b z _ p2 p251 b0 b1 HZ.out).mono ?_
      rintro e w' ⟨rfl, rfl⟩
      go_wp2_with fail
      go_ret2
      obtain rfl := H1.out
      exact ⟨rfl, belowNew _ _⟩

set_option maxHeartbeats 1000000 in
theorem impl_OrderMod (p a : Int) (ry : Int) (rb : Bool) (w : World) (hp : I64 p) (_ha : I64 a) (hm : m_OrderMod p a = (ry, rb)) :
    Calls Try.prog 14 #[.int .i64 p, .int .i64 a] w fun e w' => e = .returned (.tuple #[.int .i64 ry, .bool rb]) ∧ Below w.heap.size w w' := by
  cases hq : elsIn p (one a) with
  | false =>
    rw [m_OrderMod, hq, Bool.false_and, if_neg (by simp)] at hm
    obtain ⟨rfl, rfl⟩ := Prod.mk.inj hm
    have HQ := Lib.hid hq
    clear hq hm
    go_enter Try.func14, Try.ntmps14
    go_wp2_with fail
    refine (areElements_any p _ 1 1 (one a) false _ hp (hasOne w a) (by omega) HQ.out).mono ?_
    rintro e w' ⟨rfl, rfl⟩
    go_wp2_with fail
    go_ret2
    exact ⟨rfl, belowNew _ _⟩
  | true =>
    rw [m_OrderMod, hq, Bool.true_and] at hm
    obtain ⟨hpr, p2, p251, a0, a1⟩ := elsOne_yes hq
    have HQ := Lib.hid hq
    have HP := Lib.hid hpr
    clear hq hpr
    by_cases hc : a = 0
    · subst hc
      rw [if_neg (by simp)] at hm
      obtain ⟨rfl, rfl⟩ := Prod.mk.inj hm
      clear hm
      go_enter Try.func14, Try.ntmps14
      go_wp2_with fail
      refine (areElements_any p _ 1 1 (one 0) true _ hp (hasOne w 0) (by omega) HQ.out).mono ?_
      rintro e w' ⟨rfl, rfl⟩
      go_wp2_with fail
      go_ret2
      exact ⟨rfl, belowNew _ _⟩
    · rw [decide_eq_true hc, if_pos rfl] at hm
      obtain ⟨h1, rfl⟩ := Prod.mk.inj hm
      have H1 := Lib.hid h1
      have hc' : (a == 0) = false := by simpa using hc
      have ha0 : 0 < a := by omega
      clear hm h1
      go_enter Try.func14, Try.ntmps14
      go_wp2_with fail
      refine (areElements_any p _ 1 1 (one a) true _ hp (hasOne w a) (by omega) HQ.out).mono ?_
      rintro e w' ⟨rfl, rfl⟩
      go_wp2_with fail
      go_loop [6, 7] (fun i v => ∃ (k : Nat) (x : Int), (k : Int) + 1 < p ∧ i = .int .i64 ((k : Int) + 1) ∧ v = .int .i64 x ∧ 0 ≤ x ∧ x < p ∧ Hid (x = powM p a (k + 1)) ∧ Hid (∀ j, j < k → powM p a (j + 1) ≠ 1)) (fun i _ => 251 - (intOf i).toNat)
      case atStart => exact ⟨0, a, by omega, by simp, rfl, a0, a1, (powM_one a0 a1).symm, fun j hj => absurd hj (by omega)⟩
      case round =>
        obtain ⟨k, x, hk, rfl, rfl, x0, x1, HX, HJ⟩ := hrel
        by_cases hx : x = 1
        · subst hx
          go_wp2
          go_ret2
          have e := H1.out
          rw [ordGo_eq HX.out.symm HJ.out k 251 0 (by omega) (by omega)] at e
          subst e
          exact ⟨rfl, belowNew _ _⟩
        · obtain ⟨m0, m1⟩ := mulFits p251 x0 x1 a0 a1
          have tm := tmodPos (a := x * a) (b := p) m0
          obtain ⟨e0, e1⟩ := modIn (a := x * a) p2
          have hx' : (x != 1) = true := by simpa using hx
          have HK : ∀ j, j < k + 1 → powM p a (j + 1) ≠ 1 := by
            intro j hj
            by_cases e : j = k
            · rw [e, ← HX.out]; exact hx
            · exact HJ.out j (by omega)
          have hend := ordEnds HP.out ha0 a1 HK
          have HK := Lib.hid HK
          clear hx
          go_wp2
          go_round
          case rel => exact ⟨k + 1, _, by omega, by go_num, rfl, e0, e1, by show _ = _; rw [HX.out, powM_succ p a (k + 1) p2], HK⟩
          case measure => simp [intOf]; omega

end Go.Proofs.Ytkmnhdnifpglnaa
