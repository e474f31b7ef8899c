/- What the program's InterpolateAt and PolyThrough answer: the model's values. For slices of at most 16777216 elements. -/
import Derived.Test.YtkmnhdnifpglnaaFld11
namespace Go.Proofs.Ytkmnhdnifpglnaa
open Go.RowKit

def m_PolyThrough (p : Int) (xs ys : List Int) : List Int × Bool := if ptsOk p xs ys then (sumM p xs ys xs.length xs.length, true) else ([], false)
theorem elsOneOf {p x : Int} (h : primeB p = true) (b : Bool) (hb : decide (0 ≤ x ∧ x ≤ p - 1) = b) : elsIn p (one x) = b := by
  rw [elsOne, h, Bool.true_and, ← hb]
  exact decide_eq_decide.2 (by omega)

set_option maxHeartbeats 2000000 in
theorem impl_InterpolateAt (p : Int) (A : Option Addr) (n c : Nat) (xs : List Int) (B : Option Addr) (m d : Nat) (ys : List Int) (x : Int) (ry : Int) (rb : Bool) (w : World) (hp : I64 p) (hx : Has w A n xs) (hn : n ≤ 16777216 ∧ n ≤ c) (hy : Has w B m ys) (hmm : m ≤ 16777216 ∧ m ≤ d) (_hx : I64 x) (hm : m_InterpolateAt p xs ys x = (ry, rb)) :
    Calls Try.prog 28 #[.int .i64 p, .slice A n c, .slice B m d, .int .i64 x] w fun e w' => e = .returned (.tuple #[.int .i64 ry, .bool rb]) ∧ Below w.heap.size w w' := by
  obtain ⟨hn, hnc⟩ := hn
  obtain ⟨hmm, _⟩ := hmm
  cases hq : ptsOk p xs ys with
  | false =>
    rw [m_InterpolateAt, hq, Bool.false_and, if_neg (by simp)] at hm
    obtain ⟨rfl, rfl⟩ := Prod.mk.inj hm
    have HQ := Lib.hid hq
    clear hm hq
    go_enter Try.func28, Try.ntmps28
    go_wp2_with fail
    refine (arePoints_any p A B n m c d xs ys false _ hp hx hy hn hmm hnc HQ.out).mono ?_
    rintro e w' ⟨rfl, rfl⟩
    go_wp2_with fail
    go_ret2
    exact ⟨rfl, Below.refl _ _⟩
  | true =>
    rw [m_InterpolateAt, hq, Bool.true_and] at hm
    obtain ⟨hpts, h12⟩ := ptsOk_yes hq
    have hl := hx.1
    have hly := hpts.ly
    rw [hl] at hpts hm hly h12
    have hym := hy.1
    obtain rfl : n = m := by omega
    have HQ := Lib.hid hq
    have HPT := Lib.hid hpts
    obtain ⟨p2, p251⟩ := hpts.two
    have hb0 := belowNew w (.cells #[.int .i64 x] 3)
    have hx' := hx.below hb0
    have hy' := hy.below hb0
    by_cases hc : 0 ≤ x ∧ x ≤ p - 1
    · rw [decide_eq_true hc, if_pos rfl, ← newIsAt hpts x] at hm
      obtain ⟨h1, rfl⟩ := Prod.mk.inj hm
      have H1 := Lib.hid h1
      have HE := Lib.hid (elsOneOf hpts.prime true (decide_eq_true hc))
      obtain ⟨x0, x1⟩ := hc
      clear hm hq hpts hl hly hym h1
      go_enter Try.func28, Try.ntmps28
      go_wp2_with fail
      refine (arePoints_any p A B n n c d xs ys true _ hp hx hy hn hmm hnc HQ.out).mono ?_
      rintro e w1 ⟨rfl, rfl⟩
      go_wp2_with fail
      refine (areElements_any p _ 1 1 (one x) true _ hp (hasOne w x) (by omega) HE.out).mono ?_
      rintro e w' ⟨rfl, rfl⟩
      go_wp2_with fail
      refine (polyThrough_any p A B n c d xs ys _ p2 p251 hx' hy' h12 HPT.out.inx HPT.out.iny).mono ?_
      rintro e w1 ⟨R, c', rfl, ho, hb1⟩
      go_wp2_with fail
      refine (valueAt_any p R n c' (newC p xs ys n) x ry w1 p2 p251 x0 (by omega) ho.has hn (newC_in p2 n) H1.out).mono ?_
      rintro e w2 ⟨rfl, hb2⟩
      go_wp2_with fail
      go_ret2
      have hb3 := hb0.trans (hb1.mono hb0.size)
      exact ⟨rfl, hb3.trans (hb2.mono hb3.size)⟩
    · rw [decide_eq_false hc, if_neg (by simp)] at hm
      obtain ⟨rfl, rfl⟩ := Prod.mk.inj hm
      have HE := Lib.hid (elsOneOf hpts.prime false (decide_eq_false hc))
      clear hm hq hpts hl hly hym hc
      go_enter Try.func28, Try.ntmps28
      go_wp2_with fail
      refine (arePoints_any p A B n n c d xs ys true _ hp hx hy hn hmm hnc HQ.out).mono ?_
      rintro e w1 ⟨rfl, rfl⟩
      go_wp2_with fail
      refine (areElements_any p _ 1 1 (one x) false _ hp (hasOne w x) (by omega) HE.out).mono ?_
      rintro e w' ⟨rfl, rfl⟩
      go_wp2_with fail
      go_ret2
      exact ⟨rfl, hb0⟩

set_option maxHeartbeats 2000000 in
theorem impl_PolyThrough (p : Int) (A : Option Addr) (n c : Nat) (xs : List Int) (B : Option Addr) (m d : Nat) (ys : List Int) (rs : List Int) (rb : Bool) (w : World) (hp : I64 p) (hx : Has w A n xs) (hn : n ≤ 16777216 ∧ n ≤ c) (hy : Has w B m ys) (hmm : m ≤ 16777216 ∧ m ≤ d) (hm : m_PolyThrough p xs ys = (rs, rb)) :
    Calls Try.prog 24 #[.int .i64 p, .slice A n c, .slice B m d] w fun e w' => ∃ R m' c', e = .returned (.tuple #[.slice R m' c', .bool rb]) ∧ Own w' w.heap.size R m' c' rs ∧ m' ≤ 16777216 ∧ Below w.heap.size w w' := by
  obtain ⟨hn, hnc⟩ := hn
  obtain ⟨hmm, _⟩ := hmm
  cases hq : ptsOk p xs ys with
  | false =>
    rw [m_PolyThrough, hq, if_neg (by simp)] at hm
    obtain ⟨rfl, rfl⟩ := Prod.mk.inj hm
    have HQ := Lib.hid hq
    clear hm hq
    go_enter Try.func24, Try.ntmps24
    go_wp2_with fail
    refine (arePoints_any p A B n m c d xs ys false _ hp hx hy hn hmm hnc HQ.out).mono ?_
    rintro e w' ⟨rfl, rfl⟩
    go_wp2_with fail
    go_ret2
    exact ⟨none, 0, 0, rfl, Own.nil_ _ _, by omega, Below.refl _ _⟩
  | true =>
    rw [m_PolyThrough, hq, if_pos rfl] at hm
    obtain ⟨hpts, h12⟩ := ptsOk_yes hq
    have hl := hx.1
    have hly := hpts.ly
    rw [hl] at hpts hm hly h12
    have hym := hy.1
    obtain rfl : n = m := by omega
    rw [← newIsSum hpts] at hm
    obtain ⟨h1, rfl⟩ := Prod.mk.inj hm
    have H1 := Lib.hid h1
    have HQ := Lib.hid hq
    have HPT := Lib.hid hpts
    obtain ⟨p2, p251⟩ := hpts.two
    clear hm hq hpts hl hly hym h1
    go_enter Try.func24, Try.ntmps24
    go_wp2_with fail
    refine (arePoints_any p A B n n c d xs ys true _ hp hx hy hn hmm hnc HQ.out).mono ?_
    rintro e w1 ⟨rfl, rfl⟩
    go_wp2_with fail
    refine (polyThrough_any p A B n c d xs ys _ p2 p251 hx hy h12 HPT.out.inx HPT.out.iny).mono ?_
    rintro e w1 ⟨R, c', rfl, ho, hb1⟩
    go_wp2_with fail
    go_ret2
    obtain rfl := H1.out
    exact ⟨R, n, c', rfl, ho, hn, hb1⟩

end Go.Proofs.Ytkmnhdnifpglnaa
