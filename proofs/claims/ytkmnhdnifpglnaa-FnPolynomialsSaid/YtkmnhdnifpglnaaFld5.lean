/- What EvalPoly does, the program's and the model's: the same value. For slices of at most 16777216 elements. -/
import Derived.Test.YtkmnhdnifpglnaaFld4
namespace Go.Proofs.Ytkmnhdnifpglnaa
open Go.RowKit

def m_EvalPoly (p : Int) (zs : List Int) (x : Int) : Int × Bool := if decide (zs.length ≤ 12) && elsIn p zs && elsIn p (one x) then (evM p x zs, true) else (0, false)

set_option maxHeartbeats 1000000 in
theorem impl_EvalPoly (p : Int) (A : Option Addr) (n c : Nat) (zs : List Int) (x : Int) (ry : Int) (rb : Bool) (w : World) (hp : I64 p) (h : Has w A n zs) (hn : n ≤ 16777216) (_hx : I64 x) (hm : m_EvalPoly p zs x = (ry, rb)) :
    Calls Try.prog 27 #[.int .i64 p, .slice A n c, .int .i64 x] w fun e w' => e = .returned (.tuple #[.int .i64 ry, .bool rb]) ∧ Below w.heap.size w w' := by
  have hl := h.1
  by_cases h12 : n ≤ 12
  · rw [m_EvalPoly, hl, decide_eq_true h12, Bool.true_and] at hm
    cases hq : elsIn p zs with
    | false =>
      rw [hq, Bool.false_and, if_neg (by simp)] at hm
      obtain ⟨rfl, rfl⟩ := Prod.mk.inj hm
      have HQ := Lib.hid hq
      clear hq hm hl
      go_enter Try.func27, Try.ntmps27
      go_wp2_with fail
      refine (areElements_any p A n c zs false _ hp h hn HQ.out).mono ?_
      rintro e w' ⟨rfl, rfl⟩
      go_wp2_with fail
      go_ret2
      exact ⟨rfl, Below.refl _ _⟩
    | true =>
      rw [hq, Bool.true_and] at hm
      have HQ := Lib.hid hq
      cases hx : elsIn p (one x) with
      | false =>
        rw [hx, if_neg (by simp)] at hm
        obtain ⟨rfl, rfl⟩ := Prod.mk.inj hm
        have HX := Lib.hid hx
        clear hq hm hl hx
        go_enter Try.func27, Try.ntmps27
        go_wp2_with fail
        refine (areElements_any p A n c zs true _ hp h hn HQ.out).mono ?_
        rintro e w' ⟨rfl, rfl⟩
        go_wp2_with fail
        refine (areElements_any p _ 1 1 (one x) false _ hp (hasOne w x) (by omega) HX.out).mono ?_
        rintro e w' ⟨rfl, rfl⟩
        go_wp2_with fail
        go_ret2
        exact ⟨rfl, belowNew _ _⟩
      | true =>
        rw [hx, if_pos rfl] at hm
        obtain ⟨h1, rfl⟩ := Prod.mk.inj hm
        have HX := Lib.hid hx
        have H1 := Lib.hid h1
        obtain ⟨_, p2, p251, x0, x1⟩ := elsOne_yes hx
        have HE := Lib.hid (elsIn_yes hq).2
        have hb := belowNew w (.cells #[.int .i64 x] 3)
        have h' := h.below hb
        clear hq hm hl hx h1
        go_enter Try.func27, Try.ntmps27
        go_wp2_with fail
        refine (areElements_any p A n c zs true _ hp h hn HQ.out).mono ?_
        rintro e w' ⟨rfl, rfl⟩
        go_wp2_with fail
        refine (areElements_any p _ 1 1 (one x) true _ hp (hasOne w x) (by omega) HX.out).mono ?_
        rintro e w' ⟨rfl, rfl⟩
        go_wp2_with fail
        refine (valueAt_any p A n c zs x ry _ p2 p251 x0 x1 h' hn HE.out H1.out).mono ?_
        rintro e w' ⟨rfl, hb'⟩
        go_wp2_with fail
        go_ret2
        exact ⟨rfl, hb.trans (hb'.mono (by simp))⟩
  · have e : rb = false ∧ ry = 0 := by
      rw [m_EvalPoly, hl, decide_eq_false h12, Bool.false_and, Bool.false_and, if_neg (by simp)] at hm
      obtain ⟨rfl, rfl⟩ := Prod.mk.inj hm
      exact ⟨rfl, rfl⟩
    obtain ⟨rfl, rfl⟩ := e
    clear hm hl
    go_enter Try.func27, Try.ntmps27
    go_wp2_with fail
    go_ret2
    exact ⟨rfl, Below.refl _ _⟩

set_option maxHeartbeats 1000000 in
theorem spec_EvalPoly (p : Int) (A : Option Addr) (n c : Nat) (zs : List Int) (x : Int) (ry : Int) (rb : Bool) (w : World) (hp : I64 p) (h : Has w A n zs) (hn : n ≤ 16777216) (_hx : I64 x) (hm : m_EvalPoly p zs x = (ry, rb)) :
    Calls Try.prog 35 #[.int .i64 p, .slice A n c, .int .i64 x] w fun e w' => e = .returned (.tuple #[.int .i64 ry, .bool rb]) ∧ Below w.heap.size w w' := by
  have hl := h.1
  have hb := belowNew w (.cells #[.int .i64 x] 3)
  have h' := h.below hb
  cases hx : elsIn p (one x) with
  | false =>
    rw [m_EvalPoly, hx, Bool.and_false, if_neg (by simp)] at hm
    obtain ⟨rfl, rfl⟩ := Prod.mk.inj hm
    have HX := Lib.hid hx
    clear hm hl hx
    go_enter Try.func35, Try.ntmps35
    go_wp2_with fail
    refine (fpIn_any p _ 1 1 (one x) false _ hp (hasOne w x) (by omega) HX.out).mono ?_
    rintro e w' ⟨rfl, rfl⟩
    go_wp2_with fail
    go_ret2
    exact ⟨rfl, belowNew _ _⟩
  | true =>
    obtain ⟨hpr, p2, p251, x0, x1⟩ := elsOne_yes hx
    have HX := Lib.hid hx
    rw [m_EvalPoly, hx, Bool.and_true, elsIn, hpr, Bool.true_and] at hm
    clear hx hpr
    cases hq : allIn 0 (p - 1) zs with
    | false =>
      rw [hq, Bool.and_false, if_neg (by simp)] at hm
      obtain ⟨rfl, rfl⟩ := Prod.mk.inj hm
      have HQ := Lib.hid hq
      clear hm hl hq
      go_enter Try.func35, Try.ntmps35
      go_wp2_with fail
      refine (fpIn_any p _ 1 1 (one x) true _ hp (hasOne w x) (by omega) HX.out).mono ?_
      rintro e w' ⟨rfl, rfl⟩
      go_wp2_with fail
      refine (l1All_any A n c zs 0 (p - 1) false _ h' hn HQ.out).mono ?_
      rintro e w' ⟨rfl, rfl⟩
      go_wp2_with fail
      go_ret2
      exact ⟨rfl, belowNew _ _⟩
    | true =>
      rw [hq, Bool.and_true, hl] at hm
      have HQ := Lib.hid hq
      by_cases h12 : n ≤ 12
      · rw [decide_eq_true h12, if_pos rfl] at hm
        obtain ⟨h1, rfl⟩ := Prod.mk.inj hm
        have H1 := Lib.hid h1
        have HE : Hid (∀ k, k < zs.length → 0 ≤ zs.getD k 0 ∧ zs.getD k 0 < p) := fun k hk => by have := allIn_yes hq k hk; omega
        clear hm hl hq h1
        go_enter Try.func35, Try.ntmps35
        go_wp2_with fail
        refine (fpIn_any p _ 1 1 (one x) true _ hp (hasOne w x) (by omega) HX.out).mono ?_
        rintro e w' ⟨rfl, rfl⟩
        go_wp2_with fail
        refine (l1All_any A n c zs 0 (p - 1) true _ h' hn HQ.out).mono ?_
        rintro e w' ⟨rfl, rfl⟩
        go_wp2_with fail
        refine (fpEval_any p A n c zs x ry _ p2 p251 x0 x1 h' hn HE.out H1.out).mono ?_
        rintro e w' ⟨rfl, rfl⟩
        go_wp2_with fail
        go_ret2
        exact ⟨rfl, belowNew _ _⟩
      · rw [decide_eq_false h12, if_neg (by simp)] at hm
        obtain ⟨rfl, rfl⟩ := Prod.mk.inj hm
        clear hm hl hq
        go_enter Try.func35, Try.ntmps35
        go_wp2_with fail
        refine (fpIn_any p _ 1 1 (one x) true _ hp (hasOne w x) (by omega) HX.out).mono ?_
        rintro e w' ⟨rfl, rfl⟩
        go_wp2_with fail
        refine (l1All_any A n c zs 0 (p - 1) true _ h' hn HQ.out).mono ?_
        rintro e w' ⟨rfl, rfl⟩
        go_wp2_with fail
        go_ret2
        exact ⟨rfl, belowNew _ _⟩

end Go.Proofs.Ytkmnhdnifpglnaa
