/- The program's tests of numbers and of gates; its number of wires. For circuits of at most 1048576 gates and outs. -/
import Derived.Test.YtaohgbkhmgfnhaaCirM1
import Derived.Test.YtaohgbkhmgfnhaaCirG1
import Derived.Deep.RegionHeld3
import Derived.Deep.DeepCutAuto
namespace Go.Proofs.Ytaohgbkhmgfnhaa
open Go.RowKit
set_option maxRecDepth 100000

set_option maxHeartbeats 400000 in
theorem isBelow_any (n l : Int) (b : Bool) (w : World) (hb : (decide (0 ≤ n) && decide (n < l)) = b) :
    Calls Try.prog 43 #[.int .i64 n, .int .i64 l] w fun e w' => e = .returned (.bool b) ∧ w = w' := by
  subst hb
  by_cases h1 : 0 ≤ n
  · by_cases h2 : n < l
    · go_enter Try.func43, Try.ntmps43
      go_wp2
      go_ret
      exact ⟨by simp [h1, h2], rfl⟩
    · go_enter Try.func43, Try.ntmps43
      go_wp2
      go_ret
      exact ⟨by simp; omega, rfl⟩
  · go_enter Try.func43, Try.ntmps43
    go_wp2
    go_ret
    exact ⟨by simp; omega, rfl⟩

theorem wireOk_lt (n z : Int) : (decide (0 ≤ z) && decide (z < n)) = wireOk n z := by
  unfold wireOk
  congr 1
  exact decide_eq_decide.2 (by omega)

set_option maxHeartbeats 1000000 in
theorem isGate_any (x y z n : Int) (b : Bool) (w : World) (hb : gateOk n (x, y, z) = b) :
    Calls Try.prog 44 #[.agg #[.int .i64 x, .int .i64 y, .int .i64 z], .int .i64 n] w fun e w' => e = .returned (.bool b) ∧ Below w.heap.size w w' := by
  have B1 := belowNew w (.cells #[.int .i64 x, .int .i64 y, .int .i64 z] 51)
  have HL : Hid (∀ (q : Int) (w : World), Calls Try.prog 43 #[.int .i64 q, .int .i64 n] w fun e w' => e = .returned (.bool (wireOk n q)) ∧ w = w') := fun q w => isBelow_any q n _ w (wireOk_lt n q)
  by_cases c0 : x = 0 ∨ x = 1
  · have hb' : (wireOk n y && wireOk n z) = b := by rw [← hb, gateOk, if_pos c0]
    have HB := Lib.hid hb'
    clear hb hb'
    cases hy : wireOk n y with
    | false =>
      have e : b = false := by rw [← HB.out, hy, Bool.false_and]
      subst e
      rcases c0 with rfl | rfl
      all_goals
        go_enter Try.func44, Try.ntmps44
        go_wp2_with fail
        refine (HL.out y _).mono ?_
        rintro e w1 ⟨rfl, rfl⟩
        rw [hy]
        go_wp2_with fail
        go_ret
        exact ⟨rfl, B1⟩
    | true =>
      have e : b = wireOk n z := by rw [← HB.out, hy, Bool.true_and]
      subst e
      rcases c0 with rfl | rfl
      all_goals
        go_enter Try.func44, Try.ntmps44
        go_wp2_with fail
        refine (HL.out y _).mono ?_
        rintro e w1 ⟨rfl, rfl⟩
        rw [hy]
        go_wp2_with fail
        refine (HL.out z _).mono ?_
        rintro e w1 ⟨rfl, rfl⟩
        go_wp2_with fail
        go_ret
        exact ⟨rfl, B1⟩
  · by_cases c2 : x = 2
    · have hb' : (wireOk n y && decide (z = 0)) = b := by rw [← hb, gateOk, if_neg c0, if_pos c2]
      have HB := Lib.hid hb'
      clear hb hb' c0
      subst c2
      cases hy : wireOk n y with
      | false =>
        have e : b = false := by rw [← HB.out, hy, Bool.false_and]
        subst e
        go_enter Try.func44, Try.ntmps44
        go_wp2_with fail
        refine (HL.out y _).mono ?_
        rintro e w1 ⟨rfl, rfl⟩
        rw [hy]
        go_wp2_with fail
        go_ret
        exact ⟨rfl, B1⟩
      | true =>
        have e : b = decide (z = 0) := by rw [← HB.out, hy, Bool.true_and]
        subst e
        go_enter Try.func44, Try.ntmps44
        go_wp2_with fail
        refine (HL.out y _).mono ?_
        rintro e w1 ⟨rfl, rfl⟩
        rw [hy]
        go_wp2_with fail
        go_ret
        exact ⟨by congr 2, B1⟩
    · have hb' : decide ((x, y, z) = ((3, 0, 0) : Ga)) = b := by rw [← hb, gateOk, if_neg c0, if_neg c2]
      have HB := Lib.hid hb'
      have x0 : x ≠ 0 := fun e => c0 (.inl e)
      have x1 : x ≠ 1 := fun e => c0 (.inr e)
      clear hb hb' c0
      go_enter Try.func44, Try.ntmps44
      go_wp2_with fail
      all_goals
        go_ret
        refine ⟨?_, belowNew w _⟩
        have hbb := HB.out
        clear HB HL B1
        rw [← hbb]
        simp_all
        try exact hbb

set_option maxHeartbeats 1000000 in
theorem wiresIn_any (v : Value) (C : Ci) (w : World) (h : HasC w v C) (h0 : 0 ≤ C.in0) (h1 : C.in0 ≤ 1000) (h2 : 0 ≤ C.in1) (h3 : C.in1 ≤ 1000) (hl : C.gs.length ≤ 1048576) :
    Calls Try.prog 47 #[v] w fun e w' => e = .returned (.int .i64 C.wires) ∧ Below w.heap.size w w' := by
  obtain ⟨G, n, c, O, m, d, rfl, hG, hO, h5⟩ := h
  have hgl := hG.1
  have hw : C.in0 + C.in1 + (n : Int) = C.wires := by rw [Ci.wires, hgl]
  have w1 : IntKind.i64.wrap (C.in0 + C.in1) = C.in0 + C.in1 := wrapIn (by omega) (by omega)
  have w2 : IntKind.i64.wrap (C.in0 + C.in1 + (n : Int)) = C.in0 + C.in1 + (n : Int) := wrapIn (by omega) (by omega)
  have B1 := belowNew w (.cells #[.int .i64 C.in0, .int .i64 C.in1, .slice G n c, .slice O m d] 30)
  have HW := Lib.hid hw
  clear hw hG hO h5
  go_enter Try.func47, Try.ntmps47
  go_wp2
  go_ret
  exact ⟨retI HW.out, B1⟩

end Go.Proofs.Ytaohgbkhmgfnhaa
