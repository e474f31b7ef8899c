/- The model's depths of wires. For valid circuits. -/
import Derived.Test.YteiibneaihdmbaaCirM3
import Derived.Test.YteiibneaihdmbaaCirG3
import Derived.Deep.DeepCutAuto
namespace Go.Proofs.Yteiibneaihdmbaa
open Go.RowKit
set_option maxRecDepth 100000

set_option maxHeartbeats 400000 in
theorem l1Most_any (a b : Int) (w : World) : Calls Try.prog 97 #[.int .i64 a, .int .i64 b] w fun e w' => e = .returned (.int .i64 (mostOf a b)) ∧ w = w' := by
  by_cases h : a > b
  · have e : mostOf a b = a := if_pos h
    rw [e]
    go_enter Try.func97, Try.ntmps97
    go_wp2
    go_ret
    exact ⟨rfl, rfl⟩
  · have e : mostOf a b = b := if_neg h
    rw [e]
    go_enter Try.func97, Try.ntmps97
    go_wp2
    go_ret
    exact ⟨rfl, rfl⟩

set_option maxHeartbeats 1000000 in
theorem ciParts_any (x y z : Int) (w : World) :
    Calls Try.prog 170 #[.agg #[.int .i64 x, .int .i64 y, .int .i64 z]] w fun e w' => ∃ R m c', e = .returned (.slice R m c') ∧ Own w' w.heap.size R m c' (partsOf (x, y, z)) ∧ m ≤ 2 ∧ Below w.heap.size w w' := by
  have B1 := belowNew w (.cells #[.int .i64 x, .int .i64 y, .int .i64 z] 69)
  obtain ⟨W1, hW1⟩ : ∃ W, W = w.alloc (.cells #[.int .i64 x, .int .i64 y, .int .i64 z] 69) := ⟨_, rfl⟩
  have s1 : W1.heap.size = w.heap.size + 1 := by rw [hW1]; simp
  rw [← hW1] at B1
  by_cases c0 : x = 0 ∨ x = 1
  · have e : partsOf (x, y, z) = [y, z] := if_pos c0
    rw [e]
    have own2 : Own (W1.alloc (.cells #[.int .i64 y, .int .i64 z] 3)) W1.heap.size (some ⟨W1.heap.size, 0, none⟩) 2 2 [y, z] := ⟨rfl, World.ownsRow_lit W1 #[.int .i64 y, .int .i64 z] 2 (Nat.le_refl _) (by decide) rfl⟩
    have B2 := B1.trans ((belowNew W1 (.cells #[.int .i64 y, .int .i64 z] 3)).mono B1.size)
    have HO := Lib.hid (own2.mono B1.size)
    rw [hW1] at HO B2
    clear own2
    rcases c0 with rfl | rfl
    all_goals
      go_enter Try.func170, Try.ntmps170
      go_wp2_with fail
      go_ret
      rw [← hW1] at HO B2 ⊢
      exact ⟨_, 2, 2, by rw [← s1]; rfl, HO.out, by omega, B2⟩
  · by_cases c2 : x = 2
    · have e : partsOf (x, y, z) = [y] := by rw [partsOf, if_neg c0, if_pos c2]
      rw [e]
      have own2 : Own (W1.alloc (.cells #[.int .i64 y] 3)) W1.heap.size (some ⟨W1.heap.size, 0, none⟩) 1 1 [y] := ⟨rfl, World.ownsRow_lit W1 #[.int .i64 y] 1 (Nat.le_refl _) (by decide) rfl⟩
      have B2 := B1.trans ((belowNew W1 (.cells #[.int .i64 y] 3)).mono B1.size)
      have HO := Lib.hid (own2.mono B1.size)
      rw [hW1] at HO B2
      clear own2 c0
      subst c2
      go_enter Try.func170, Try.ntmps170
      go_wp2_with fail
      go_ret
      rw [← hW1] at HO B2 ⊢
      exact ⟨_, 1, 1, by rw [← s1]; rfl, HO.out, by omega, B2⟩
    · have e : partsOf (x, y, z) = [] := by rw [partsOf, if_neg c0, if_neg c2]
      rw [e]
      have x0 : x ≠ 0 := fun e => c0 (.inl e)
      have x1 : x ≠ 1 := fun e => c0 (.inr e)
      rw [hW1] at B1
      clear c0 hW1 s1
      go_enter Try.func170, Try.ntmps170
      go_wp2_with fail
      go_ret
      exact ⟨none, 0, 0, rfl, Own.nil_ _ _, by omega, B1⟩

theorem mostAt_step (d : List Int) (m : Int) (is : List Int) (j : Nat) (hj : j < is.length) : mostAt d m (is.take (j + 1)) = mostOf (mostAt d m (is.take j)) (d.getD (is.getD j 0).toNat 0) := by
  rw [List.take_add_one, List.getElem?_eq_getElem hj, mostAt, mostAt, List.foldl_append]
  simp [List.getD, List.getElem?_eq_getElem hj]
theorem partsOf_in {n x y z : Int} (h : gateOk n (x, y, z) = true) : ∀ j, j < (partsOf (x, y, z)).length → 0 ≤ (partsOf (x, y, z)).getD j 0 ∧ (partsOf (x, y, z)).getD j 0 < n := by
  rcases gateOk_yes h with ⟨hx, hy, hz⟩ | ⟨rfl, hy, _⟩ | ⟨rfl, _, _⟩
  · rw [partsOf, if_pos hx]
    intro j hj
    match j, hj with
    | 0, _ => exact hy
    | 1, _ => exact hz
  · intro j hj
    match j, hj with
    | 0, _ => exact hy
  · intro j hj
    exact absurd hj (by simp [partsOf])

end Go.Proofs.Yteiibneaihdmbaa
