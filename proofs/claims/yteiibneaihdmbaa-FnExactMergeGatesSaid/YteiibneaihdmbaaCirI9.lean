/- The program's depths: DepthOf. For every circuit of at most 1048576 gates and outs. -/
import Derived.Test.YteiibneaihdmbaaCirIA
import Derived.Test.YteiibneaihdmbaaCirG7
namespace Go.Proofs.Yteiibneaihdmbaa
open Go.RowKit
set_option maxRecDepth 100000

set_option maxHeartbeats 1000000 in
theorem wiresRead_any (x y z : Int) (w : World) :
    Calls Try.prog 154 #[.agg #[.int .i64 x, .int .i64 y, .int .i64 z]] w fun e w' => ∃ R m c', e = .returned (.slice R m c') ∧ Own w' w.heap.size R m c' (partsOf (x, y, z)) ∧ m ≤ 2 ∧ Below w.heap.size w w' := by
  have B1 := belowNew w (.cells #[.int .i64 x, .int .i64 y, .int .i64 z] 69)
  obtain ⟨W1, hW1⟩ : ∃ W, W = w.alloc (.cells #[.int .i64 x, .int .i64 y, .int .i64 z] 69) := ⟨_, rfl⟩
  have s1 : W1.heap.size = w.heap.size + 1 := by rw [hW1]; simp
  rw [← hW1] at B1
  by_cases c0 : x = 0 ∨ x = 1
  · have e : partsOf (x, y, z) = [y, z] := if_pos c0
    rw [e]
    have own2 : Own (W1.alloc (.cells #[.int .i64 y, .int .i64 z] 3)) W1.heap.size (some ⟨W1.heap.size, 0, none⟩) 2 2 [y, z] := ⟨rfl, World.ownsRow_lit W1 #[.int .i64 y, .int .i64 z] 2 (Nat.le_refl _) (by decide) rfl⟩
    have B2 := B1.trans ((belowNew W1 (.cells #[.int .i64 y, .int .i64 z] 3)).mono B1.size)
    have HO := Lib.hid (own2.mono B1.size)
    rw [hW1] at HO B2
    clear own2
    rcases c0 with rfl | rfl
    all_goals
      go_enter Try.func154, Try.ntmps154
      go_wp2_with fail
      go_ret
      rw [← hW1] at HO B2 ⊢
      exact ⟨_, 2, 2, by rw [← s1]; rfl, HO.out, by omega, B2⟩
  · by_cases c2 : x = 2
    · have e : partsOf (x, y, z) = [y] := by rw [partsOf, if_neg c0, if_pos c2]
      rw [e]
      have own2 : Own (W1.alloc (.cells #[.int .i64 y] 3)) W1.heap.size (some ⟨W1.heap.size, 0, none⟩) 1 1 [y] := ⟨rfl, World.ownsRow_lit W1 #[.int .i64 y] 1 (Nat.le_refl _) (by decide) rfl⟩
      have B2 := B1.trans ((belowNew W1 (.cells #[.int .i64 y] 3)).mono B1.size)
      have HO := Lib.hid (own2.mono B1.size)
      rw [hW1] at HO B2
      clear own2 c0
      subst c2
      go_enter Try.func154, Try.ntmps154
      go_wp2_with fail
      go_ret
      rw [← hW1] at HO B2 ⊢
      exact ⟨_, 1, 1, by rw [← s1]; rfl, HO.out, by omega, B2⟩
    · have e : partsOf (x, y, z) = [] := by rw [partsOf, if_neg c0, if_neg c2]
      rw [e]
      have x0 : x ≠ 0 := fun e => c0 (.inl e)
      have x1 : x ≠ 1 := fun e => c0 (.inr e)
      rw [hW1] at B1
      clear c0 hW1 s1
      go_enter Try.func154, Try.ntmps154
      go_wp2_with fail
      go_ret
      exact ⟨none, 0, 0, rfl, Own.nil_ _ _, by omega, B1⟩

theorem mapTo_take (f : Nat → Int) {n N : Nat} (h : n ≤ N) : (mapTo f N).take n = mapTo f n := by
  unfold mapTo
  rw [← List.map_take, List.take_range, Nat.min_eq_left h]

/-- make([]int, n, N): what it gives in whatever world. -/
theorem makeRun (L M : Int) (n N : Nat) (hL : L = (n : Int)) (hM : M = (N : Int)) (hnN : n ≤ N) (hN : N ≤ 16777216) :
    ∃ cs : Array Value, (∀ W : World, (Instr.makeSlice 23 (.int .i64 L) (.int .i64 M)).run Try.prog W = .ok (.slice (some ⟨W.heap.size, 0, none⟩) n N) (W.alloc (.cells cs 3))) ∧
      ∀ W : World, Own (W.alloc (.cells cs 3)) W.heap.size (some ⟨W.heap.size, 0, none⟩) n N (mapTo (fun _ => 0) n) := by
  obtain ⟨i0, hi, hz0, hz1, hz2⟩ := info_parts infoInt
  subst hL hM
  refine ⟨madeCells (Value.int .i64 0).cells (N * 1), fun W => ?_, fun W => ⟨mapTo_length _ _, ?_⟩⟩
  · have hr := run_make (P := Try.prog) W 23 3 i0 (.int .i64 0) Try.underlying23 hi hz0 .i64 .i64 (n : Int) (N : Int) (by omega) (by omega) (by rw [hz2]; omega) (by omega)
    simpa only [Int.toNat_natCast, hz1] using hr
  · refine ⟨by rw [vals_length, mapTo_length]; omega, .inr ⟨W.heap.size, N, _, rfl, Nat.le_refl _, heap_alloc_new W _, hnN, by simp only [maxLen]; omega, by rw [size_madeCells], ?_⟩⟩
    rw [zeroCells, Nat.mul_one, vals, ← List.map_take, mapTo_take _ hnN]
    rfl

end Go.Proofs.Yteiibneaihdmbaa
