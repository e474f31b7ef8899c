/- What the model's digest does, and the functions of chapter 3 of the model that give numbers or bits. For lists of at most 12 words. -/
import Derived.Test.YtjalpankapakkaaDoorDg1
namespace Go.Proofs.YtjalpankapakkaaDoor
open Go.RowKit

set_option maxHeartbeats 2000000 in
theorem dgMix_any (A : Option Addr) (n c : Nat) (zs : List Int) (w : World) (h : Has w A n zs) (hnil : NilOk A n c) (hz : words 12 zs = true) :
    Calls Tryd.prog 48 #[.slice A n c] w fun e w' => e = .returned (.int .i64 (dg zs)) ∧ Below w.heap.size w w' := by
  have hL := h.1
  obtain ⟨hn0, hw0⟩ := words_yes hz
  have hn : n ≤ 12 := by omega
  have HW : Hid (∀ k, k < n + 2 → -1000000000 ≤ (zs ++ [8, 1]).getD k 0 ∧ (zs ++ [8, 1]).getD k 0 ≤ 1000000000) := by
    have h2 : words 2 [8, 1] = true := by decide
    have := (words_yes (words_append hz h2)).2
    rw [List.length_append, hL] at this
    exact this
  have HS : Hid (40503 + (zs.length : Int) = 40503 + (n : Int)) := by show _ = _; rw [hL]
  have HD : Hid (stirs (40503 + (n : Int)) (zs ++ [8, 1]) % 65536 = dg zs) := by show _ = _; rw [dg, hL]
  have HN : Hid ((zs ++ [8, 1]).length = n + 2) := by show _ = _; rw [List.length_append, hL]; rfl
  clear hn0 hw0 hL
  go_enter Tryd.func48, Tryd.ntmps48
  go_wp2_with fail
  refine (l1Own_all A n c zs _ h (by omega) hnil).mono ?_
  rintro e w1 ⟨R, c1, rfl, ho, hb⟩
  have s1 := hb.size
  have hLit := litHas (w := w1) (vs := #[.int .i64 8, .int .i64 1]) (zs := [8, 1]) (n := 2) rfl rfl
  have own1 := (ho.below (belowNew w1 (.cells #[.int .i64 8, .int .i64 1] 3))).2
  have sz : w.heap.size ≤ (w1.alloc (.cells #[.int .i64 8, .int .i64 1] 3)).heap.size := by simp; omega
  go_wp2_with (at_builtin; refine appendMany _ rfl (.tmp 10) (.tmp 11) rfl w.heap.size _ _ n 2 2 zs [8, 1] rfl own1 rfl (fun e => by cases e) hLit (by omega) (by omega) sz ?_; intro v2 w2 own2 b2; obtain ⟨R2, c2, rfl, ho2⟩ := ownOf own2)
  have hR2 := ho2.has
  have B2 : Below w.heap.size w w2 := (hb.trans ((belowNew w1 _).mono s1)).trans b2
  go_loop [3, 14] (fun a i => ∃ k : Nat, k ≤ n + 2 ∧ i = .int .i64 k ∧ ∃ x : Int, a = .int .i64 x ∧ 0 ≤ x ∧ x < 1000003 ∧ Hid (x = stirs (40503 + (n : Int)) ((zs ++ [8, 1]).take k))) (fun _ i => n + 2 - (intOf i).toNat)
  case atStart => exact ⟨0, Nat.zero_le _, rfl, _, rfl, by omega, by omega, rfl⟩
  case round =>
    obtain ⟨k, hk, rfl, x, rfl, x0, x1, HX⟩ := hrel
    by_cases hlt : k < n + 2
    · obtain ⟨ad, z, rfl, hc, HZ⟩ := hR2.elem hlt
      obtain ⟨z0, z1⟩ : -1000000000 ≤ z ∧ z ≤ 1000000000 := by rw [HZ.out]; exact HW.out k hlt
      obtain ⟨b, hb'⟩ : ∃ b, (25214 * x + z + 17) % 1000003 = b := ⟨_, rfl⟩
      have b0 : 0 ≤ b := by rw [← hb']; exact Int.emod_nonneg _ (by decide)
      have b1 : b < 1000003 := by rw [← hb']; exact Int.emod_lt_of_pos _ (by decide)
      have HB := Lib.hid hb'
      obtain ⟨q, y, eq, ey, q0, q1, y0, y1, et, HY⟩ := stirHalf b b0 b1
      have r0 : 0 ≤ y % 1000003 := Int.emod_nonneg _ (by decide)
      have r1 : y % 1000003 < 1000003 := Int.emod_lt_of_pos _ (by decide)
      clear hb'
      go_wp2_with fail
      refine (modBig_any _ b _ (by omega) (by omega) HB.out).mono ?_
      rintro e w' ⟨rfl, rfl⟩
      go_wp2
      go_round
      case rel =>
        refine ⟨k + 1, by omega, by go_num, _, rfl, r0, r1, ?_⟩
        show _ = _
        rw [stirs_take _ _ (by rw [HN.out]; exact hlt), ← HX.out, ← HZ.out, HY.out, stir, HB.out]
      case measure => simp [intOf]; omega
    · obtain rfl : k = n + 2 := by omega
      have tm := tmodPos (a := x) (b := 65536) (by omega)
      go_wp2
      go_ret
      refine ⟨retI ?_, B2⟩
      rw [← HD.out, HX.out, List.take_of_length_le (by rw [HN.out]; exact Nat.le_refl _)]

end Go.Proofs.YtjalpankapakkaaDoor
