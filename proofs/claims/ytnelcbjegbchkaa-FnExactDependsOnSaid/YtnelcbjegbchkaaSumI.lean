/- The model's sums of lists of small numbers. For lists of at most 16777216 numbers. -/
import Derived.Test.YtnelcbjegbchkaaGen1
import Derived.Deep.DeepCutAuto
namespace Go.Proofs.Ytnelcbjegbchkaa
open Go Go.RowKit
set_option maxRecDepth 100000

/-! ## sums -/
def lsumTo (zs : List Int) : Nat → Int
  | 0 => 0
  | k + 1 => lsumTo zs k + zs.getD k 0
theorem lsumTo_eq (zs : List Int) : ∀ k, k ≤ zs.length → lsumTo zs k = (zs.take k).sum
  | 0, _ => by simp [lsumTo]
  | k + 1, h => by
    rw [lsumTo, lsumTo_eq zs k (by omega), List.take_add_one, List.getElem?_eq_getElem (by omega), Option.toList_some, List.sum_append]
    simp [List.getD_eq_getElem?_getD, List.getElem?_eq_getElem (show k < zs.length by omega)]
theorem lsumTo_all (zs : List Int) : lsumTo zs zs.length = zs.sum := by rw [lsumTo_eq zs _ (Nat.le_refl _), List.take_length]
theorem lsumTo_range {zs : List Int} {b : Int} (h : ∀ k, 0 ≤ zs.getD k 0 ∧ zs.getD k 0 ≤ b) : ∀ k : Nat, 0 ≤ lsumTo zs k ∧ lsumTo zs k ≤ b * k
  | 0 => by simp [lsumTo]
  | k + 1 => by
    have := lsumTo_range h k
    have := h k
    rw [lsumTo, Int.natCast_add, Int.mul_add]
    omega

set_option maxHeartbeats 1000000 in
theorem laSum_any (A : Option Addr) (n c : Nat) (zs : List Int) (w : World) (h : Has w A n zs) (hn : n ≤ 16777216) (hz : ∀ k, 0 ≤ zs.getD k 0 ∧ zs.getD k 0 ≤ 1000) :
    Calls Try.prog 111 #[.slice A n c] w fun e w' => e = .returned (.int .i64 zs.sum) ∧ w = w' := by
  have HH := Lib.hid h
  have HL : Hid (zs.length = n) := h.1
  have HZ := Lib.hid hz
  clear h hz
  go_enter Try.func111, Try.ntmps111
  go_wp2_with fail
  go_loop [3, 8] (fun q i => ∃ k : Nat, k ≤ n ∧ i = .int .i64 k ∧ q = .int .i64 (lsumTo zs k)) (fun _ i => n - (intOf i).toNat)
  case atStart => exact ⟨0, Nat.zero_le _, rfl, rfl⟩
  case round =>
    obtain ⟨k, hk, rfl, rfl⟩ := hrel
    have hs := lsumTo_range HZ.out k
    by_cases hlt : k < n
    · obtain ⟨ad, z, rfl, hc, HE⟩ := HH.out.elem hlt
      have hr := HZ.out k
      rw [← HE.out] at hr
      have HS : Hid (lsumTo zs (k + 1) = lsumTo zs k + z) := by show _ = _; rw [lsumTo, HE.out]
      obtain ⟨y, hy⟩ : ∃ y, lsumTo zs k = y := ⟨_, rfl⟩
      rw [hy] at hs HS ⊢
      obtain ⟨s0, s1⟩ := hs
      obtain ⟨r0, r1⟩ := hr
      have hw1 : IntKind.i64.wrap (y + z) = y + z := wrapIn (by omega) (by omega)
      have k0 : (0 : Int) ≤ (k : Int) := by omega
      have k1 : (k : Int) < (n : Int) := by omega
      clear hy
      go_wp2_with fail
      go_round
      case rel => exact ⟨k + 1, by omega, by go_num, by rw [HS.out]⟩
      case measure => simp [intOf]; omega
    · obtain rfl : k = n := by omega
      have HF : Hid (lsumTo zs k = zs.sum) := by show _ = _; rw [← HL.out, lsumTo_all]
      clear hs
      go_wp2_with fail
      go_ret
      exact ⟨retI HF.out, rfl⟩

end Go.Proofs.Ytnelcbjegbchkaa
