/- The helper of the law of streams that tells if a number is in a list, the lists of the chapter being such that no slice is nil and long. For every list of at most 16777216 numbers. -/
import Derived.Test.YtjalpankapakkaaDoorCur7
import Derived.Test.YtjalpankapakkaaDoorStrLaw
namespace Go.Proofs.YtjalpankapakkaaDoor
open Go.RowKit

set_option maxHeartbeats 400000 in
theorem pIn_any (A : Option Addr) (n c : Nat) (zs : List Int) (x : Int) (w : World) (h : Has w A n zs) (hn : n ≤ 16777216) (hx : x ∈ zs) :
    Calls Tryd.prog 13 #[.slice A n c, .int .i64 x] w fun e w' => e = .returned (.bool true) ∧ w = w' := by
  obtain ⟨q, hq, hqx⟩ : ∃ q, q < n ∧ zs.getD q 0 = x := by
    obtain ⟨q, hq, e⟩ := memAt.1 hx
    exact ⟨q, by rw [← h.1]; exact hq, e⟩
  have HQ := Lib.hid hqx
  clear hqx hx
  go_enter Tryd.func13, Tryd.ntmps13
  go_wp2
  go_loop [9] (fun i => ∃ k : Nat, k ≤ q ∧ i = .int .i64 k) (fun i => n - (intOf i).toNat)
  case atStart => exact ⟨0, Nat.zero_le _, rfl⟩
  case round =>
    obtain ⟨k, hk, rfl⟩ := hrel
    obtain ⟨ad, z, rfl, hc, HZ⟩ := h.elem (show k < n by omega)
    have k0 : (0 : Int) ≤ (k : Int) := by omega
    have k1 : (k : Int) < (n : Int) := by omega
    by_cases he : z = x
    · subst he
      go_wp2
      go_ret
      exact ⟨rfl, rfl⟩
    · have hne : k ≠ q := fun e => he (by rw [HZ.out, e, HQ.out])
      go_wp2
      go_round
      case rel => exact ⟨k + 1, by omega, by go_num⟩
      case measure => simp [intOf]; omega

end Go.Proofs.YtjalpankapakkaaDoor
