/- The comparison of two lists of lists that hold the same, in the exact laws. For at most 16777216 elements a list. -/
import Derived.Test.YteiibneaihdmbaaMat1
import Derived.Deep.QuietTactic
namespace Go.Proofs.Yteiibneaihdmbaa
open Go.RowKit
set_option maxRecDepth 100000

set_option maxHeartbeats 1000000 in
theorem eqIntS_drew (A B : Option Addr) (n n' c d : Nat) (zs : List Int) (w : World) (ha : Has w A n zs) (hb : Has w B n' zs) (hn : n ≤ 16777216) :
    Calls Try.prog 32 #[.slice A n c, .slice B n' d] w fun e w' => e = .returned (.bool true) ∧ ∃ m, w' = w.drewN m := by
  obtain rfl : n = n' := ha.1.symm.trans hb.1
  go_enter Try.func32, Try.ntmps32
  go_wp2
  go_loopw [5] (fun i wr => ∃ k : Nat, k ≤ n ∧ i = .int .i64 k ∧ ∃ m, wr = w.drewN m) (fun i _ => n - (intOf i).toNat)
  case atStart => exact ⟨0, Nat.zero_le _, rfl, 0, rfl⟩
  case round =>
    obtain ⟨k, hk, rfl, hd⟩ := hrel
    by_cases hlt : k < n
    · have ha' : Has wr A n zs := by obtain ⟨m, rfl⟩ := hd; exact ha
      have hb' : Has wr B n zs := by obtain ⟨m, rfl⟩ := hd; exact hb
      obtain ⟨ad, rfl, hc⟩ := ha'.at_ hlt
      obtain ⟨bd, rfl, hd2⟩ := hb'.at_ hlt
      have HD := Lib.hid hd
      have k0 : (0 : Int) ≤ (k : Int) := by omega
      have k1 : (k : Int) < (n : Int) := by omega
      clear hd
      go_wp2
      go_quiet (fail)
      go_wp2
      go_roundw
      case rel => exact ⟨k + 1, by omega, by go_num, drewMore HD.out⟩
      case measure => simp [intOf]; omega
    · go_wp2
      go_ret
      exact ⟨rfl, hd⟩

set_option maxRecDepth 100000 in
set_option maxHeartbeats 1000000 in
theorem eqIntSS_same (A B : Option Addr) (n c d : Nat) (M : Nat → List Int) (w : World) (ha : HasM w A n M) (hb : HasM w B n M) (hn : n ≤ 16777216) :
    Calls Try.prog 42 #[.slice A n c, .slice B n d] w fun e w' => e = .returned (.bool true) ∧ Below w.heap.size w w' := by
  go_enter Try.func42, Try.ntmps42
  go_wp2
  go_loopw [5] (fun i wr => ∃ k : Nat, k ≤ n ∧ i = .int .i64 k ∧ ∃ m, wr = w.drewN m) (fun i _ => n - (intOf i).toNat)
  case atStart => exact ⟨0, Nat.zero_le _, rfl, 0, rfl⟩
  case round =>
    obtain ⟨k, hk, rfl, hd⟩ := hrel
    by_cases hlt : k < n
    · have ha' : HasM wr A n M := by obtain ⟨m, rfl⟩ := hd; exact ha
      have hb' : HasM wr B n M := by obtain ⟨m, rfl⟩ := hd; exact hb
      obtain ⟨ad, R, m1, c1, rfl, hc1, hR1, hm1, _⟩ := ha'.elem hlt
      obtain ⟨bd, R2, m2, c2, rfl, hc2, hR2, hm2, _⟩ := hb'.elem hlt
      have HD := Lib.hid hd
      have HQ : Hid (∀ e, Calls Try.prog 32 #[.slice R m1 c1, .slice R2 m2 c2] (wr.drewN e) fun x w' => x = .returned (.bool true) ∧ ∃ m, w' = wr.drewN m) := fun e =>
        (eqIntS_drew R R2 m1 m2 c1 c2 (M k) (wr.drewN e) hR1 hR2 hm1).mono fun _ _ ⟨h1, m, h2⟩ => ⟨h1, e + m, by rw [h2]; simp⟩
      have k0 : (0 : Int) ≤ (k : Int) := by omega
      have k1 : (k : Int) < (n : Int) := by omega
      clear hd
      go_wp2
      go_quiet ((go_at_call 32; exact HQ.out _))
      go_wp2
      go_roundw
      case rel => exact ⟨k + 1, by omega, by go_num, drewMore HD.out⟩
      case measure => simp [intOf]; omega
    · go_wp2
      go_ret
      refine ⟨rfl, ?_⟩
      obtain ⟨m, rfl⟩ := hd
      exact below_drewN (Below.refl _ _) m

end Go.Proofs.Yteiibneaihdmbaa
