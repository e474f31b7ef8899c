/- The digest of a text, the program's and the model's. For texts of at most 1048576 bytes. -/
import Derived.Test.YtjalpankapakkaaDoorBits8
import Derived.Test.YtjalpankapakkaaDoorGen1
namespace Go.Proofs.YtjalpankapakkaaDoor
open Go.RowKit

/-- The number when k bytes are taken in. -/
def textRun (s : ByteArray) : Nat → Int
  | 0 => 11
  | k + 1 => (263 * textRun s k + chr s k + 1) % 1000003
def m_TextDigest (s : ByteArray) : Int := textRun s s.size
theorem textRun_range (s : ByteArray) (k : Nat) : 0 ≤ textRun s k ∧ textRun s k < 1000003 := by
  cases k with
  | zero => simp [textRun]
  | succ k => exact ⟨Int.emod_nonneg _ (by decide), Int.emod_lt_of_pos _ (by decide)⟩

set_option maxHeartbeats 400000 in
theorem dgText_any (s : ByteArray) (w : World) (hs : s.size ≤ 1048576) :
    Calls Tryd.prog 57 #[.string s] w fun e w' => e = .returned (.int .i64 (m_TextDigest s)) ∧ w = w' := by
  go_enter Tryd.func57, Tryd.ntmps57
  go_wp2
  go_loop [3, 4] (fun a i => ∃ k : Nat, k ≤ s.size ∧ i = .int .i64 k ∧ ∃ x : Int, a = .int .i64 x ∧ 0 ≤ x ∧ x < 1000003 ∧ Hid (x = textRun s k)) (fun _ i => s.size - (intOf i).toNat)
  case atStart => exact ⟨0, Nat.zero_le _, rfl, 11, rfl, by omega, by omega, rfl⟩
  case round =>
    obtain ⟨k, hk, rfl, x, rfl, x0, x1, HX⟩ := hrel
    by_cases hlt : k < s.size
    · obtain ⟨z, hz⟩ : ∃ z, ((s[k]'hlt).toNat : Int) = z := ⟨_, rfl⟩
      have b255 : ((s[k]'hlt).toNat : Int) ≤ 255 := by have := (s[k]'hlt).toNat_lt; omega
      have b0 : 0 ≤ ((s[k]'hlt).toNat : Int) := by omega
      have tm := tmodPos (a := 263 * x + ((s[k]'hlt).toNat : Int) + 1) (b := 1000003) (by omega)
      have r0 : 0 ≤ (263 * x + ((s[k]'hlt).toNat : Int) + 1) % 1000003 := Int.emod_nonneg _ (by decide)
      have r1 : (263 * x + ((s[k]'hlt).toNat : Int) + 1) % 1000003 < 1000003 := Int.emod_lt_of_pos _ (by decide)
      clear hz
      go_wp2
      go_round
      case rel =>
        refine ⟨k + 1, by omega, by go_num, _, rfl, r0, r1, ?_⟩
        show _ = _
        rw [textRun, ← HX.out, chr_at hlt]
      case measure => simp [intOf]; omega
    · obtain rfl : k = s.size := by omega
      go_wp2
      go_ret
      exact ⟨by rw [m_TextDigest, ← HX.out]; rfl, rfl⟩

theorem spec_TextDigest (s : ByteArray) (ry : Int) (w : World) (hs : s.size ≤ 1048576) (hm : m_TextDigest s = ry) :
    Calls Tryd.prog 31 #[.string s] w fun e w' => e = .returned (.int .i64 ry) ∧ Below w.heap.size w w' := by
  subst hm
  go_enter Tryd.func31, Tryd.ntmps31
  go_wp2_with fail
  refine (dgText_any s _ hs).mono ?_
  rintro e w' ⟨rfl, rfl⟩
  go_wp2
  go_ret
  exact ⟨rfl, Below.refl _ _⟩

set_option maxHeartbeats 400000 in
theorem impl_TextDigest (s : ByteArray) (ry : Int) (w : World) (hs : s.size ≤ 1048576) (hm : m_TextDigest s = ry) :
    Calls Tryd.prog 30 #[.string s] w fun e w' => e = .returned (.int .i64 ry) ∧ Below w.heap.size w w' := by
  subst hm
  go_enter Tryd.func30, Tryd.ntmps30
  go_wp2
  go_loop [3, 7] (fun a i => ∃ k : Nat, k ≤ s.size ∧ i = .int .i64 k ∧ ∃ x : Int, a = .int .i64 x ∧ 0 ≤ x ∧ x < 1000003 ∧ Hid (x = textRun s k)) (fun _ i => s.size - (intOf i).toNat)
  case atStart => exact ⟨0, Nat.zero_le _, rfl, 11, rfl, by omega, by omega, rfl⟩
  case round =>
    obtain ⟨k, hk, rfl, x, rfl, x0, x1, HX⟩ := hrel
    by_cases hlt : k < s.size
    · have b255 : ((s[k]'hlt).toNat : Int) ≤ 255 := by have := (s[k]'hlt).toNat_lt; omega
      have b0 : 0 ≤ ((s[k]'hlt).toNat : Int) := by omega
      have tm := tmodPos (a := 263 * x + ((s[k]'hlt).toNat : Int) + 1) (b := 1000003) (by omega)
      have r0 : 0 ≤ (263 * x + ((s[k]'hlt).toNat : Int) + 1) % 1000003 := Int.emod_nonneg _ (by decide)
      have r1 : (263 * x + ((s[k]'hlt).toNat : Int) + 1) % 1000003 < 1000003 := Int.emod_lt_of_pos _ (by decide)
      go_wp2
      go_round
      case rel =>
        refine ⟨k + 1, by omega, by go_num, _, rfl, r0, r1, ?_⟩
        show _ = _
        rw [textRun, ← HX.out, chr_at hlt]
      case measure => simp [intOf]; omega
    · obtain rfl : k = s.size := by omega
      go_wp2
      go_ret
      exact ⟨by rw [m_TextDigest, ← HX.out]; rfl, Below.refl _ _⟩

end Go.Proofs.YtjalpankapakkaaDoor
