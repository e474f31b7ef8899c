/- The model's test of a network (soGood), IsNetwork. For every list of at most 1048576 steps. -/
import Derived.Test.YteiibneaihdmbaaSoM1
import Derived.Test.YteiibneaihdmbaaBitsAll
namespace Go.Proofs.Yteiibneaihdmbaa
open Go Go.RowKit
set_option maxRecDepth 100000

set_option maxHeartbeats 1000000 in
theorem soGood_any (x : Int) (A : Option Addr) (n c : Nat) (l : List St) (b : Bool) (w : World) (h : HasT w A n l) (hn : n ≤ 1048576) (hb : netB x l = b) :
    Calls Try.prog 84 #[.int .i64 x, .slice A n c] w fun e w' => e = .returned (.bool b) ∧ Below w.heap.size w w' := by
  have HL := Lib.hid h.1
  have HB := Lib.hid hb
  clear hb
  go_enter Try.func84, Try.ntmps84
  go_wp2_with fail
  go_loopw [6, 9] (fun _ i wr => ∃ k : Nat, k ≤ n ∧ i = .int .i64 k ∧ Hid (okTo x l k = true) ∧ Below w.heap.size w wr) (fun _ i _ => n - (intOf i).toNat)
  case atStart => exact ⟨0, Nat.zero_le _, rfl, rfl, Below.refl _ _⟩
  case round =>
    obtain ⟨k, hk, rfl, HK, bk⟩ := hrel
    by_cases hlt : k < n
    · obtain ⟨ad, u, v, rfl, hu, hv, HE⟩ := (h.below bk).elem hlt
      have q0 : (0 : Int) ≤ (k : Int) := by omega
      have q1 : (k : Int) < (n : Int) := by omega
      have B2 := bk.trans ((belowNew wr (.cells #[.int .i64 u, .int .i64 v] 93)).mono bk.size)
      have HNo : Hid (stepOk x (u, v) = false → false = b) := fun e => by
        rw [← HB.out, netB, HL.out, okTo_no (k := k) (by rw [HE.out]; exact e) n hlt]; simp
      have HYes : Hid (stepOk x (u, v) = true → okTo x l (k + 1) = true) := fun e => okTo_next HK.out (by rw [HE.out]; exact e)
      by_cases d0 : u < 0
      · have HF : Hid (false = b) := HNo.out (by simp [stepOk]; intros; omega)
        go_wp2_with fail
        go_ret
        exact ⟨retBl HF.out, B2⟩
      · by_cases d1 : v ≤ u
        · have HF : Hid (false = b) := HNo.out (by simp [stepOk]; intros; omega)
          go_wp2_with fail
          go_ret
          exact ⟨retBl HF.out, B2⟩
        · by_cases d2 : x ≤ v
          · have HF : Hid (false = b) := HNo.out (by simp [stepOk]; intros; omega)
            go_wp2_with fail
            go_ret
            exact ⟨retBl HF.out, B2⟩
          · have HF : Hid (okTo x l (k + 1) = true) := HYes.out (by simp [stepOk]; omega)
            go_wp2_with fail
            go_roundw
            case rel => exact ⟨k + 1, by omega, by go_num, HF, B2⟩
            case measure => simp [intOf]; omega
    · obtain rfl : k = n := by omega
      obtain ⟨y, hy⟩ : ∃ y, (decide (1 ≤ x) && decide (x ≤ 12)) = y := ⟨_, rfl⟩
      have HI := Lib.hid (l1In_any x 1 12 y wr hy)
      have HF : Hid ((y && decide (k ≤ 60)) = b) := by show _ = _; rw [← HB.out, netB, hy, HL.out, HK.out, Bool.and_true]
      clear hy
      cases y with
      | false =>
        go_wp2_with fail
        refine (HI.out).mono ?_
        rintro e w' ⟨rfl, rfl⟩
        go_wp2_with fail
        go_ret
        exact ⟨retBl (by rw [← HF.out]; rfl), bk⟩
      | true =>
        go_wp2_with fail
        refine (HI.out).mono ?_
        rintro e w' ⟨rfl, rfl⟩
        go_wp2_with fail
        go_ret
        exact ⟨retBl (by rw [← HF.out, Bool.true_and]; exact decide_eq_decide.2 (by omega)), bk⟩

theorem spec_IsNetwork (x : Int) (A : Option Addr) (n c : Nat) (l : List St) (b : Bool) (w : World) (_hx : I64 x) (h : HasT w A n l) (hn : n ≤ 1048576) (_ : NilOk A n c) (hm : m_IsNetwork x l = b) :
    Calls Try.prog 25 #[.int .i64 x, .slice A n c] w fun e w' => e = .returned (.bool b) ∧ Below w.heap.size w w' := by
  have H := Lib.hid (soGood_any x A n c l b w h hn hm)
  go_enter Try.func25, Try.ntmps25
  go_wp2_with fail
  refine (H.out).mono ?_
  rintro e w2 ⟨rfl, b2⟩
  go_wp2_with fail
  go_ret
  exact ⟨rfl, b2⟩

end Go.Proofs.Yteiibneaihdmbaa
