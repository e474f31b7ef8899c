/- What NumberOf and SignedOf do, the program's and the model's: both give the same number of a word. For slices of at most 16777216 elements. -/
import Derived.Test.YtaohgbkhmgfnhaaBits3
namespace Go.Proofs.Ytaohgbkhmgfnhaa
open Go.RowKit
set_option maxRecDepth 100000

def numTo (zs : List Int) : Nat → Int
  | 0 => 0
  | k + 1 => numTo zs k + zs.getD k 0 * 2 ^ k

theorem numTo_range (zs : List Int) : ∀ k, (∀ j, j < k → 0 ≤ zs.getD j 0 ∧ zs.getD j 0 ≤ 1) → 0 ≤ numTo zs k ∧ numTo zs k < 2 ^ k := by
  intro k
  induction k with
  | zero => intro _; simp [numTo]
  | succ k ih =>
    intro h
    have h1 := ih (fun j hj => h j (by omega))
    have h2 := h k (by omega)
    rcases bit_cases h2 with e | e <;> simp only [numTo, e, Int.pow_succ] <;> omega

def m_NumberOf (zs : List Int) : Int × Bool := if good 16 zs then (numTo zs zs.length, true) else (0, false)
def m_SignedOf (zs : List Int) : Int × Bool := if good 16 zs && decide (0 < zs.length) then (numTo zs zs.length - zs.getD (zs.length - 1) 0 * 2 ^ zs.length, true) else (0, false)

theorem pow16 {k : Nat} (h : k ≤ 16) : (2 : Int) ^ k ≤ 65536 ∧ 1 ≤ (2 : Int) ^ k := by
  rcases (show k = 0 ∨ k = 1 ∨ k = 2 ∨ k = 3 ∨ k = 4 ∨ k = 5 ∨ k = 6 ∨ k = 7 ∨ k = 8 ∨ k = 9 ∨ k = 10 ∨ k = 11 ∨ k = 12 ∨ k = 13 ∨ k = 14 ∨ k = 15 ∨ k = 16 by omega) with e | e | e | e | e | e | e | e | e | e | e | e | e | e | e | e | e <;> subst e <;> decide

theorem num_step (a z t p : Int) : a + z * p + t * (p * 2) = a + (2 * t + z) * p := by grind
theorem le_mul_pow {t p : Int} (h : 0 ≤ t) (hp : 1 ≤ p) : t ≤ t * p := by
  have := Int.mul_le_mul_of_nonneg_left hp h
  omega

set_option maxHeartbeats 400000 in
theorem btNum_any (A : Option Addr) (n c : Nat) (zs : List Int) (w : World) (h : Has w A n zs) (hn : n ≤ 16) (hg : ∀ k, k < zs.length → 0 ≤ zs.getD k 0 ∧ zs.getD k 0 ≤ 1) :
    Calls Try.prog 111 #[.slice A n c] w fun e w' => e = .returned (.int .i64 (numTo zs n)) ∧ w = w' := by
  have HG := Lib.hid hg
  have HL := Lib.hid h.1
  have hr : ∀ k, k ≤ n → 0 ≤ numTo zs k ∧ numTo zs k < 65536 := fun k hk => by
    have := numTo_range zs k (fun j hj => hg j (by rw [h.1]; omega))
    have := pow16 (k := k) (by omega)
    omega
  have HR := Lib.hid hr
  clear hg hr
  go_enter Try.func111, Try.ntmps111
  go_wp2
  go_loop [3, 4] (fun s i => ∃ (k : Nat) (t : Int), k ≤ n ∧ i = .int .i64 ((k : Int) - 1) ∧ s = .int .i64 t ∧ 0 ≤ t ∧ t ≤ 65536 ∧ Hid (numTo zs n = numTo zs k + t * 2 ^ k)) (fun _ i => (intOf i + 1).toNat)
  case atStart => exact ⟨n, 0, Nat.le_refl _, by go_num, rfl, by omega, by omega, by show _ = _; simp⟩
  case round =>
    obtain ⟨k, t, hk, rfl, rfl, t0, t1, HT⟩ := hrel
    cases k with
    | zero =>
      go_wp2
      go_ret
      exact ⟨retInt (by have := HT.out; simp [numTo] at this; omega), rfl⟩
    | succ j =>
      have e1 : ((j + 1 : Nat) : Int) - 1 = (j : Int) := by omega
      rw [e1]
      clear e1
      have hjn : j < n := by omega
      obtain ⟨ad, z, rfl, hc, HZ⟩ := h.elem hjn
      obtain ⟨z0, z1⟩ : 0 ≤ z ∧ z ≤ 1 := by rw [HZ.out]; exact HG.out j (by rw [HL.out]; exact hjn)
      have HN : Hid (numTo zs n = numTo zs j + (2 * t + z) * 2 ^ j) := by
        show _ = _
        rw [HT.out]
        simp only [numTo, Int.pow_succ]
        rw [← HZ.out]
        exact num_step _ _ _ _
      have hb : 2 * t + z ≤ 65536 := by
        have h1 := (HR.out n (Nat.le_refl _)).2
        have h2 := (HR.out j (by omega)).1
        have h3 := le_mul_pow (t := 2 * t + z) (by omega) (pow16 (k := j) (by omega)).2
        have h4 := HN.out
        omega
      clear HT
      go_wp2
      go_round
      case rel => exact ⟨j, 2 * t + z, by omega, rfl, rfl, by omega, hb, HN⟩
      case measure => simp [intOf]

set_option maxHeartbeats 400000 in
theorem impl_NumberOf' (A : Option Addr) (n c : Nat) (zs : List Int) (ry : Int) (rb : Bool) (w : World) (h : Has w A n zs) (hn : n ≤ 16777216) (hm : m_NumberOf zs = (ry, rb)) :
    Calls Try.prog 82 #[.slice A n c] w fun e w' => e = .returned (.tuple #[.int .i64 ry, .bool rb]) ∧ w = w' := by
  have HL := Lib.hid h.1
  cases hg : good 64 zs with
  | false =>
    have hg' : good 16 zs = false := by
      cases h16 : good 16 zs with
      | false => rfl
      | true =>
        have := good_yes h16
        rw [good_mk (m := 64) (by omega) this.2] at hg
        cases hg
    rw [m_NumberOf, hg', if_neg (by simp)] at hm
    obtain ⟨rfl, rfl⟩ := Prod.mk.inj hm
    have HG := Lib.hid hg
    clear hm hg hg'
    go_enter Try.func82, Try.ntmps82
    go_wp2_with (go_at_call 52; refine (implAreBits A n c zs false _ h hn HG.out).mono ?_; rintro e w' ⟨rfl, rfl⟩)
    go_ret2
    exact ⟨rfl, rfl⟩
  | true =>
    have hy := good_yes hg
    by_cases hmany : 16 < n
    · have hg' : good 16 zs = false := by
        cases h16 : good 16 zs with
        | false => rfl
        | true => have := (good_yes h16).1; have := h.1; omega
      rw [m_NumberOf, hg', if_neg (by simp)] at hm
      obtain ⟨rfl, rfl⟩ := Prod.mk.inj hm
      have HG := Lib.hid hg
      clear hm hg hg' hy
      go_enter Try.func82, Try.ntmps82
      go_wp2_with (go_at_call 52; refine (implAreBits A n c zs true _ h hn HG.out).mono ?_; rintro e w' ⟨rfl, rfl⟩)
      go_ret2
      exact ⟨rfl, rfl⟩
    · have hg' : good 16 zs = true := good_mk (by have := h.1; omega) hy.2
      rw [m_NumberOf, hg', if_pos rfl] at hm
      have HG := Lib.hid hg
      have HM := Lib.hid hm
      have HY := Lib.hid hy.2
      have hr : ∀ k, k ≤ n → 0 ≤ numTo zs k ∧ numTo zs k < 65536 := fun k hk => by
        have := numTo_range zs k (fun j hj => hy.2 j (by rw [h.1]; omega))
        have := pow16 (k := k) (by omega)
        omega
      have HR := Lib.hid hr
      have hn16 : n ≤ 16 := by omega
      clear hm hg hy hg' hr
      go_enter Try.func82, Try.ntmps82
      go_wp2_with (go_at_call 52; refine (implAreBits A n c zs true _ h hn HG.out).mono ?_; rintro e w' ⟨rfl, rfl⟩)
      go_loop [4, 17] (fun s i => ∃ (k : Nat) (t : Int), k ≤ n ∧ i = .int .i64 k ∧ s = .int .i64 t ∧ Hid (t = numTo zs k)) (fun _ i => n - (intOf i).toNat)
      case atStart => exact ⟨0, 0, Nat.zero_le _, rfl, rfl, rfl⟩
      case round =>
        obtain ⟨k, t, hk, rfl, rfl, HT⟩ := hrel
        by_cases hlt : k < n
        · obtain ⟨ad, z, rfl, hc, HZ⟩ := h.elem hlt
          have z01 : 0 ≤ z ∧ z ≤ 1 := by rw [HZ.out]; exact HY.out k (by rw [HL.out]; exact hlt)
          have t01 : 0 ≤ t ∧ t < 65536 := by rw [HT.out]; exact HR.out k hk
          obtain ⟨t0, t1⟩ := t01
          have HN : Hid (numTo zs (k + 1) = t + z * 2 ^ k) := by show numTo zs k + _ = _; rw [← HT.out, ← HZ.out]
          clear HT HZ
          rcases bit_cases z01 with rfl | rfl
          · clear z01
            go_wp2
            go_round
            case rel => exact ⟨k + 1, t, by omega, by go_num, rfl, by show t = _; rw [HN.out]; omega⟩
            case measure => simp [intOf]; omega
          · clear z01
            go_wp2
            go_round
            case rel =>
              have p2 := pow16 (k := k) (by omega)
              refine ⟨k + 1, t + 2 ^ k, by omega, by go_num, ?_, by show _ = _; rw [HN.out]; omega⟩
              rw [IntWalk.wrap64_in (2 ^ k) ⟨by omega, by omega⟩, IntWalk.wrap64_in (t + 2 ^ k) ⟨by omega, by omega⟩]
            case measure => simp [intOf]; omega
        · obtain rfl : k = n := by omega
          go_wp2
          go_ret2
          obtain ⟨h1, rfl⟩ := Prod.mk.inj HM.out
          exact ⟨retIntB (by rw [HT.out, ← HL.out]; exact h1), rfl⟩

theorem impl_NumberOf (A : Option Addr) (n c : Nat) (zs : List Int) (ry : Int) (rb : Bool) (w : World) (h : Has w A n zs) (hn : n ≤ 16777216) (hm : m_NumberOf zs = (ry, rb)) :
    Calls Try.prog 82 #[.slice A n c] w fun e w' => e = .returned (.tuple #[.int .i64 ry, .bool rb]) ∧ Below w.heap.size w w' :=
  (impl_NumberOf' A n c zs ry rb w h hn hm).mono fun _ _ ⟨he, hw⟩ => ⟨he, hw ▸ Below.refl _ _⟩

end Go.Proofs.Ytaohgbkhmgfnhaa
