/- What WeightOf, ParityOf and NumberOf do, the program's and the model's: each answers the same function of the bits, and leaves memory as it was. For slices of at most 16777216 elements. -/
import Derived.Test.YtdocbkocekamlaaBits1
namespace Go.Proofs.Ytdocbkocekamlaa
open Go.RowKit

theorem i64eq {a b : Int} (h : a = b) : Value.int .i64 a = Value.int .i64 b := by rw [h]
theorem retInt {a b : Int} (h : a = b) : Ending.returned (.int .i64 a) = .returned (.int .i64 b) := by rw [h]
theorem retIntB {a b : Int} {x : Bool} (h : a = b) : Ending.returned (.tuple #[.int .i64 a, .bool x]) = .returned (.tuple #[.int .i64 b, .bool x]) := by rw [h]

def sumTo (zs : List Int) : Nat → Int
  | 0 => 0
  | k + 1 => sumTo zs k + zs.getD k 0

def m_WeightOf (zs : List Int) : Int × Bool := if good 64 zs then (sumTo zs zs.length, true) else (0, false)

set_option maxHeartbeats 400000 in
theorem impl_WeightOf (A : Option Addr) (n c : Nat) (zs : List Int) (ry : Int) (rb : Bool) (w : World) (h : Has w A n zs) (hn : n ≤ 16777216) (hm : m_WeightOf zs = (ry, rb)) :
    Calls Try.prog 22 #[.slice A n c] w fun e w' => e = .returned (.tuple #[.int .i64 ry, .bool rb]) ∧ Below w.heap.size w w' := by
  have HL := Lib.hid h.1
  cases hg : good 64 zs with
  | false =>
    rw [m_WeightOf, hg, if_neg (by simp)] at hm
    obtain ⟨rfl, rfl⟩ := Prod.mk.inj hm
    have HG := Lib.hid hg
    clear hm hg
    go_enter Try.func22, Try.ntmps22
    go_wp2_with (go_at_call 9; refine (implAreBits A n c zs false _ h hn HG.out).mono ?_; rintro e w' ⟨rfl, rfl⟩)
    go_ret2
    exact ⟨rfl, Below.refl _ _⟩
  | true =>
    rw [m_WeightOf, hg, if_pos rfl] at hm
    have HG := Lib.hid hg
    have HM := Lib.hid hm
    have hy := good_yes hg
    have HY := Lib.hid hy.2
    have hn64 : n ≤ 64 := by have := hy.1; have := h.1; omega
    clear hm hg hy
    go_enter Try.func22, Try.ntmps22
    go_wp2_with (go_at_call 9; refine (implAreBits A n c zs true _ h hn HG.out).mono ?_; rintro e w' ⟨rfl, rfl⟩)
    go_loop [4, 12] (fun s i => ∃ (k : Nat) (t : Int), k ≤ n ∧ i = .int .i64 k ∧ s = .int .i64 t ∧ 0 ≤ t ∧ t ≤ k ∧ Hid (t = sumTo zs k)) (fun _ i => n - (intOf i).toNat)
    case atStart => exact ⟨0, 0, Nat.zero_le _, rfl, rfl, by omega, by omega, rfl⟩
    case round =>
      obtain ⟨k, t, hk, rfl, rfl, t0, t1, HT⟩ := hrel
      by_cases hlt : k < n
      · obtain ⟨ad, z, rfl, hc, HZ⟩ := h.elem hlt
        obtain ⟨z0, z1⟩ : 0 ≤ z ∧ z ≤ 1 := by rw [HZ.out]; exact HY.out k (by rw [HL.out]; exact hlt)
        go_wp2
        go_round
        case rel => exact ⟨k + 1, t + z, by omega, by go_num, rfl, by omega, by omega, by show _ = sumTo zs k + _; rw [← HT.out, ← HZ.out]⟩
        case measure => simp [intOf]; omega
      · obtain rfl : k = n := by omega
        go_wp2
        go_ret2
        obtain ⟨h1, rfl⟩ := Prod.mk.inj HM.out
        exact ⟨retIntB (by rw [HT.out, ← HL.out]; exact h1), Below.refl _ _⟩

end Go.Proofs.Ytdocbkocekamlaa
