/- What ParityOf and the tests of two lists of bits do, the program's and the model's. For slices of at most 16777216 elements. -/
import Derived.Test.YtjalpankapakkaaDoorBits2
namespace Go.Proofs.YtjalpankapakkaaDoor
open Go.RowKit

/-- Both are bits, of one length. -/
def even (xs ys : List Int) : Bool := good 64 xs && good 64 ys && decide (xs.length = ys.length)

theorem even_yes {xs ys : List Int} (h : even xs ys = true) : good 64 xs = true ∧ good 64 ys = true ∧ xs.length = ys.length := by
  unfold even at h
  rw [Bool.and_eq_true, Bool.and_eq_true, decide_eq_true_eq] at h
  exact ⟨h.1.1, h.1.2, h.2⟩

theorem even_cases (xs ys : List Int) : (good 64 xs = false ∧ even xs ys = false) ∨ (good 64 xs = true ∧ good 64 ys = false ∧ even xs ys = false) ∨
    (good 64 xs = true ∧ good 64 ys = true ∧ ¬ xs.length = ys.length ∧ even xs ys = false) ∨ (good 64 xs = true ∧ good 64 ys = true ∧ xs.length = ys.length ∧ even xs ys = true) := by
  unfold even
  cases h1 : good 64 xs with
  | false => exact .inl ⟨rfl, rfl⟩
  | true =>
    cases h2 : good 64 ys with
    | false => exact .inr (.inl ⟨rfl, rfl, rfl⟩)
    | true =>
      by_cases h3 : xs.length = ys.length
      · exact .inr (.inr (.inr ⟨rfl, rfl, h3, by simp [h3]⟩))
      · exact .inr (.inr (.inl ⟨rfl, rfl, h3, by simp [h3]⟩))

/-- The test of two lists as the model has it: three tests in a row. -/
theorem bit_cases {z : Int} (h : 0 ≤ z ∧ z ≤ 1) : z = 0 ∨ z = 1 := by omega

set_option maxHeartbeats 400000 in
theorem areEven_any (A B : Option Addr) (n m c d : Nat) (xs ys : List Int) (r : Bool) (w : World) (hx : Has w A n xs) (hy : Has w B m ys) (hn : n ≤ 16777216) (hm : m ≤ 16777216) (hr : even xs ys = r) :
    Calls Tryd.prog 59 #[.slice A n c, .slice B m d] w fun e w' => e = .returned (.bool r) ∧ w = w' := by
  have lx := hx.1
  have ly := hy.1
  rcases even_cases xs ys with ⟨h1, h2⟩ | ⟨h1, h3, h2⟩ | ⟨h1, h3, h4, h2⟩ | ⟨h1, h3, h4, h2⟩
  · rw [h2] at hr
    subst hr
    have H1 := Lib.hid h1
    clear h1 h2 lx ly
    go_enter Tryd.func59, Tryd.ntmps59
    go_wp2_with fail
    refine (implAreBits A n c xs false _ hx hn H1.out).mono ?_
    rintro e w' ⟨rfl, rfl⟩
    go_wp2_with fail
    go_ret
    exact ⟨rfl, rfl⟩
  · rw [h2] at hr
    subst hr
    have H1 := Lib.hid h1
    have H3 := Lib.hid h3
    clear h1 h2 h3 lx ly
    go_enter Tryd.func59, Tryd.ntmps59
    go_wp2_with fail
    refine (implAreBits A n c xs true _ hx hn H1.out).mono ?_
    rintro e w' ⟨rfl, rfl⟩
    go_wp2_with fail
    refine (implAreBits B m d ys false _ hy hm H3.out).mono ?_
    rintro e w' ⟨rfl, rfl⟩
    go_wp2_with fail
    go_ret
    exact ⟨rfl, rfl⟩
  · rw [h2] at hr
    subst hr
    have H1 := Lib.hid h1
    have H3 := Lib.hid h3
    have hne : ¬ n = m := by omega
    clear h1 h2 h3 h4 lx ly
    go_enter Tryd.func59, Tryd.ntmps59
    go_wp2_with fail
    refine (implAreBits A n c xs true _ hx hn H1.out).mono ?_
    rintro e w' ⟨rfl, rfl⟩
    go_wp2_with fail
    refine (implAreBits B m d ys true _ hy hm H3.out).mono ?_
    rintro e w' ⟨rfl, rfl⟩
    go_wp2_with fail
    go_ret
    refine ⟨?_, rfl⟩
    simp; omega
  · rw [h2] at hr
    subst hr
    have H1 := Lib.hid h1
    have H3 := Lib.hid h3
    obtain rfl : n = m := by omega
    clear h1 h2 h3 h4 lx ly
    go_enter Tryd.func59, Tryd.ntmps59
    go_wp2_with fail
    refine (implAreBits A n c xs true _ hx hn H1.out).mono ?_
    rintro e w' ⟨rfl, rfl⟩
    go_wp2_with fail
    refine (implAreBits B n d ys true _ hy hm H3.out).mono ?_
    rintro e w' ⟨rfl, rfl⟩
    go_wp2_with fail
    go_ret
    exact ⟨by simp, rfl⟩

def parTo (xs ys : List Int) : Nat → Int
  | 0 => 0
  | k + 1 => (parTo xs ys k + xs.getD k 0 * ys.getD k 0) % 2

def m_ParityOf (xs ys : List Int) : Int × Bool := if even xs ys then (parTo xs ys xs.length, true) else (0, false)

end Go.Proofs.YtjalpankapakkaaDoor
