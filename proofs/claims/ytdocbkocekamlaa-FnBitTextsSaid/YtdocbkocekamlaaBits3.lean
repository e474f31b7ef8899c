/- What ParityOf and the tests of two lists of bits do, the program's and the model's. For slices of at most 16777216 elements. -/
import Derived.Test.YtdocbkocekamlaaBits2
namespace Go.Proofs.Ytdocbkocekamlaa
open Go.RowKit

/-- Both are bits, of one length. -/
def even (xs ys : List Int) : Bool := good 64 xs && good 64 ys && decide (xs.length = ys.length)

theorem even_yes {xs ys : List Int} (h : even xs ys = true) : good 64 xs = true ∧ good 64 ys = true ∧ xs.length = ys.length := by
  unfold even at h
  rw [Bool.and_eq_true, Bool.and_eq_true, decide_eq_true_eq] at h
  exact ⟨h.1.1, h.1.2, h.2⟩

theorem even_cases (xs ys : List Int) : (good 64 xs = false ∧ even xs ys = false) ∨ (good 64 xs = true ∧ good 64 ys = false ∧ even xs ys = false) ∨
    (good 64 xs = true ∧ good 64 ys = true ∧ ¬ xs.length = ys.length ∧ even xs ys = false) ∨ (good 64 xs = true ∧ good 64 ys = true ∧ xs.length = ys.length ∧ even xs ys = true) := by
  unfold even
  cases h1 : good 64 xs with
  | false => exact .inl ⟨rfl, rfl⟩
  | true =>
    cases h2 : good 64 ys with
    | false => exact .inr (.inl ⟨rfl, rfl, rfl⟩)
    | true =>
      by_cases h3 : xs.length = ys.length
      · exact .inr (.inr (.inr ⟨rfl, rfl, h3, by simp [h3]⟩))
      · exact .inr (.inr (.inl ⟨rfl, rfl, h3, by simp [h3]⟩))

/-- The test of two lists as the model has it: three tests in a row. -/
theorem bit_cases {z : Int} (h : 0 ≤ z ∧ z ≤ 1) : z = 0 ∨ z = 1 := by omega

set_option maxHeartbeats 400000 in
theorem areEven_any (A B : Option Addr) (n m c d : Nat) (xs ys : List Int) (r : Bool) (w : World) (hx : Has w A n xs) (hy : Has w B m ys) (hn : n ≤ 16777216) (hm : m ≤ 16777216) (hr : even xs ys = r) :
    Calls Try.prog 40 #[.slice A n c, .slice B m d] w fun e w' => e = .returned (.bool r) ∧ w = w' := by
  have lx := hx.1
  have ly := hy.1
  rcases even_cases xs ys with ⟨h1, h2⟩ | ⟨h1, h3, h2⟩ | ⟨h1, h3, h4, h2⟩ | ⟨h1, h3, h4, h2⟩
  · rw [h2] at hr
    subst hr
    have H1 := Lib.hid h1
    clear h1 h2 lx ly
    go_enter Try.func40, Try.ntmps40
    go_wp2_with fail
    refine (implAreBits A n c xs false _ hx hn H1.out).mono ?_
    rintro e w' ⟨rfl, rfl⟩
    go_wp2_with fail
    go_ret
    exact ⟨rfl, rfl⟩
  · rw [h2] at hr
    subst hr
    have H1 := Lib.hid h1
    have H3 := Lib.hid h3
    clear h1 h2 h3 lx ly
    go_enter Try.func40, Try.ntmps40
    go_wp2_with fail
    refine (implAreBits A n c xs true _ hx hn H1.out).mono ?_
    rintro e w' ⟨rfl, rfl⟩
    go_wp2_with fail
    refine (implAreBits B m d ys false _ hy hm H3.out).mono ?_
    rintro e w' ⟨rfl, rfl⟩
    go_wp2_with fail
    go_ret
    exact ⟨rfl, rfl⟩
  · rw [h2] at hr
    subst hr
    have H1 := Lib.hid h1
    have H3 := Lib.hid h3
    have hne : ¬ n = m := by omega
    clear h1 h2 h3 h4 lx ly
    go_enter Try.func40, Try.ntmps40
    go_wp2_with fail
    refine (implAreBits A n c xs true _ hx hn H1.out).mono ?_
    rintro e w' ⟨rfl, rfl⟩
    go_wp2_with fail
    refine (implAreBits B m d ys true _ hy hm H3.out).mono ?_
    rintro e w' ⟨rfl, rfl⟩
    go_wp2_with fail
    go_ret
    refine ⟨?_, rfl⟩
    simp; omega
  · rw [h2] at hr
    subst hr
    have H1 := Lib.hid h1
    have H3 := Lib.hid h3
    obtain rfl : n = m := by omega
    clear h1 h2 h3 h4 lx ly
    go_enter Try.func40, Try.ntmps40
    go_wp2_with fail
    refine (implAreBits A n c xs true _ hx hn H1.out).mono ?_
    rintro e w' ⟨rfl, rfl⟩
    go_wp2_with fail
    refine (implAreBits B n d ys true _ hy hm H3.out).mono ?_
    rintro e w' ⟨rfl, rfl⟩
    go_wp2_with fail
    go_ret
    exact ⟨by simp, rfl⟩

def parTo (xs ys : List Int) : Nat → Int
  | 0 => 0
  | k + 1 => (parTo xs ys k + xs.getD k 0 * ys.getD k 0) % 2

def m_ParityOf (xs ys : List Int) : Int × Bool := if even xs ys then (parTo xs ys xs.length, true) else (0, false)

set_option maxHeartbeats 1000000 in
theorem btParity_any (A B : Option Addr) (n c d : Nat) (xs ys : List Int) (w : World) (hx : Has w A n xs) (hy : Has w B n ys) (hn : n ≤ 64)
    (gx : ∀ k, k < xs.length → 0 ≤ xs.getD k 0 ∧ xs.getD k 0 ≤ 1) (gy : ∀ k, k < ys.length → 0 ≤ ys.getD k 0 ∧ ys.getD k 0 ≤ 1) :
    Calls Try.prog 50 #[.slice A n c, .slice B n d] w fun e w' => e = .returned (.int .i64 (parTo xs ys n)) ∧ w = w' := by
  have GX := Lib.hid gx
  have GY := Lib.hid gy
  have LX := Lib.hid hx.1
  have LY := Lib.hid hy.1
  clear gx gy
  go_enter Try.func50, Try.ntmps50
  go_wp2
  go_loop [5, 10] (fun s i => ∃ (k : Nat) (t : Int), k ≤ n ∧ i = .int .i64 k ∧ s = .int .i64 t ∧ 0 ≤ t ∧ t ≤ 1 ∧ Hid (t = parTo xs ys k)) (fun _ i => n - (intOf i).toNat)
  case atStart => exact ⟨0, 0, Nat.zero_le _, rfl, rfl, by omega, by omega, rfl⟩
  case round =>
    obtain ⟨k, t, hk, rfl, rfl, t0, t1, HT⟩ := hrel
    by_cases hlt : k < n
    · obtain ⟨ad, z, rfl, hc, HZ⟩ := hx.elem hlt
      obtain ⟨bd, u, rfl, hd, HU⟩ := hy.elem hlt
      have z01 : 0 ≤ z ∧ z ≤ 1 := by rw [HZ.out]; exact GX.out k (by rw [LX.out]; exact hlt)
      have u01 : 0 ≤ u ∧ u ≤ 1 := by rw [HU.out]; exact GY.out k (by rw [LY.out]; exact hlt)
      have HS : Hid (parTo xs ys (k + 1) = (t + z * u) % 2) := by show (parTo xs ys k + _) % 2 = _; rw [← HT.out, ← HZ.out, ← HU.out]
      clear HT HZ HU
      rcases bit_cases ⟨t0, t1⟩ with rfl | rfl <;> rcases bit_cases z01 with rfl | rfl <;> rcases bit_cases u01 with rfl | rfl
      all_goals
        clear t0 t1 z01 u01
        go_wp2
        go_round
        case rel => exact ⟨k + 1, _, by omega, by go_num, rfl, by decide, by decide, by rw [HS.out]; rfl⟩
        case measure => simp [intOf]; omega
    · obtain rfl : k = n := by omega
      go_wp2
      go_ret
      exact ⟨retInt HT.out, rfl⟩

set_option maxHeartbeats 400000 in
theorem spec_ParityOf (A : Option Addr) (n c : Nat) (xs : List Int) (B : Option Addr) (m d : Nat) (ys : List Int) (ry : Int) (rb : Bool) (w : World) (hx : Has w A n xs) (hn : n ≤ 16777216) (hy : Has w B m ys) (hmm : m ≤ 16777216) (hm : m_ParityOf xs ys = (ry, rb)) :
    Calls Try.prog 31 #[.slice A n c, .slice B m d] w fun e w' => e = .returned (.tuple #[.int .i64 ry, .bool rb]) ∧ Below w.heap.size w w' := by
  have lx := hx.1
  have ly := hy.1
  rcases even_cases xs ys with ⟨h1, h2⟩ | ⟨h1, h3, h2⟩ | ⟨h1, h3, h4, h2⟩ | ⟨h1, h3, h4, h2⟩
  · rw [m_ParityOf, h2, if_neg (by simp)] at hm
    obtain ⟨rfl, rfl⟩ := Prod.mk.inj hm
    have H1 := Lib.hid h1
    clear h1 h2 lx ly hm
    go_enter Try.func31, Try.ntmps31
    go_wp2_with fail
    refine (specAreBits A n c xs false _ hx hn H1.out).mono ?_
    rintro e w' ⟨rfl, rfl⟩
    go_wp2_with fail
    go_ret2
    exact ⟨rfl, Below.refl _ _⟩
  · rw [m_ParityOf, h2, if_neg (by simp)] at hm
    obtain ⟨rfl, rfl⟩ := Prod.mk.inj hm
    have H1 := Lib.hid h1
    have H3 := Lib.hid h3
    clear h1 h2 h3 lx ly hm
    go_enter Try.func31, Try.ntmps31
    go_wp2_with fail
    refine (specAreBits A n c xs true _ hx hn H1.out).mono ?_
    rintro e w' ⟨rfl, rfl⟩
    go_wp2_with fail
    refine (specAreBits B m d ys false _ hy hmm H3.out).mono ?_
    rintro e w' ⟨rfl, rfl⟩
    go_wp2_with fail
    go_ret2
    exact ⟨rfl, Below.refl _ _⟩
  · rw [m_ParityOf, h2, if_neg (by simp)] at hm
    obtain ⟨rfl, rfl⟩ := Prod.mk.inj hm
    have H1 := Lib.hid h1
    have H3 := Lib.hid h3
    have hne : ¬ n = m := by omega
    clear h1 h2 h3 h4 lx ly hm
    go_enter Try.func31, Try.ntmps31
    go_wp2_with fail
    refine (specAreBits A n c xs true _ hx hn H1.out).mono ?_
    rintro e w' ⟨rfl, rfl⟩
    go_wp2_with fail
    refine (specAreBits B m d ys true _ hy hmm H3.out).mono ?_
    rintro e w' ⟨rfl, rfl⟩
    go_wp2_with fail
    go_ret2
    exact ⟨rfl, Below.refl _ _⟩
  · rw [m_ParityOf, h2, if_pos rfl] at hm
    have HM := Lib.hid hm
    have H1 := Lib.hid h1
    have H3 := Lib.hid h3
    have HL := Lib.hid lx
    have g1 := good_yes h1
    have G1 := Lib.hid g1.2
    have G3 := Lib.hid (good_yes h3).2
    have hn64 : n ≤ 64 := by have := g1.1; omega
    obtain rfl : n = m := by omega
    clear h1 h2 h3 h4 lx ly hm g1
    go_enter Try.func31, Try.ntmps31
    go_wp2_with fail
    refine (specAreBits A n c xs true _ hx hn H1.out).mono ?_
    rintro e w' ⟨rfl, rfl⟩
    go_wp2_with fail
    refine (specAreBits B n d ys true _ hy hmm H3.out).mono ?_
    rintro e w' ⟨rfl, rfl⟩
    go_wp2_with fail
    refine (btParity_any A B n c d xs ys _ hx hy hn64 G1.out G3.out).mono ?_
    rintro e w' ⟨rfl, rfl⟩
    go_wp2_with fail
    go_ret2
    obtain ⟨h1, rfl⟩ := Prod.mk.inj HM.out
    exact ⟨retIntB (by rw [← HL.out]; exact h1), Below.refl _ _⟩

set_option maxHeartbeats 1000000 in
theorem impl_ParityOf (A : Option Addr) (n c : Nat) (xs : List Int) (B : Option Addr) (m d : Nat) (ys : List Int) (ry : Int) (rb : Bool) (w : World) (hx : Has w A n xs) (hn : n ≤ 16777216) (hy : Has w B m ys) (hmm : m ≤ 16777216) (hm : m_ParityOf xs ys = (ry, rb)) :
    Calls Try.prog 30 #[.slice A n c, .slice B m d] w fun e w' => e = .returned (.tuple #[.int .i64 ry, .bool rb]) ∧ Below w.heap.size w w' := by
  cases h2 : even xs ys with
  | false =>
    rw [m_ParityOf, h2, if_neg (by simp)] at hm
    obtain ⟨rfl, rfl⟩ := Prod.mk.inj hm
    have H2 := Lib.hid h2
    clear h2 hm
    go_enter Try.func30, Try.ntmps30
    go_wp2_with fail
    refine (areEven_any A B n m c d xs ys false _ hx hy hn hmm H2.out).mono ?_
    rintro e w' ⟨rfl, rfl⟩
    go_wp2_with fail
    go_ret2
    exact ⟨rfl, Below.refl _ _⟩
  | true =>
    rw [m_ParityOf, h2, if_pos rfl] at hm
    have HM := Lib.hid hm
    have H2 := Lib.hid h2
    obtain ⟨h1, h3, h4⟩ := even_yes h2
    have HL := Lib.hid hx.1
    have LY := Lib.hid hy.1
    have g1 := good_yes h1
    have G1 := Lib.hid g1.2
    have G3 := Lib.hid (good_yes h3).2
    have hn64 : n ≤ 64 := by have := g1.1; have := hx.1; omega
    obtain rfl : n = m := by have := hx.1; have := hy.1; omega
    clear h1 h2 h3 h4 hm g1
    go_enter Try.func30, Try.ntmps30
    go_wp2_with fail
    refine (areEven_any A B n n c d xs ys true _ hx hy hn hmm H2.out).mono ?_
    rintro e w' ⟨rfl, rfl⟩
    go_wp2
    go_loopw [6, 14] (fun s i wr => ∃ (k : Nat) (t : Int), k ≤ n ∧ i = .int .i64 k ∧ s = .int .i64 t ∧ 0 ≤ t ∧ t ≤ 1 ∧ Hid (t = parTo xs ys k) ∧ Below w.heap.size w wr) (fun _ i _ => n - (intOf i).toNat)
    case atStart => exact ⟨0, 0, Nat.zero_le _, rfl, rfl, by omega, by omega, rfl, Below.refl _ _⟩
    case round =>
      obtain ⟨k, t, hk, rfl, rfl, t0, t1, HT, hbk⟩ := hrel
      by_cases hlt : k < n
      · obtain ⟨ad, z, rfl, hc, HZ⟩ := (hx.below hbk).elem hlt
        obtain ⟨bd, u, rfl, hd, HU⟩ := (hy.below hbk).elem hlt
        have z01 : 0 ≤ z ∧ z ≤ 1 := by rw [HZ.out]; exact G1.out k (by rw [HL.out]; exact hlt)
        have u01 : 0 ≤ u ∧ u ≤ 1 := by rw [HU.out]; exact G3.out k (by rw [LY.out]; exact hlt)
        have HS : Hid (parTo xs ys (k + 1) = (t + z * u) % 2) := by show (parTo xs ys k + _) % 2 = _; rw [← HT.out, ← HZ.out, ← HU.out]
        have k0 : (0 : Int) ≤ (k : Int) := by omega
        have k1 : (k : Int) < (n : Int) := by omega
        clear HT HZ HU
        rcases bit_cases ⟨t0, t1⟩ with rfl | rfl <;> rcases bit_cases z01 with rfl | rfl <;> rcases bit_cases u01 with rfl | rfl
        all_goals
          clear t0 t1 z01 u01
          go_wp2
          go_quiet (fail)
          go_wp2
          go_roundw
          case rel => exact ⟨k + 1, _, by omega, by go_num, rfl, by decide, by decide, by rw [HS.out]; rfl, below_drewN hbk _⟩
          case measure => simp [intOf]; omega
      · obtain rfl : k = n := by omega
        go_wp2
        go_ret2
        obtain ⟨h1, rfl⟩ := Prod.mk.inj HM.out
        exact ⟨retIntB (by rw [HT.out, ← HL.out]; exact h1), hbk⟩

end Go.Proofs.Ytdocbkocekamlaa
