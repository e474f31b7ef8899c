/- What NotBits and XorBits do, the program's and the model's: both give the same bits, the program's in a row of its own. For slices of at most 16777216 elements. -/
import Derived.Test.YtjalpankapakkaaDoorBits3
import Derived.Test.YtjalpankapakkaaDoorLists
namespace Go.Proofs.YtjalpankapakkaaDoor
open Go.RowKit

def m_NotBits (zs : List Int) : List Int × Bool := if good 64 zs then (mapTo (fun j => 1 - zs.getD j 0) zs.length, true) else ([], false)
def m_XorBits (xs ys : List Int) : List Int × Bool := if even xs ys then (mapTo (fun j => (xs.getD j 0 + ys.getD j 0) % 2) xs.length, true) else ([], false)

/-- The answer 'no list, false'. -/
theorem noList (w : World) : Own w w.heap.size none 0 0 [] ∧ 0 ≤ 16777216 ∧ Below w.heap.size w w := ⟨Own.nil_ _ _, by omega, Below.refl _ _⟩

set_option maxHeartbeats 1000000 in
theorem btXor_any (A B : Option Addr) (n c d : Nat) (xs ys : List Int) (w : World) (hx : Has w A n xs) (hy : Has w B n ys) (hn : n ≤ 64)
    (gx : ∀ k, k < xs.length → 0 ≤ xs.getD k 0 ∧ xs.getD k 0 ≤ 1) (gy : ∀ k, k < ys.length → 0 ≤ ys.getD k 0 ∧ ys.getD k 0 ≤ 1) :
    Calls Tryd.prog 37 #[.slice A n c, .slice B n d] w fun e w' => ∃ R c', e = .returned (.slice R n c') ∧ Own w' w.heap.size R n c' (mapTo (fun j => (xs.getD j 0 + ys.getD j 0) % 2) n) ∧ Below w.heap.size w w' := by
  have GX := Lib.hid gx
  have GY := Lib.hid gy
  have LX := Lib.hid hx.1
  have LY := Lib.hid hy.1
  clear gx gy
  go_enter Tryd.func37, Tryd.ntmps37
  go_wp2
  go_loopw [5, 10] (fun v i wr => ∃ k : Nat, k ≤ n ∧ i = .int .i64 k ∧ wr.ownsRow w.heap.size 3 1 v k (vals (mapTo (fun j => (xs.getD j 0 + ys.getD j 0) % 2) k)) ∧ Below w.heap.size w wr) (fun _ i _ => n - (intOf i).toNat)
  case atStart => exact ⟨0, Nat.zero_le _, rfl, World.ownsRow_nil _ _ _ _, Below.refl _ _⟩
  case round =>
    obtain ⟨k, hk, rfl, hown, hbk⟩ := hrel
    by_cases hlt : k < n
    · obtain ⟨ad, z, rfl, hc, HZ⟩ := (hx.below hbk).elem hlt
      obtain ⟨bd, u, rfl, hd, HU⟩ := (hy.below hbk).elem hlt
      have z01 : 0 ≤ z ∧ z ≤ 1 := by rw [HZ.out]; exact GX.out k (by rw [LX.out]; exact hlt)
      have u01 : 0 ≤ u ∧ u ≤ 1 := by rw [HU.out]; exact GY.out k (by rw [LY.out]; exact hlt)
      have hsz := hbk.size
      have HS : Hid ((xs.getD k 0 + ys.getD k 0) % 2 = (z + u) % 2) := by show _ = _; rw [← HZ.out, ← HU.out]
      clear HZ HU
      rcases bit_cases z01 with rfl | rfl <;> rcases bit_cases u01 with rfl | rfl
      all_goals
        clear z01 u01
        go_wp2_with (at_builtin; refine appendInt wr rfl (.tmp 15) (.tmp 22) rfl _ w.heap.size _ k _ rfl rfl hown (by omega) hsz ?_; intro v' w1 hown1 hb1)
        go_roundw
        case rel =>
          refine ⟨k + 1, by omega, by go_num, ?_, hbk.trans hb1⟩
          rw [mapTo_succ, HS.out]
          exact hown1
        case measure => simp [intOf]; omega
    · obtain rfl : k = n := by omega
      go_wp2
      go_ret
      obtain ⟨R, c', rfl, ho⟩ := ownOf hown
      exact ⟨R, c', rfl, ho, hbk⟩

set_option maxHeartbeats 1000000 in
theorem impl_XorBits (A : Option Addr) (n c : Nat) (xs : List Int) (B : Option Addr) (m d : Nat) (ys : List Int) (rs : List Int) (rb : Bool) (w : World) (hx : Has w A n xs) (hn : n ≤ 16777216) (hy : Has w B m ys) (hmm : m ≤ 16777216) (hm : m_XorBits xs ys = (rs, rb)) :
    Calls Tryd.prog 34 #[.slice A n c, .slice B m d] w fun e w' => ∃ R m c', e = .returned (.tuple #[.slice R m c', .bool rb]) ∧ Own w' w.heap.size R m c' rs ∧ m ≤ 16777216 ∧ Below w.heap.size w w' := by
  cases h2 : even xs ys with
  | false =>
    rw [m_XorBits, h2, if_neg (by simp)] at hm
    obtain ⟨rfl, rfl⟩ := Prod.mk.inj hm
    have H2 := Lib.hid h2
    clear h2 hm
    go_enter Tryd.func34, Tryd.ntmps34
    go_wp2_with fail
    refine (areEven_any A B n m c d xs ys false _ hx hy hn hmm H2.out).mono ?_
    rintro e w' ⟨rfl, rfl⟩
    go_wp2_with fail
    go_ret2
    exact ⟨none, 0, 0, rfl, noList _⟩
  | true =>
    rw [m_XorBits, h2, if_pos rfl] at hm
    have HM := Lib.hid hm
    have H2 := Lib.hid h2
    obtain ⟨h1, h3, h4⟩ := even_yes h2
    have HL := Lib.hid hx.1
    have LY := Lib.hid hy.1
    have g1 := good_yes h1
    have G1 := Lib.hid g1.2
    have G3 := Lib.hid (good_yes h3).2
    have hn64 : n ≤ 64 := by have := g1.1; have := hx.1; omega
    obtain rfl : n = m := by have := hx.1; have := hy.1; omega
    clear h1 h2 h3 h4 hm g1
    go_enter Tryd.func34, Tryd.ntmps34
    go_wp2_with fail
    refine (areEven_any A B n n c d xs ys true _ hx hy hn hmm H2.out).mono ?_
    rintro e w' ⟨rfl, rfl⟩
    go_wp2_with (at_make; refine makeInts _ rfl _ rfl n rfl hn ?_; intro w1 hf hb1)
    have hf := hf (vals (mapTo (fun j => (xs.getD j 0 + ys.getD j 0) % 2) n))
    go_loopw [17] (fun i wr => ∃ k : Nat, k ≤ n ∧ i = .int .i64 k ∧ Filled wr w.heap.size 3 w.heap.size n (vals (mapTo (fun j => (xs.getD j 0 + ys.getD j 0) % 2) n)) (fun j => j < k) ∧ Below w.heap.size w wr) (fun i _ => n - (intOf i).toNat)
    case atStart => exact ⟨0, Nat.zero_le _, rfl, hf, hb1⟩
    case round =>
      obtain ⟨k, hk, rfl, hfk, hbk⟩ := hrel
      by_cases hlt : k < n
      · obtain ⟨ad, z, rfl, hc, HZ⟩ := (hx.below hbk).elem hlt
        obtain ⟨bd, u, rfl, hd, HU⟩ := (hy.below hbk).elem hlt
        have z01 : 0 ≤ z ∧ z ≤ 1 := by rw [HZ.out]; exact G1.out k (by rw [HL.out]; exact hlt)
        have u01 : 0 ≤ u ∧ u ≤ 1 := by rw [HU.out]; exact G3.out k (by rw [LY.out]; exact hlt)
        have HS : Hid ((xs.getD k 0 + ys.getD k 0) % 2 = (z + u) % 2) := by show _ = _; rw [← HZ.out, ← HU.out]
        have k0 : (0 : Int) ≤ (k : Int) := by omega
        have k1 : (k : Int) < (n : Int) := by omega
        obtain ⟨q, hq⟩ := hfk.cell hlt
        have hfr := hfk.free k
        clear HZ HU
        rcases bit_cases z01 with rfl | rfl <;> rcases bit_cases u01 with rfl | rfl
        all_goals
          clear z01 u01
          go_wp2
          go_region
          go_wp2
          go_roundw
          case rel =>
            refine ⟨k + 1, by omega, by go_num, ?_, (hbk.setCell (Nat.le_refl _) _).drew⟩
            exact (hfk.put hlt (by rw [mapTo_vals _ hlt, HS.out]; rfl) (by intro j _ hj; omega)).drew
          case measure => simp [intOf]; omega
      · go_wp2
        go_ret2
        obtain ⟨h1, rfl⟩ := Prod.mk.inj HM.out
        rw [HL.out] at h1
        subst h1
        exact ⟨some ⟨w.heap.size, 0, none⟩, n, n, rfl, ⟨mapTo_length _ _, hfk.full (by rw [vals_length, mapTo_length]) (by intro j hj; omega)⟩, hn, hbk⟩

end Go.Proofs.YtjalpankapakkaaDoor
