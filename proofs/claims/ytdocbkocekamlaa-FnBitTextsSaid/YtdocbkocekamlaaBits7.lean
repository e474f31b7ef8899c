/- What TurnBits does, the program's and the model's: both give the same bits, the program's in a row of its own. For slices of at most 16777216 elements. -/
import Derived.Test.YtdocbkocekamlaaBits6
namespace Go.Proofs.Ytdocbkocekamlaa
open Go.RowKit

theorem tmod_emod (a m : Int) : a.tmod m % m = a % m := by
  have h := Int.tmod_add_mul_tdiv a m
  conv => rhs; rw [← h]
  rw [Int.add_mul_emod_self_left]

set_option maxHeartbeats 400000 in
theorem btMod_any (a m : Int) (r : Nat) (w : World) (ha : -2000 ≤ a) (hb : a ≤ 2000) (hm : 0 < m) (hm2 : m ≤ 64) (hr : a % m = (r : Int)) :
    Calls Try.prog 46 #[.int .i64 a, .int .i64 m] w fun e w' => e = .returned (.int .i64 (r : Int)) ∧ w = w' := by
  have HR := Lib.hid hr
  clear hr
  by_cases h0 : 0 ≤ a
  · have e0 := Int.emod_nonneg a (show m ≠ 0 by omega)
    have e1 := Int.emod_lt_of_pos a hm
    go_enter Try.func46, Try.ntmps46
    go_wp2
    go_ret
    exact ⟨retInt (by rw [Int.add_emod_right, Int.emod_emod, HR.out]), rfl⟩
  · have e0 := Int.lt_tmod_of_pos a hm
    have e1 := Int.tmod_lt_of_pos a hm
    go_enter Try.func46, Try.ntmps46
    go_wp2
    go_ret
    exact ⟨retInt (by rw [tmod_emod, HR.out]), rfl⟩

set_option maxHeartbeats 400000 in
theorem residueOf_any (a m : Int) (r : Nat) (w : World) (ha : -2000 ≤ a) (hb : a ≤ 2000) (hm : 0 < m) (hm2 : m ≤ 64) (hr : a % m = (r : Int)) :
    Calls Try.prog 44 #[.int .i64 a, .int .i64 m] w fun e w' => e = .returned (.int .i64 (r : Int)) ∧ w = w' := by
  have HR := Lib.hid hr
  clear hr
  by_cases h0 : 0 ≤ a
  · have e0 := Int.emod_nonneg a (show m ≠ 0 by omega)
    have e1 := Int.emod_lt_of_pos a hm
    go_enter Try.func44, Try.ntmps44
    go_wp2
    go_ret
    exact ⟨retInt (by rw [Int.add_emod_right, Int.emod_emod, HR.out]), rfl⟩
  · have e0 := Int.lt_tmod_of_pos a hm
    have e1 := Int.tmod_lt_of_pos a hm
    go_enter Try.func44, Try.ntmps44
    go_wp2
    go_ret
    exact ⟨retInt (by rw [tmod_emod, HR.out]), rfl⟩

def turnOk (zs : List Int) (k : Int) : Bool := good 64 zs && (decide (-1000 ≤ k) && decide (k ≤ 1000))
def turned (zs : List Int) (k : Int) (j : Nat) : Int := zs.getD (((j : Int) + k) % (zs.length : Int)).toNat 0
def m_TurnBits (zs : List Int) (k : Int) : List Int × Bool := if turnOk zs k then (mapTo (turned zs k) zs.length, true) else ([], false)

/-- The place from which bit j is taken. -/
theorem turn_place {n j : Nat} {k : Int} (hj : j < n) : ∃ r : Nat, ((j : Int) + k) % (n : Int) = (r : Int) ∧ r < n := by
  have e0 := Int.emod_nonneg ((j : Int) + k) (show (n : Int) ≠ 0 by omega)
  have e1 := Int.emod_lt_of_pos ((j : Int) + k) (show (0 : Int) < (n : Int) by omega)
  exact ⟨(((j : Int) + k) % (n : Int)).toNat, by omega, by omega⟩

set_option maxHeartbeats 1000000 in
theorem spec_TurnBits (A : Option Addr) (n c : Nat) (zs : List Int) (k : Int) (rs : List Int) (rb : Bool) (w : World) (h : Has w A n zs) (hn : n ≤ 16777216) (_hk : I64 k) (hm : m_TurnBits zs k = (rs, rb)) :
    Calls Try.prog 21 #[.slice A n c, .int .i64 k] w fun e w' => ∃ R m c', e = .returned (.tuple #[.slice R m c', .bool rb]) ∧ Has w' R m rs ∧ m ≤ 16777216 ∧ Below w.heap.size w w' := by
  have HL := Lib.hid h.1
  cases hg : good 64 zs with
  | false =>
    rw [m_TurnBits, turnOk, hg, if_neg (by simp)] at hm
    obtain ⟨rfl, rfl⟩ := Prod.mk.inj hm
    have HG := Lib.hid hg
    clear hm hg
    go_enter Try.func21, Try.ntmps21
    go_wp2_with (go_at_call 10; refine (specAreBits A n c zs false _ h hn HG.out).mono ?_; rintro e w' ⟨rfl, rfl⟩)
    go_ret2
    exact ⟨none, 0, 0, rfl, Has.nil_, by omega, Below.refl _ _⟩
  | true =>
    have HG := Lib.hid hg
    cases hkr : (decide (-1000 ≤ k) && decide (k ≤ 1000)) with
    | false =>
      rw [m_TurnBits, turnOk, hg, hkr, if_neg (by simp)] at hm
      obtain ⟨rfl, rfl⟩ := Prod.mk.inj hm
      have HK := Lib.hid hkr
      clear hm hg hkr
      go_enter Try.func21, Try.ntmps21
      go_wp2_with (first | (go_at_call 10; refine (specAreBits A n c zs true _ h hn HG.out).mono ?_; rintro e w' ⟨rfl, rfl⟩) | (go_at_call 45; refine (l1In_any _ _ _ false _ HK.out).mono ?_; rintro e w' ⟨rfl, rfl⟩))
      go_ret2
      exact ⟨none, 0, 0, rfl, Has.nil_, by omega, Below.refl _ _⟩
    | true =>
      rw [m_TurnBits, turnOk, hg, hkr, if_pos (by rfl)] at hm
      have HK := Lib.hid hkr
      have HM := Lib.hid hm
      have hn64 : n ≤ 64 := by have := (good_yes hg).1; have := h.1; omega
      have k0 : -1000 ≤ k ∧ k ≤ 1000 := by simpa using hkr
      clear hm hg hkr
      go_enter Try.func21, Try.ntmps21
      go_wp2_with (first | (go_at_call 10; refine (specAreBits A n c zs true _ h hn HG.out).mono ?_; rintro e w' ⟨rfl, rfl⟩) | (go_at_call 45; refine (l1In_any _ _ _ true _ HK.out).mono ?_; rintro e w' ⟨rfl, rfl⟩))
      go_loopw [6, 18] (fun v i wr => ∃ j : Nat, j ≤ n ∧ i = .int .i64 j ∧ wr.ownsRow w.heap.size 3 1 v j (vals (mapTo (turned zs k) j)) ∧ Below w.heap.size w wr) (fun _ i _ => n - (intOf i).toNat)
      case atStart => exact ⟨0, Nat.zero_le _, rfl, World.ownsRow_nil _ _ _ _, Below.refl _ _⟩
      case round =>
        obtain ⟨j, hj, rfl, hown, hbk⟩ := hrel
        by_cases hlt : j < n
        · obtain ⟨r, hr, hrn⟩ := turn_place (k := k) hlt
          have HR := Lib.hid hr
          clear hr
          obtain ⟨ad, z, rfl, hc, HZ⟩ := (h.below hbk).elem hrn
          have hsz := hbk.size
          have HT : Hid (z = turned zs k j) := by show _ = _; rw [HZ.out, turned, HL.out, HR.out, Int.toNat_natCast]
          go_wp2_with (first | (go_at_call 46; refine (btMod_any ((j : Int) + k) (n : Int) r _ (by omega) (by omega) (by omega) (by omega) HR.out).mono ?_; rintro e w' ⟨rfl, rfl⟩) | (at_builtin; refine appendInt wr rfl (.tmp 21) (.tmp 31) rfl z w.heap.size _ j _ rfl rfl hown (by omega) hsz ?_; intro v' w1 hown1 hb1))
          go_roundw
          case rel =>
            refine ⟨j + 1, by omega, by go_num, ?_, hbk.trans hb1⟩
            rw [mapTo_succ, ← HT.out]
            exact hown1
          case measure => simp [intOf]; omega
        · obtain rfl : j = n := by omega
          go_wp2
          go_ret2
          obtain ⟨R, c', rfl, ho⟩ := ownOf hown
          obtain ⟨h1, rfl⟩ := Prod.mk.inj HM.out
          rw [HL.out] at h1
          subst h1
          exact ⟨R, j, c', rfl, ho.has, hn, hbk⟩

set_option maxHeartbeats 1000000 in
theorem impl_TurnBits (A : Option Addr) (n c : Nat) (zs : List Int) (k : Int) (rs : List Int) (rb : Bool) (w : World) (h : Has w A n zs) (hn : n ≤ 16777216) (_hk : I64 k) (hm : m_TurnBits zs k = (rs, rb)) :
    Calls Try.prog 20 #[.slice A n c, .int .i64 k] w fun e w' => ∃ R m c', e = .returned (.tuple #[.slice R m c', .bool rb]) ∧ Own w' w.heap.size R m c' rs ∧ m ≤ 16777216 ∧ Below w.heap.size w w' := by
  have HL := Lib.hid h.1
  cases hg : good 64 zs with
  | false =>
    rw [m_TurnBits, turnOk, hg, if_neg (by simp)] at hm
    obtain ⟨rfl, rfl⟩ := Prod.mk.inj hm
    have HG := Lib.hid hg
    clear hm hg
    go_enter Try.func20, Try.ntmps20
    go_wp2_with (go_at_call 9; refine (implAreBits A n c zs false _ h hn HG.out).mono ?_; rintro e w' ⟨rfl, rfl⟩)
    go_ret2
    exact ⟨none, 0, 0, rfl, noList _⟩
  | true =>
    have HG := Lib.hid hg
    by_cases k1 : k < -1000
    · rw [m_TurnBits, turnOk, hg, if_neg (by simp; omega)] at hm
      obtain ⟨rfl, rfl⟩ := Prod.mk.inj hm
      clear hm hg
      go_enter Try.func20, Try.ntmps20
      go_wp2_with (go_at_call 9; refine (implAreBits A n c zs true _ h hn HG.out).mono ?_; rintro e w' ⟨rfl, rfl⟩)
      go_ret2
      exact ⟨none, 0, 0, rfl, noList _⟩
    · by_cases k2 : 1000 < k
      · rw [m_TurnBits, turnOk, hg, if_neg (by simp; omega)] at hm
        obtain ⟨rfl, rfl⟩ := Prod.mk.inj hm
        clear hm hg
        go_enter Try.func20, Try.ntmps20
        go_wp2_with (go_at_call 9; refine (implAreBits A n c zs true _ h hn HG.out).mono ?_; rintro e w' ⟨rfl, rfl⟩)
        go_ret2
        exact ⟨none, 0, 0, rfl, noList _⟩
      · rw [m_TurnBits, turnOk, hg, if_pos (by simp; omega)] at hm
        have HM := Lib.hid hm
        have hn64 : n ≤ 64 := by have := (good_yes hg).1; have := h.1; omega
        clear hm hg
        go_enter Try.func20, Try.ntmps20
        go_wp2_with (first | (go_at_call 9; refine (implAreBits A n c zs true _ h hn HG.out).mono ?_; rintro e w' ⟨rfl, rfl⟩) | (at_make; refine makeInts _ rfl _ rfl n rfl hn ?_; intro w1 hf hb1))
        have hf := hf (vals (mapTo (turned zs k) n))
        go_loopw [24] (fun i wr => ∃ j : Nat, j ≤ n ∧ i = .int .i64 j ∧ Filled wr w.heap.size 3 w.heap.size n (vals (mapTo (turned zs k) n)) (fun q => q < j) ∧ Below w.heap.size w wr) (fun i _ => n - (intOf i).toNat)
        case atStart => exact ⟨0, Nat.zero_le _, rfl, hf, hb1⟩
        case round =>
          obtain ⟨j, hj, rfl, hfk, hbk⟩ := hrel
          by_cases hlt : j < n
          · obtain ⟨r, hr, hrn⟩ := turn_place (k := k) hlt
            have HR := Lib.hid hr
            clear hr
            obtain ⟨ad, z, rfl, hc, HZ⟩ := (h.below hbk).elem hrn
            have HT : Hid (z = turned zs k j) := by show _ = _; rw [HZ.out, turned, HL.out, HR.out, Int.toNat_natCast]
            obtain ⟨u, hu⟩ := hfk.cell hlt
            have hfr := hfk.free j
            go_wp2_with (go_at_call 44; refine (residueOf_any ((j : Int) + k) (n : Int) r _ (by omega) (by omega) (by omega) (by omega) HR.out).mono ?_; rintro e w' ⟨rfl, rfl⟩)
            go_roundw
            case rel =>
              refine ⟨j + 1, by omega, by go_num, ?_, hbk.setCell (Nat.le_refl _) _⟩
              exact hfk.put hlt (by rw [mapTo_vals _ hlt, ← HT.out]) (by intro q _ hq; omega)
            case measure => simp [intOf]; omega
          · go_wp2
            go_ret2
            obtain ⟨h1, rfl⟩ := Prod.mk.inj HM.out
            rw [HL.out] at h1
            subst h1
            exact ⟨some ⟨w.heap.size, 0, none⟩, n, n, rfl, ⟨mapTo_length _ _, hfk.full (by rw [vals_length, mapTo_length]) (by intro q hq; omega)⟩, hn, hbk⟩

end Go.Proofs.Ytdocbkocekamlaa
