/- What BitsOf and TurnBits do, the program's and the model's: both give the same bits, the program's in a row of its own. For slices of at most 16777216 elements. -/
import Derived.Test.YtaohgbkhmgfnhaaBits4
import Derived.Test.YtaohgbkhmgfnhaaBits5
namespace Go.Proofs.Ytaohgbkhmgfnhaa
open Go.RowKit
set_option maxRecDepth 100000

def m_BitsOf (n width : Int) : List Int × Bool := if 0 ≤ width ∧ width ≤ 16 ∧ 0 ≤ n ∧ n < 2 ^ width.toNat then (mapTo (fun j => n / 2 ^ j % 2) width.toNat, true) else ([], false)

theorem and_one (n : Int) : bits .and .i64 n 1 = n % 2 := by
  have h : ∀ b : BitVec 64, (b &&& 1#64).toNat = b.toNat % 2 := fun b => by
    rw [BitVec.toNat_and]
    simp [Nat.and_one_is_mod]
  show IntKind.i64.wrap (((BitVec.ofInt 64 n) &&& (BitVec.ofInt 64 1)).toNat : Int) = n % 2
  have e : (BitVec.ofInt 64 1) = 1#64 := by decide
  rw [e, h, BitVec.toNat_ofInt, IntKind.wrap_i64]
  omega

theorem half_pow (n : Int) (k : Nat) : n / 2 ^ (k + 1) = n / 2 ^ k / 2 := by
  rw [Int.ediv_ediv, Int.pow_succ, if_neg (by have : (0 : Int) ≤ 2 ^ k := Int.pow_nonneg (by omega); omega), Int.sub_zero]

set_option maxHeartbeats 400000 in
theorem btOf_any (n : Int) (m : Nat) (w : World) (h0 : 0 ≤ n) (h1 : n ≤ 65536) (hm : m ≤ 16) :
    Calls Try.prog 112 #[.int .i64 n, .int .i64 (m : Int)] w fun e w' => ∃ R c', e = .returned (.slice R m c') ∧ Own w' w.heap.size R m c' (mapTo (fun j => n / 2 ^ j % 2) m) ∧ Below w.heap.size w w' := by
  go_enter Try.func112, Try.ntmps112
  go_wp2
  go_loopw [0, 1, 5] (fun q i v wr => ∃ (k : Nat) (t : Int), k ≤ m ∧ i = .int .i64 ((m : Int) - (k : Int)) ∧ q = .int .i64 t ∧ 0 ≤ t ∧ t ≤ 65536 ∧ Hid (t = n / 2 ^ k) ∧ wr.ownsRow w.heap.size 3 1 v k (vals (mapTo (fun j => n / 2 ^ j % 2) k)) ∧ Below w.heap.size w wr) (fun _ i _ _ => (intOf i).toNat)
  case atStart => exact ⟨0, n, Nat.zero_le _, by simp, rfl, h0, h1, by show _ = _; simp, World.ownsRow_nil _ _ _ _, Below.refl _ _⟩
  case round =>
    obtain ⟨k, t, hk, rfl, rfl, t0, t1, HT, hown, hbk⟩ := hrel
    have hsz := hbk.size
    by_cases hlt : k < m
    · go_wp2_with (at_builtin; refine appendInt wr rfl (.tmp 10) (.tmp 13) rfl _ w.heap.size _ k _ rfl rfl hown (by omega) hsz ?_; intro v' w1 hown1 hb1)
      go_roundw
      case rel =>
        refine ⟨k + 1, t / 2, by omega, by go_num, rfl, by omega, by omega, by show _ = _; rw [half_pow, ← HT.out], ?_, hbk.trans hb1⟩
        rw [mapTo_succ, ← HT.out]
        exact hown1
      case measure => simp [intOf]; omega
    · obtain rfl : k = m := by omega
      go_wp2
      go_ret
      obtain ⟨R, c', rfl, ho⟩ := ownOf hown
      exact ⟨R, c', rfl, ho, hbk⟩

set_option maxHeartbeats 400000 in
theorem impl_BitsOf (n width : Int) (rs : List Int) (rb : Bool) (w : World) (_hn : I64 n) (_hw : I64 width) (hm : m_BitsOf n width = (rs, rb)) :
    Calls Try.prog 81 #[.int .i64 n, .int .i64 width] w fun e w' => ∃ R m c', e = .returned (.tuple #[.slice R m c', .bool rb]) ∧ Own w' w.heap.size R m c' rs ∧ m ≤ 16777216 ∧ Below w.heap.size w w' := by
  by_cases hc : 0 ≤ width ∧ width ≤ 16 ∧ 0 ≤ n ∧ n < 2 ^ width.toNat
  · rw [m_BitsOf, if_pos hc] at hm
    have HM := Lib.hid hm
    obtain ⟨m, rfl⟩ : ∃ m : Nat, width = (m : Int) := ⟨width.toNat, by omega⟩
    have hm16 : m ≤ 16 := by omega
    have p2 := pow16 hm16
    have hn0 : 0 ≤ n := hc.2.2.1
    have hn2 : n < 2 ^ m := by have := hc.2.2.2; rw [Int.toNat_natCast] at this; exact this
    clear hc hm
    go_enter Try.func81, Try.ntmps81
    go_wp2_with (at_make; refine makeInts _ rfl _ rfl m rfl (by omega) ?_; intro w1 hf hb1)
    have hf := hf (vals (mapTo (fun j => n / 2 ^ j % 2) m))
    go_loopw [28] (fun i wr => ∃ k : Nat, k ≤ m ∧ i = .int .i64 k ∧ Filled wr w.heap.size 3 w.heap.size m (vals (mapTo (fun j => n / 2 ^ j % 2) m)) (fun j => j < k) ∧ Below w.heap.size w wr) (fun i _ => m - (intOf i).toNat)
    case atStart => exact ⟨0, Nat.zero_le _, rfl, hf, hb1⟩
    case round =>
      obtain ⟨k, hk, rfl, hfk, hbk⟩ := hrel
      by_cases hlt : k < m
      · obtain ⟨u, hu⟩ := hfk.cell hlt
        have hfr := hfk.free k
        go_wp2
        go_roundw
        case rel =>
          refine ⟨k + 1, by omega, by go_num, ?_, hbk.setCell (Nat.le_refl _) _⟩
          exact hfk.put hlt (by rw [mapTo_vals _ hlt, and_one]) (by intro j _ hj; omega)
        case measure => simp [intOf]; omega
      · go_wp2
        go_ret2
        obtain ⟨h1, rfl⟩ := Prod.mk.inj HM.out
        rw [Int.toNat_natCast] at h1
        subst h1
        exact ⟨some ⟨w.heap.size, 0, none⟩, m, m, rfl, ⟨mapTo_length _ _, hfk.full (by rw [vals_length, mapTo_length]) (by intro j hj; omega)⟩, by omega, hbk⟩
  · rw [m_BitsOf, if_neg hc] at hm
    obtain ⟨rfl, rfl⟩ := Prod.mk.inj hm
    clear hm
    by_cases w0 : width < 0
    · go_enter Try.func81, Try.ntmps81
      go_wp2
      go_ret2
      exact ⟨none, 0, 0, rfl, noList _⟩
    · by_cases w1 : 16 < width
      · go_enter Try.func81, Try.ntmps81
        go_wp2
        go_ret2
        exact ⟨none, 0, 0, rfl, noList _⟩
      · obtain ⟨m, rfl⟩ : ∃ m : Nat, width = (m : Int) := ⟨width.toNat, by omega⟩
        have hm16 : m ≤ 16 := by omega
        have p2 := pow16 hm16
        by_cases n0 : n < 0
        · clear hc p2
          go_enter Try.func81, Try.ntmps81
          go_wp2
          go_ret2
          exact ⟨none, 0, 0, rfl, noList _⟩
        · have n1 : 2 ^ m ≤ n := by rw [Int.toNat_natCast] at hc; omega
          clear hc
          go_enter Try.func81, Try.ntmps81
          go_wp2
          go_ret2
          exact ⟨none, 0, 0, rfl, noList _⟩

end Go.Proofs.Ytaohgbkhmgfnhaa
