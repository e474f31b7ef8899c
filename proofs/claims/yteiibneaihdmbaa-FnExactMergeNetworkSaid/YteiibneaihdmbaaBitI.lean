/- Integers bit by bit: and, or, exclusive-or of small numbers, powers of two. -/
import Derived.Test.YteiibneaihdmbaaGen1
namespace Go.Proofs.Yteiibneaihdmbaa
open Go Go.RowKit
set_option maxRecDepth 100000

/-! ## bit by bit -/
theorem two64 : (2 : Nat) ^ 64 = 18446744073709551616 := by decide
theorem wrapNat {m : Nat} (h : m < 1048576) : IntKind.i64.wrap (m : Int) = (m : Int) := wrapIn (by omega) (by omega)
theorem ofNat64 {m : Nat} (h : m < 1048576) : (BitVec.ofInt 64 (m : Int)).toNat = m := by
  rw [BitVec.toNat_ofInt]
  have e : ((m : Int) % ((2 ^ 64 : Nat) : Int)) = (m : Int) := Int.emod_eq_of_lt (by omega) (by rw [two64]; omega)
  rw [e]; rfl
theorem bitsAnd {a b : Nat} (ha : a < 1048576) (hb : b < 1048576) : bits .and .i64 (a : Int) (b : Int) = ((a &&& b : Nat) : Int) := by
  show IntKind.i64.wrap ((BitVec.ofInt 64 (a : Int) &&& BitVec.ofInt 64 (b : Int)).toNat : Int) = _
  rw [BitVec.toNat_and, ofNat64 ha, ofNat64 hb]
  exact wrapNat (Nat.lt_of_le_of_lt Nat.and_le_left ha)
theorem bitsOr {a b : Nat} (ha : a < 1048576) (hb : b < 1048576) : bits .or .i64 (a : Int) (b : Int) = ((a ||| b : Nat) : Int) := by
  show IntKind.i64.wrap ((BitVec.ofInt 64 (a : Int) ||| BitVec.ofInt 64 (b : Int)).toNat : Int) = _
  rw [BitVec.toNat_or, ofNat64 ha, ofNat64 hb]
  exact wrapNat (Nat.or_lt_two_pow (n := 20) ha hb)
theorem bitsXor {a b : Nat} (ha : a < 1048576) (hb : b < 1048576) : bits .xor .i64 (a : Int) (b : Int) = ((a ^^^ b : Nat) : Int) := by
  show IntKind.i64.wrap ((BitVec.ofInt 64 (a : Int) ^^^ BitVec.ofInt 64 (b : Int)).toNat : Int) = _
  rw [BitVec.toNat_xor, ofNat64 ha, ofNat64 hb]
  exact wrapNat (Nat.xor_lt_two_pow (n := 20) ha hb)
theorem pow2_pos (n : Nat) : (0 : Int) < 2 ^ n := Int.pow_pos (by omega)
theorem pow2_le {n m : Nat} (h : n ≤ m) : (2 : Int) ^ n ≤ 2 ^ m := by
  have := Nat.pow_le_pow_right (n := 2) (by omega) h
  exact_mod_cast this
theorem pow2_ten {n : Nat} (h : n ≤ 10) : (2 : Int) ^ n ≤ 1024 := by have := pow2_le h; simpa using this
end Go.Proofs.Yteiibneaihdmbaa
