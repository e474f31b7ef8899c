/- What BitsOf and TurnBits do, the program's and the model's: both give the same bits, the program's in a row of its own. For slices of at most 16777216 elements. -/
import Derived.Test.YtaohgbkhmgfnhaaDoorBits4
import Derived.Test.YtaohgbkhmgfnhaaDoorBits5
namespace Go.Proofs.YtaohgbkhmgfnhaaDoor
open Go.RowKit
set_option maxRecDepth 100000

def m_BitsOf (n width : Int) : List Int × Bool := if 0 ≤ width ∧ width ≤ 16 ∧ 0 ≤ n ∧ n < 2 ^ width.toNat then (mapTo (fun j => n / 2 ^ j % 2) width.toNat, true) else ([], false)

theorem and_one (n : Int) : bits .and .i64 n 1 = n % 2 := by
  have h : ∀ b : BitVec 64, (b &&& 1#64).toNat = b.toNat % 2 := fun b => by
    rw [BitVec.toNat_and]
    simp [Nat.and_one_is_mod]
  show IntKind.i64.wrap (((BitVec.ofInt 64 n) &&& (BitVec.ofInt 64 1)).toNat : Int) = n % 2
  have e : (BitVec.ofInt 64 1) = 1#64 := by decide
  rw [e, h, BitVec.toNat_ofInt, IntKind.wrap_i64]
  omega

theorem half_pow (n : Int) (k : Nat) : n / 2 ^ (k + 1) = n / 2 ^ k / 2 := by
  rw [Int.ediv_ediv, Int.pow_succ, if_neg (by have : (0 : Int) ≤ 2 ^ k := Int.pow_nonneg (by omega); omega), Int.sub_zero]

end Go.Proofs.YtaohgbkhmgfnhaaDoor
