/- Decimal texts as the library writes them and as the mathematics here does; strings put together. -/
import Derived.Test.YtibaiajanggbdaaGreatDoorCirM7
import Derived.Test.YtibaiajanggbdaaGreatDoorCirL1
import Derived.Lib.ItoaMem
import Derived.Lib.Join
namespace Go.Proofs.YtibaiajanggbdaaGreatDoor
open Go Go.RowKit
set_option maxRecDepth 100000

/-- The bytes of a list of characters' numbers. -/
def bytesL (zs : List Int) : List UInt8 := zs.map fun n => UInt8.ofNat n.toNat
theorem bytesL_append (xs ys : List Int) : bytesL (xs ++ ys) = bytesL xs ++ bytesL ys := by simp [bytesL]
theorem bytesL_length (xs : List Int) : (bytesL xs).length = xs.length := by simp [bytesL]
theorem bytesL_str (zs : List Int) : strOfNums zs = ⟨(bytesL zs).toArray⟩ := rfl
theorem bytesL_data (zs : List Int) : (strOfNums zs).data.toList = bytesL zs := rfl

theorem bytesL_num (u : Nat) : bytesL (numL u) = Lib.decDigits u := by
  induction u using Nat.strongRecOn with
  | ind u ih =>
    rw [Lib.decDigits]
    by_cases h : u < 10
    · rw [numL_small h, dif_pos h]
      show [UInt8.ofNat (48 + (u : Int)).toNat] = _
      rw [show (48 + (u : Int)).toNat = 48 + u by omega]
    · rw [numL_big h, dif_neg h, bytesL_append, ih (u / 10) (by omega)]
      show _ ++ [UInt8.ofNat (48 + ((u % 10 : Nat) : Int)).toNat] = _
      rw [show (48 + ((u % 10 : Nat) : Int)).toNat = 48 + u % 10 by omega]
theorem itoa_num (u : Nat) : Lib.itoa (u : Int) = bytesL (numL u) := by rw [Lib.itoa_nonneg, bytesL_num]

/-- Strings put together with nothing between. -/
theorem join_empty (xs : List (List UInt8)) : Lib.join xs [] = xs.flatten := by
  cases xs with
  | nil => rfl
  | cons x r =>
    rw [Lib.join_cons, Lib.joinTail]
    simp
theorem numL_pos (u : Nat) : 1 ≤ (numL u).length := by
  by_cases h : u < 10
  · rw [numL_small h]; simp
  · rw [numL_big h]; simp
theorem numsL_length (is : List Int) (h : ∀ j, j < is.length → 0 ≤ is.getD j 0 ∧ is.getD j 0 ≤ 1000000) : (numsL is).length ≤ 8 * is.length := by
  induction is with
  | nil => simp [numsL]
  | cons i is ih =>
    have h0 := h 0 (by simp)
    have hi : 0 ≤ i ∧ i ≤ 1000000 := h0
    have := ih fun j hj => by
      have := h (j + 1) (by simp; omega)
      simpa using this
    have e : numsL (i :: is) = (32 :: numL i.toNat) ++ numsL is := rfl
    have l7 := numL_length 6 i.toNat (by omega)
    rw [e, List.length_append, List.length_cons, List.length_cons]
    omega

end Go.Proofs.YtibaiajanggbdaaGreatDoor
