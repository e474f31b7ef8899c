/- What ParseBits does, the program's and the model's: both give the same bits, the program's in a row of its own. For texts of at most 1048576 bytes. -/
import Derived.Test.YtaohgbkhmgfnhaaDoorBits7

import Derived.Lib.OthersKept
namespace Go.Proofs.YtaohgbkhmgfnhaaDoor
open Go.RowKit
set_option maxRecDepth 100000

/-- The byte at a place of a text. -/
def chr (s : ByteArray) (k : Nat) : Int := if h : k < s.size then ((s[k]'h).toNat : Int) else 0
theorem chr_at {s : ByteArray} {k : Nat} (h : k < s.size) : chr s k = ((s[k]'h).toNat : Int) := by simp [chr, h]

/-- The bit of a byte, -1 for a byte that is none. -/
def bitOf (c : Int) : Int := if 0 ≤ c - 48 ∧ c - 48 ≤ 1 then c - 48 else -1
def parsed (s : ByteArray) : List Int := mapTo (fun j => bitOf (chr s (s.size - 1 - j))) s.size
def m_ParseBits (s : ByteArray) : List Int × Bool := if good 64 (parsed s) then (parsed s, true) else ([], false)

theorem parsed_length (s : ByteArray) : (parsed s).length = s.size := mapTo_length _ _

theorem bitOf_good {c : Int} : (0 ≤ bitOf c ∧ bitOf c ≤ 1) ↔ (c = 48 ∨ c = 49) := by
  unfold bitOf
  split <;> omega
theorem parsed_at (s : ByteArray) {k : Nat} (h : k < s.size) : (parsed s).getD k 0 = bitOf (chr s (s.size - 1 - k)) := mapTo_at _ h

/-- All bytes are the characters of bits. -/
theorem parse_yes {s : ByteArray} (h : s.size ≤ 64) (hd : ∀ k, k < s.size → chr s k = 48 ∨ chr s k = 49) : m_ParseBits s = (parsed s, true) := by
  have hg : good 64 (parsed s) = true := good_mk (by rw [parsed_length]; exact h) (fun k hk => by
    rw [parsed_length] at hk
    rw [parsed_at s hk]
    exact bitOf_good.2 (hd _ (by omega)))
  rw [m_ParseBits, hg, if_pos rfl]
/-- A byte is none. -/
theorem parse_no {s : ByteArray} {k : Nat} (hk : k < s.size) (hd : ¬ (chr s k = 48 ∨ chr s k = 49)) : m_ParseBits s = ([], false) := by
  cases hg : good 64 (parsed s) with
  | false => rw [m_ParseBits, hg, if_neg (by simp)]
  | true =>
    have h1 := (good_yes hg).2 (s.size - 1 - k) (by rw [parsed_length]; omega)
    rw [parsed_at s (by omega), show s.size - 1 - (s.size - 1 - k) = k by omega] at h1
    exact absurd (bitOf_good.1 h1) hd
theorem parse_long {s : ByteArray} (h : 64 < s.size) : m_ParseBits s = ([], false) := by
  cases hg : good 64 (parsed s) with
  | false => rw [m_ParseBits, hg, if_neg (by simp)]
  | true => have h1 := (good_yes hg).1; rw [parsed_length] at h1; omega

theorem Filled.iterAt {w : World} {B e g n : Nat} {ys : List Value} {D : Nat → Prop} (h : Filled w B e g n ys D) {N : Nat} (hN : g ≠ N) (s : ByteArray) (p : Nat) : Filled (w.iterAt N s p) B e g n ys D :=
  h.kept (row := some N) ⟨rfl, rfl, rfl, by rw [Lib.iterAt_size]; exact Nat.le_refl _, fun k _ hne => Lib.iterAt_other w N k s p (fun e => hne (by rw [e]))⟩ (fun e => hN (by injection e))

theorem iterPosOf {w : World} {N : Nat} {s : ByteArray} {p : Nat} (h : w.heap[N]? = some (.stringIter s p)) : w.iterPos N = p := by simp [World.iterPos, h]

end Go.Proofs.YtaohgbkhmgfnhaaDoor
