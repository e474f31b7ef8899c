/- Several texts in one: Bits2, Bits3, Bits4, Bits5, Bits6, Bits7, Bits8, Bits9. What each says stands at its head. -/
import Derived.Test.YteiibneaihdmbaaBits1
import Derived.Test.YteiibneaihdmbaaLists
import Derived.Lib.OthersKept
import Derived.Laws.BytesArg

/- What WeightOf, ParityOf and NumberOf do, the program's and the model's: each answers the same function of the bits, and leaves memory as it was. For slices of at most 16777216 elements. -/
namespace Go.Proofs.Yteiibneaihdmbaa
open Go.RowKit
set_option maxRecDepth 100000


theorem i64eq {a b : Int} (h : a = b) : Value.int .i64 a = Value.int .i64 b := by rw [h]
theorem retInt {a b : Int} (h : a = b) : Ending.returned (.int .i64 a) = .returned (.int .i64 b) := by rw [h]
theorem retIntB {a b : Int} {x : Bool} (h : a = b) : Ending.returned (.tuple #[.int .i64 a, .bool x]) = .returned (.tuple #[.int .i64 b, .bool x]) := by rw [h]

def sumTo (zs : List Int) : Nat → Int
  | 0 => 0
  | k + 1 => sumTo zs k + zs.getD k 0

def m_WeightOf (zs : List Int) : Int × Bool := if good 64 zs then (sumTo zs zs.length, true) else (0, false)

end Go.Proofs.Yteiibneaihdmbaa

/- What ParityOf and the tests of two lists of bits do, the program's and the model's. For slices of at most 16777216 elements. -/
namespace Go.Proofs.Yteiibneaihdmbaa
open Go.RowKit
set_option maxRecDepth 100000


/-- Both are bits, of one length. -/
def even (xs ys : List Int) : Bool := good 64 xs && good 64 ys && decide (xs.length = ys.length)

theorem even_yes {xs ys : List Int} (h : even xs ys = true) : good 64 xs = true ∧ good 64 ys = true ∧ xs.length = ys.length := by
  unfold even at h
  rw [Bool.and_eq_true, Bool.and_eq_true, decide_eq_true_eq] at h
  exact ⟨h.1.1, h.1.2, h.2⟩

theorem even_cases (xs ys : List Int) : (good 64 xs = false ∧ even xs ys = false) ∨ (good 64 xs = true ∧ good 64 ys = false ∧ even xs ys = false) ∨
    (good 64 xs = true ∧ good 64 ys = true ∧ ¬ xs.length = ys.length ∧ even xs ys = false) ∨ (good 64 xs = true ∧ good 64 ys = true ∧ xs.length = ys.length ∧ even xs ys = true) := by
  unfold even
  cases h1 : good 64 xs with
  | false => exact .inl ⟨rfl, rfl⟩
  | true =>
    cases h2 : good 64 ys with
    | false => exact .inr (.inl ⟨rfl, rfl, rfl⟩)
    | true =>
      by_cases h3 : xs.length = ys.length
      · exact .inr (.inr (.inr ⟨rfl, rfl, h3, by simp [h3]⟩))
      · exact .inr (.inr (.inl ⟨rfl, rfl, h3, by simp [h3]⟩))

/-- The test of two lists as the model has it: three tests in a row. -/
theorem bit_cases {z : Int} (h : 0 ≤ z ∧ z ≤ 1) : z = 0 ∨ z = 1 := by omega

def parTo (xs ys : List Int) : Nat → Int
  | 0 => 0
  | k + 1 => (parTo xs ys k + xs.getD k 0 * ys.getD k 0) % 2

def m_ParityOf (xs ys : List Int) : Int × Bool := if even xs ys then (parTo xs ys xs.length, true) else (0, false)

end Go.Proofs.Yteiibneaihdmbaa

/- What NumberOf and SignedOf do, the program's and the model's: both give the same number of a word. For slices of at most 16777216 elements. -/
namespace Go.Proofs.Yteiibneaihdmbaa
open Go.RowKit
set_option maxRecDepth 100000


def numTo (zs : List Int) : Nat → Int
  | 0 => 0
  | k + 1 => numTo zs k + zs.getD k 0 * 2 ^ k

theorem numTo_range (zs : List Int) : ∀ k, (∀ j, j < k → 0 ≤ zs.getD j 0 ∧ zs.getD j 0 ≤ 1) → 0 ≤ numTo zs k ∧ numTo zs k < 2 ^ k := by
  intro k
  induction k with
  | zero => intro _; simp [numTo]
  | succ k ih =>
    intro h
    have h1 := ih (fun j hj => h j (by omega))
    have h2 := h k (by omega)
    rcases bit_cases h2 with e | e <;> simp only [numTo, e, Int.pow_succ] <;> omega

def m_NumberOf (zs : List Int) : Int × Bool := if good 16 zs then (numTo zs zs.length, true) else (0, false)
def m_SignedOf (zs : List Int) : Int × Bool := if good 16 zs && decide (0 < zs.length) then (numTo zs zs.length - zs.getD (zs.length - 1) 0 * 2 ^ zs.length, true) else (0, false)

theorem pow16 {k : Nat} (h : k ≤ 16) : (2 : Int) ^ k ≤ 65536 ∧ 1 ≤ (2 : Int) ^ k := by
  rcases (show k = 0 ∨ k = 1 ∨ k = 2 ∨ k = 3 ∨ k = 4 ∨ k = 5 ∨ k = 6 ∨ k = 7 ∨ k = 8 ∨ k = 9 ∨ k = 10 ∨ k = 11 ∨ k = 12 ∨ k = 13 ∨ k = 14 ∨ k = 15 ∨ k = 16 by omega) with e | e | e | e | e | e | e | e | e | e | e | e | e | e | e | e | e <;> subst e <;> decide

theorem num_step (a z t p : Int) : a + z * p + t * (p * 2) = a + (2 * t + z) * p := by grind
theorem le_mul_pow {t p : Int} (h : 0 ≤ t) (hp : 1 ≤ p) : t ≤ t * p := by
  have := Int.mul_le_mul_of_nonneg_left hp h
  omega

end Go.Proofs.Yteiibneaihdmbaa

/- What NotBits and XorBits do, the program's and the model's: both give the same bits, the program's in a row of its own. For slices of at most 16777216 elements. -/
namespace Go.Proofs.Yteiibneaihdmbaa
open Go.RowKit
set_option maxRecDepth 100000


def m_NotBits (zs : List Int) : List Int × Bool := if good 64 zs then (mapTo (fun j => 1 - zs.getD j 0) zs.length, true) else ([], false)
def m_XorBits (xs ys : List Int) : List Int × Bool := if even xs ys then (mapTo (fun j => (xs.getD j 0 + ys.getD j 0) % 2) xs.length, true) else ([], false)

/-- The answer 'no list, false'. -/
theorem noList (w : World) : Own w w.heap.size none 0 0 [] ∧ 0 ≤ 16777216 ∧ Below w.heap.size w w := ⟨Own.nil_ _ _, by omega, Below.refl _ _⟩

end Go.Proofs.Yteiibneaihdmbaa

/- What BitsOf and TurnBits do, the program's and the model's: both give the same bits, the program's in a row of its own. For slices of at most 16777216 elements. -/
namespace Go.Proofs.Yteiibneaihdmbaa
open Go.RowKit
set_option maxRecDepth 100000


def m_BitsOf (n width : Int) : List Int × Bool := if 0 ≤ width ∧ width ≤ 16 ∧ 0 ≤ n ∧ n < 2 ^ width.toNat then (mapTo (fun j => n / 2 ^ j % 2) width.toNat, true) else ([], false)

theorem and_one (n : Int) : bits .and .i64 n 1 = n % 2 := by
  have h : ∀ b : BitVec 64, (b &&& 1#64).toNat = b.toNat % 2 := fun b => by
    rw [BitVec.toNat_and]
    simp [Nat.and_one_is_mod]
  show IntKind.i64.wrap (((BitVec.ofInt 64 n) &&& (BitVec.ofInt 64 1)).toNat : Int) = n % 2
  have e : (BitVec.ofInt 64 1) = 1#64 := by decide
  rw [e, h, BitVec.toNat_ofInt, IntKind.wrap_i64]
  omega

theorem half_pow (n : Int) (k : Nat) : n / 2 ^ (k + 1) = n / 2 ^ k / 2 := by
  rw [Int.ediv_ediv, Int.pow_succ, if_neg (by have : (0 : Int) ≤ 2 ^ k := Int.pow_nonneg (by omega); omega), Int.sub_zero]

set_option maxHeartbeats 400000 in
theorem btOf_any (n : Int) (m : Nat) (w : World) (h0 : 0 ≤ n) (h1 : n ≤ 65536) (hm : m ≤ 16) :
    Calls Try.prog 141 #[.int .i64 n, .int .i64 (m : Int)] w fun e w' => ∃ R c', e = .returned (.slice R m c') ∧ Own w' w.heap.size R m c' (mapTo (fun j => n / 2 ^ j % 2) m) ∧ Below w.heap.size w w' := by
  go_enter Try.func141, Try.ntmps141
  go_wp2
  go_loopw [0, 1, 5] (fun q i v wr => ∃ (k : Nat) (t : Int), k ≤ m ∧ i = .int .i64 ((m : Int) - (k : Int)) ∧ q = .int .i64 t ∧ 0 ≤ t ∧ t ≤ 65536 ∧ Hid (t = n / 2 ^ k) ∧ wr.ownsRow w.heap.size 3 1 v k (vals (mapTo (fun j => n / 2 ^ j % 2) k)) ∧ Below w.heap.size w wr) (fun _ i _ _ => (intOf i).toNat)
  case atStart => exact ⟨0, n, Nat.zero_le _, by simp, rfl, h0, h1, by show _ = _; simp, World.ownsRow_nil _ _ _ _, Below.refl _ _⟩
  case round =>
    obtain ⟨k, t, hk, rfl, rfl, t0, t1, HT, hown, hbk⟩ := hrel
    have hsz := hbk.size
    by_cases hlt : k < m
    · go_wp2_with (at_builtin; refine appendInt wr rfl (.tmp 10) (.tmp 13) rfl _ w.heap.size _ k _ rfl rfl hown (by omega) hsz ?_; intro v' w1 hown1 hb1)
      go_roundw
      case rel =>
        refine ⟨k + 1, t / 2, by omega, by go_num, rfl, by omega, by omega, by show _ = _; rw [half_pow, ← HT.out], ?_, hbk.trans hb1⟩
        rw [mapTo_succ, ← HT.out]
        exact hown1
      case measure => simp [intOf]; omega
    · obtain rfl : k = m := by omega
      go_wp2
      go_ret
      obtain ⟨R, c', rfl, ho⟩ := ownOf hown
      exact ⟨R, c', rfl, ho, hbk⟩

set_option maxHeartbeats 400000 in
theorem impl_BitsOf (n width : Int) (rs : List Int) (rb : Bool) (w : World) (_hn : I64 n) (_hw : I64 width) (hm : m_BitsOf n width = (rs, rb)) :
    Calls Try.prog 96 #[.int .i64 n, .int .i64 width] w fun e w' => ∃ R m c', e = .returned (.tuple #[.slice R m c', .bool rb]) ∧ Own w' w.heap.size R m c' rs ∧ m ≤ 16777216 ∧ Below w.heap.size w w' := by
  by_cases hc : 0 ≤ width ∧ width ≤ 16 ∧ 0 ≤ n ∧ n < 2 ^ width.toNat
  · rw [m_BitsOf, if_pos hc] at hm
    have HM := Lib.hid hm
    obtain ⟨m, rfl⟩ : ∃ m : Nat, width = (m : Int) := ⟨width.toNat, by omega⟩
    have hm16 : m ≤ 16 := by omega
    have p2 := pow16 hm16
    have hn0 : 0 ≤ n := hc.2.2.1
    have hn2 : n < 2 ^ m := by have := hc.2.2.2; rw [Int.toNat_natCast] at this; exact this
    clear hc hm
    go_enter Try.func96, Try.ntmps96
    go_wp2_with (at_make; refine makeInts _ rfl _ rfl m rfl (by omega) ?_; intro w1 hf hb1)
    have hf := hf (vals (mapTo (fun j => n / 2 ^ j % 2) m))
    go_loopw [28] (fun i wr => ∃ k : Nat, k ≤ m ∧ i = .int .i64 k ∧ Filled wr w.heap.size 3 w.heap.size m (vals (mapTo (fun j => n / 2 ^ j % 2) m)) (fun j => j < k) ∧ Below w.heap.size w wr) (fun i _ => m - (intOf i).toNat)
    case atStart => exact ⟨0, Nat.zero_le _, rfl, hf, hb1⟩
    case round =>
      obtain ⟨k, hk, rfl, hfk, hbk⟩ := hrel
      by_cases hlt : k < m
      · obtain ⟨u, hu⟩ := hfk.cell hlt
        have hfr := hfk.free k
        go_wp2
        go_roundw
        case rel =>
          refine ⟨k + 1, by omega, by go_num, ?_, hbk.setCell (Nat.le_refl _) _⟩
          exact hfk.put hlt (by rw [mapTo_vals _ hlt, and_one]) (by intro j _ hj; omega)
        case measure => simp [intOf]; omega
      · go_wp2
        go_ret2
        obtain ⟨h1, rfl⟩ := Prod.mk.inj HM.out
        rw [Int.toNat_natCast] at h1
        subst h1
        exact ⟨some ⟨w.heap.size, 0, none⟩, m, m, rfl, ⟨mapTo_length _ _, hfk.full (by rw [vals_length, mapTo_length]) (by intro j hj; omega)⟩, by omega, hbk⟩
  · rw [m_BitsOf, if_neg hc] at hm
    obtain ⟨rfl, rfl⟩ := Prod.mk.inj hm
    clear hm
    by_cases w0 : width < 0
    · go_enter Try.func96, Try.ntmps96
      go_wp2
      go_ret2
      exact ⟨none, 0, 0, rfl, noList _⟩
    · by_cases w1 : 16 < width
      · go_enter Try.func96, Try.ntmps96
        go_wp2
        go_ret2
        exact ⟨none, 0, 0, rfl, noList _⟩
      · obtain ⟨m, rfl⟩ : ∃ m : Nat, width = (m : Int) := ⟨width.toNat, by omega⟩
        have hm16 : m ≤ 16 := by omega
        have p2 := pow16 hm16
        by_cases n0 : n < 0
        · clear hc p2
          go_enter Try.func96, Try.ntmps96
          go_wp2
          go_ret2
          exact ⟨none, 0, 0, rfl, noList _⟩
        · have n1 : 2 ^ m ≤ n := by rw [Int.toNat_natCast] at hc; omega
          clear hc
          go_enter Try.func96, Try.ntmps96
          go_wp2
          go_ret2
          exact ⟨none, 0, 0, rfl, noList _⟩

end Go.Proofs.Yteiibneaihdmbaa

/- What TurnBits does, the program's and the model's: both give the same bits, the program's in a row of its own. For slices of at most 16777216 elements. -/
namespace Go.Proofs.Yteiibneaihdmbaa
open Go.RowKit
set_option maxRecDepth 100000


theorem tmod_emod (a m : Int) : a.tmod m % m = a % m := by
  have h := Int.tmod_add_mul_tdiv a m
  conv => rhs; rw [← h]
  rw [Int.add_mul_emod_self_left]

def turnOk (zs : List Int) (k : Int) : Bool := good 64 zs && (decide (-1000 ≤ k) && decide (k ≤ 1000))
def turned (zs : List Int) (k : Int) (j : Nat) : Int := zs.getD (((j : Int) + k) % (zs.length : Int)).toNat 0
def m_TurnBits (zs : List Int) (k : Int) : List Int × Bool := if turnOk zs k then (mapTo (turned zs k) zs.length, true) else ([], false)

/-- The place from which bit j is taken. -/
theorem turn_place {n j : Nat} {k : Int} (hj : j < n) : ∃ r : Nat, ((j : Int) + k) % (n : Int) = (r : Int) ∧ r < n := by
  have e0 := Int.emod_nonneg ((j : Int) + k) (show (n : Int) ≠ 0 by omega)
  have e1 := Int.emod_lt_of_pos ((j : Int) + k) (show (0 : Int) < (n : Int) by omega)
  exact ⟨(((j : Int) + k) % (n : Int)).toNat, by omega, by omega⟩

end Go.Proofs.Yteiibneaihdmbaa

/- What ParseBits does, the program's and the model's: both give the same bits, the program's in a row of its own. For texts of at most 1048576 bytes. -/

namespace Go.Proofs.Yteiibneaihdmbaa
open Go.RowKit
set_option maxRecDepth 100000


/-- The byte at a place of a text. -/
def chr (s : ByteArray) (k : Nat) : Int := if h : k < s.size then ((s[k]'h).toNat : Int) else 0
theorem chr_at {s : ByteArray} {k : Nat} (h : k < s.size) : chr s k = ((s[k]'h).toNat : Int) := by simp [chr, h]

/-- The bit of a byte, -1 for a byte that is none. -/
def bitOf (c : Int) : Int := if 0 ≤ c - 48 ∧ c - 48 ≤ 1 then c - 48 else -1
def parsed (s : ByteArray) : List Int := mapTo (fun j => bitOf (chr s (s.size - 1 - j))) s.size
def m_ParseBits (s : ByteArray) : List Int × Bool := if good 64 (parsed s) then (parsed s, true) else ([], false)

theorem parsed_length (s : ByteArray) : (parsed s).length = s.size := mapTo_length _ _

theorem bitOf_good {c : Int} : (0 ≤ bitOf c ∧ bitOf c ≤ 1) ↔ (c = 48 ∨ c = 49) := by
  unfold bitOf
  split <;> omega
theorem parsed_at (s : ByteArray) {k : Nat} (h : k < s.size) : (parsed s).getD k 0 = bitOf (chr s (s.size - 1 - k)) := mapTo_at _ h

/-- All bytes are the characters of bits. -/
theorem parse_yes {s : ByteArray} (h : s.size ≤ 64) (hd : ∀ k, k < s.size → chr s k = 48 ∨ chr s k = 49) : m_ParseBits s = (parsed s, true) := by
  have hg : good 64 (parsed s) = true := good_mk (by rw [parsed_length]; exact h) (fun k hk => by
    rw [parsed_length] at hk
    rw [parsed_at s hk]
    exact bitOf_good.2 (hd _ (by omega)))
  rw [m_ParseBits, hg, if_pos rfl]
/-- A byte is none. -/
theorem parse_no {s : ByteArray} {k : Nat} (hk : k < s.size) (hd : ¬ (chr s k = 48 ∨ chr s k = 49)) : m_ParseBits s = ([], false) := by
  cases hg : good 64 (parsed s) with
  | false => rw [m_ParseBits, hg, if_neg (by simp)]
  | true =>
    have h1 := (good_yes hg).2 (s.size - 1 - k) (by rw [parsed_length]; omega)
    rw [parsed_at s (by omega), show s.size - 1 - (s.size - 1 - k) = k by omega] at h1
    exact absurd (bitOf_good.1 h1) hd
theorem parse_long {s : ByteArray} (h : 64 < s.size) : m_ParseBits s = ([], false) := by
  cases hg : good 64 (parsed s) with
  | false => rw [m_ParseBits, hg, if_neg (by simp)]
  | true => have h1 := (good_yes hg).1; rw [parsed_length] at h1; omega

theorem Filled.iterAt {w : World} {B e g n : Nat} {ys : List Value} {D : Nat → Prop} (h : Filled w B e g n ys D) {N : Nat} (hN : g ≠ N) (s : ByteArray) (p : Nat) : Filled (w.iterAt N s p) B e g n ys D :=
  h.kept (row := some N) ⟨rfl, rfl, rfl, by rw [Lib.iterAt_size]; exact Nat.le_refl _, fun k _ hne => Lib.iterAt_other w N k s p (fun e => hne (by rw [e]))⟩ (fun e => hN (by injection e))

theorem iterPosOf {w : World} {N : Nat} {s : ByteArray} {p : Nat} (h : w.heap[N]? = some (.stringIter s p)) : w.iterPos N = p := by simp [World.iterPos, h]

end Go.Proofs.Yteiibneaihdmbaa

/- What BitsText does, the program's and the model's: both give the same text. For slices of at most 16777216 elements. -/
namespace Go.Proofs.Yteiibneaihdmbaa
open Go.RowKit
set_option maxRecDepth 100000


theorem infoByte : (Try.prog.info? 5).map (fun i => (i.zero, i.size, i.bytes)) = some (some (.int .u8 0), 1, 1) := by kernel_rfl

/-- The numbers of the characters of a list of bits, the last one first. -/
def code (zs : List Int) (j : Nat) : Int := 48 + zs.getD (zs.length - 1 - j) 0
def codes (zs : List Int) : List Int := mapTo (code zs) zs.length
def m_BitsText (zs : List Int) : ByteArray × Bool := if good 64 zs then (strOfNums (codes zs), true) else (ByteArray.empty, false)

theorem strOf_append (xs ys : List Int) : strOfNums xs ++ strOfNums ys = strOfNums (xs ++ ys) := by
  unfold strOfNums
  rw [ByteArray.mk_append_mk, List.map_append]
theorem retStrB {a b : ByteArray} {x : Bool} (h : a = b) : Ending.returned (.tuple #[.string a, .bool x]) = .returned (.tuple #[.string b, .bool x]) := by rw [h]
theorem retStr {a b : ByteArray} (h : a = b) : Ending.returned (.string a) = .returned (.string b) := by rw [h]

end Go.Proofs.Yteiibneaihdmbaa
