/- What the two general laws of chapter 1 need of the bits themselves: numbers, turns, texts, opposites and parities are undone. Plain mathematics; the conditions are those of each lemma. -/
import Derived.Test.YtdocbkocekamlaaBits9
namespace Go.Proofs.Ytdocbkocekamlaa
open Go.RowKit

theorem getD_out {zs : List Int} {k : Nat} (h : zs.length ≤ k) : zs.getD k 0 = 0 := by simp [List.getD, List.getElem?_eq_none h]
theorem list_ext {xs ys : List Int} (hl : xs.length = ys.length) (h : ∀ k, k < xs.length → xs.getD k 0 = ys.getD k 0) : xs = ys := by
  rw [list_eq_mapTo xs, list_eq_mapTo ys, ← hl]
  exact mapTo_eq h

theorem two_pow_ne (j : Nat) : (2 : Int) ^ j ≠ 0 := by
  have h : (0 : Int) < 2 ^ j := Int.pow_pos (by omega)
  omega

theorem numTo_bit (zs : List Int) : ∀ n, (∀ j, j < n → 0 ≤ zs.getD j 0 ∧ zs.getD j 0 ≤ 1) → ∀ j, j < n → numTo zs n / 2 ^ j % 2 = zs.getD j 0 := by
  intro n
  induction n with
  | zero => intro _ j hj; omega
  | succ n ih =>
    intro h j hj
    have hr := numTo_range zs n (fun i hi => h i (by omega))
    show (numTo zs n + zs.getD n 0 * 2 ^ n) / 2 ^ j % 2 = _
    by_cases e : j = n
    · subst e
      rw [Int.add_mul_ediv_right _ _ (two_pow_ne j), Int.ediv_eq_zero_of_lt hr.1 hr.2]
      have := h j (by omega)
      omega
    · obtain ⟨d, hd⟩ : ∃ d, n = j + 1 + d := ⟨n - (j + 1), by omega⟩
      have hp : zs.getD n 0 * 2 ^ n = (zs.getD n 0 * 2 ^ d * 2) * 2 ^ j := by
        have : (2 : Int) ^ n = 2 ^ d * 2 * 2 ^ j := by rw [hd, Int.pow_add, Int.pow_succ]; grind
        rw [this]; grind
      rw [hp, Int.add_mul_ediv_right _ _ (two_pow_ne j), Int.add_mul_emod_self_right]
      exact ih (fun i hi => h i (by omega)) j (by omega)

/-- A word is read back from its number. -/
theorem bits_back {zs : List Int} (hg : good 16 zs = true) : m_BitsOf (numTo zs zs.length) (zs.length : Int) = (zs, true) := by
  have hy := good_yes hg
  have hr := numTo_range zs zs.length hy.2
  rw [m_BitsOf, if_pos ⟨by omega, by omega, hr.1, by rw [Int.toNat_natCast]; exact hr.2⟩, Int.toNat_natCast]
  have : mapTo (fun j => numTo zs zs.length / 2 ^ j % 2) zs.length = zs := by
    conv => rhs; rw [list_eq_mapTo zs]
    exact mapTo_eq fun j hj => numTo_bit zs zs.length hy.2 j hj
  rw [this]

/-- The sum of the first n values of g. -/
def sumF (g : Nat → Int) : Nat → Int
  | 0 => 0
  | k + 1 => sumF g k + g k
theorem sumF_eq {f g : Nat → Int} : ∀ n, (∀ k, k < n → f k = g k) → sumF f n = sumF g n
  | 0, _ => rfl
  | n + 1, h => by simp only [sumF]; rw [sumF_eq n (fun k hk => h k (by omega)), h n (by omega)]
theorem sumTo_sumF (zs : List Int) : ∀ n, sumTo zs n = sumF (fun k => zs.getD k 0) n
  | 0 => rfl
  | n + 1 => by simp only [sumF, sumTo]; rw [sumTo_sumF zs n]
theorem sumF_shift (g : Nat → Int) : ∀ n, sumF (fun j => g (j + 1)) n = sumF g n + g n - g 0
  | 0 => by simp [sumF]
  | n + 1 => by simp only [sumF]; rw [sumF_shift g n]; omega

theorem turn_sum_step (F : Int → Int) (n : Nat) (hF : ∀ i, F (i + (n : Int)) = F i) (k : Int) : sumF (fun j => F ((j : Int) + (k + 1))) n = sumF (fun j => F ((j : Int) + k)) n := by
  have h := sumF_shift (fun j => F ((j : Int) + k)) n
  have e : sumF (fun j => F ((j : Int) + (k + 1))) n = sumF (fun j => (fun j : Nat => F ((j : Int) + k)) (j + 1)) n :=
    sumF_eq n (fun j _ => congrArg F (by omega))
  rw [e, h]
  have h1 : F ((n : Int) + k) = F (((0 : Nat) : Int) + k) := by
    have := hF k
    rw [Int.add_comm] at this
    rw [this]; congr 1; omega
  rw [h1]
  omega
theorem turn_sum_nat (F : Int → Int) (n : Nat) (hF : ∀ i, F (i + (n : Int)) = F i) (k : Int) : ∀ m : Nat, sumF (fun j => F ((j : Int) + (k + (m : Int)))) n = sumF (fun j => F ((j : Int) + k)) n
  | 0 => sumF_eq n (fun j _ => congrArg F (by omega))
  | m + 1 => by
    rw [← turn_sum_nat F n hF k m, ← turn_sum_step F n hF (k + (m : Int))]
    exact sumF_eq n (fun j _ => congrArg F (by omega))
theorem turn_sum (F : Int → Int) (n : Nat) (hF : ∀ i, F (i + (n : Int)) = F i) (k : Int) : sumF (fun j => F ((j : Int) + k)) n = sumF (fun j => F (j : Int)) n := by
  by_cases h : 0 ≤ k
  · have h1 := turn_sum_nat F n hF 0 k.toNat
    have e : sumF (fun j => F ((j : Int) + k)) n = sumF (fun j => F ((j : Int) + (0 + (k.toNat : Int)))) n := sumF_eq n (fun j _ => congrArg F (by omega))
    rw [e, h1]
    exact sumF_eq n (fun j _ => congrArg F (by omega))
  · have h1 := turn_sum_nat F n hF k (-k).toNat
    rw [← h1]
    exact sumF_eq n (fun j _ => congrArg F (by omega))

/-- Turning keeps the weight. -/
theorem turn_weight (zs : List Int) (k : Int) : sumTo (mapTo (turned zs k) zs.length) zs.length = sumTo zs zs.length := by
  rw [sumTo_sumF, sumTo_sumF]
  have e1 : sumF (fun j => (mapTo (turned zs k) zs.length).getD j 0) zs.length = sumF (fun j => (fun i : Int => zs.getD (i % (zs.length : Int)).toNat 0) ((j : Int) + k)) zs.length :=
    sumF_eq _ (fun j hj => by rw [mapTo_at _ hj]; rfl)
  rw [e1, turn_sum (fun i : Int => zs.getD (i % (zs.length : Int)).toNat 0) zs.length (fun i => by simp) k]
  exact sumF_eq _ (fun j hj => by
    show zs.getD _ 0 = _
    rw [Int.emod_eq_of_lt (by omega) (by omega), Int.toNat_natCast])

theorem turn_good {zs : List Int} {k : Int} (hg : good 64 zs = true) : good 64 (mapTo (turned zs k) zs.length) = true := by
  have hy := good_yes hg
  refine good_mk (by rw [mapTo_length]; exact hy.1) (fun j hj => ?_)
  rw [mapTo_length] at hj
  rw [mapTo_at _ hj]
  obtain ⟨r, hr, hrn⟩ := turn_place (k := k) hj
  rw [turned, hr, Int.toNat_natCast]
  exact hy.2 r hrn

/-- Turning back. -/
theorem turn_back {zs : List Int} {k : Int} (ho : turnOk zs k = true) : m_TurnBits (mapTo (turned zs k) zs.length) (-k) = (zs, true) := by
  have ho' := ho
  unfold turnOk at ho'
  simp only [Bool.and_eq_true, decide_eq_true_eq] at ho'
  have h1 : turnOk (mapTo (turned zs k) zs.length) (-k) = true := by
    unfold turnOk
    rw [turn_good ho'.1]
    simp
    omega
  rw [m_TurnBits, h1, if_pos rfl]
  have : mapTo (turned (mapTo (turned zs k) zs.length) (-k)) (mapTo (turned zs k) zs.length).length = zs := by
    rw [mapTo_length]
    conv => rhs; rw [list_eq_mapTo zs]
    refine mapTo_eq fun j hj => ?_
    obtain ⟨r, hr, hrn⟩ := turn_place (k := -k) hj
    rw [turned, mapTo_length, hr, Int.toNat_natCast, mapTo_at _ hrn, turned]
    have e : ((r : Int) + k) % (zs.length : Int) = (j : Int) := by
      rw [← hr, Int.emod_add_emod, show (j : Int) + -k + k = (j : Int) by omega, Int.emod_eq_of_lt (by omega) (by omega)]
    rw [e, Int.toNat_natCast]
  rw [this]

/-- Exclusive-or undoes itself. -/
theorem xor_back {xs ys : List Int} (h : even xs ys = true) : m_XorBits (mapTo (fun j => (xs.getD j 0 + ys.getD j 0) % 2) xs.length) ys = (xs, true) := by
  obtain ⟨h1, h2, h3⟩ := even_yes h
  have hy := good_yes h1
  have hz := good_yes h2
  have hg : good 64 (mapTo (fun j => (xs.getD j 0 + ys.getD j 0) % 2) xs.length) = true := good_mk (by rw [mapTo_length]; exact hy.1) (fun j hj => by
    rw [mapTo_length] at hj
    rw [mapTo_at _ hj]
    omega)
  have he : even (mapTo (fun j => (xs.getD j 0 + ys.getD j 0) % 2) xs.length) ys = true := by
    unfold even
    rw [hg, h2, mapTo_length]
    simp [h3]
  rw [m_XorBits, he, if_pos rfl]
  have : mapTo (fun j => ((mapTo (fun j => (xs.getD j 0 + ys.getD j 0) % 2) xs.length).getD j 0 + ys.getD j 0) % 2) (mapTo (fun j => (xs.getD j 0 + ys.getD j 0) % 2) xs.length).length = xs := by
    rw [mapTo_length]
    conv => rhs; rw [list_eq_mapTo xs]
    refine mapTo_eq fun j hj => ?_
    rw [mapTo_at _ hj]
    have a := hy.2 j hj
    have b := hz.2 j (by omega)
    omega
  rw [this]

theorem not_good {zs : List Int} (hg : good 64 zs = true) : good 64 (mapTo (fun j => 1 - zs.getD j 0) zs.length) = true := by
  have hy := good_yes hg
  refine good_mk (by rw [mapTo_length]; exact hy.1) (fun j hj => ?_)
  rw [mapTo_length] at hj
  rw [mapTo_at _ hj]
  have := hy.2 j hj
  omega

/-- The opposite of the opposite. -/
theorem not_back {zs : List Int} (hg : good 64 zs = true) : m_NotBits (mapTo (fun j => 1 - zs.getD j 0) zs.length) = (zs, true) := by
  rw [m_NotBits, not_good hg, if_pos rfl]
  have : mapTo (fun j => 1 - (mapTo (fun j => 1 - zs.getD j 0) zs.length).getD j 0) (mapTo (fun j => 1 - zs.getD j 0) zs.length).length = zs := by
    rw [mapTo_length]
    conv => rhs; rw [list_eq_mapTo zs]
    refine mapTo_eq fun j hj => ?_
    rw [mapTo_at _ hj]
    omega
  rw [this]

/-- A text is read back from its bits. -/
theorem text_back {s : ByteArray} (hg : good 64 (parsed s) = true) : m_BitsText (parsed s) = (s, true) := by
  have hy := good_yes hg
  rw [m_BitsText, hg, if_pos rfl]
  have hc : codes (parsed s) = mapTo (chr s) s.size := by
    unfold codes
    rw [parsed_length]
    refine mapTo_eq fun j hj => ?_
    have h1 := hy.2 (s.size - 1 - j) (by rw [parsed_length]; omega)
    rw [parsed_at s (by omega), show s.size - 1 - (s.size - 1 - j) = j by omega] at h1
    have h2 := bitOf_good.1 h1
    rw [code, parsed_length, parsed_at s (by omega), show s.size - 1 - (s.size - 1 - j) = j by omega]
    unfold bitOf
    rw [if_pos (by omega)]
    omega
  have : strOfNums (mapTo (chr s) s.size) = s := by
    unfold strOfNums
    apply ByteArray.ext
    apply Array.ext'
    apply List.ext_getElem?
    intro k
    simp only [mapTo, List.map_map]
    by_cases h : k < s.size
    · rw [List.getElem?_map, List.getElem?_range h]
      have hk : k < s.data.toList.length := by simpa using h
      rw [List.getElem?_eq_getElem hk]
      simp only [Option.map_some, Function.comp, chr_at h, Int.toNat_natCast]
      congr 1
      rw [UInt8.ofNat_toNat]
      simp [ByteArray.getElem_eq_getElem_data]
    · rw [List.getElem?_eq_none (by simpa using h), List.getElem?_eq_none (by simpa using h)]
  rw [hc, this]

/-- The parities of bits and of their opposites add up to the weight of the mask. -/
theorem par_add (xs ys : List Int) (hx : xs.length = ys.length) : ∀ k, k ≤ xs.length → (parTo xs ys k + parTo (mapTo (fun j => 1 - xs.getD j 0) xs.length) ys k) % 2 = sumTo ys k % 2
  | 0, _ => rfl
  | k + 1, hk => by
    have ih := par_add xs ys hx k (by omega)
    simp only [parTo, sumTo]
    rw [mapTo_at _ (by omega)]
    have e : (1 - xs.getD k 0) * ys.getD k 0 = ys.getD k 0 - xs.getD k 0 * ys.getD k 0 := by grind
    rw [e]
    generalize xs.getD k 0 * ys.getD k 0 = m
    omega

theorem number_yes {zs : List Int} {ry : Int} (h : m_NumberOf zs = (ry, true)) : good 16 zs = true ∧ ry = numTo zs zs.length := by
  cases hg : good 16 zs with
  | false => rw [m_NumberOf, hg, if_neg (by simp)] at h; have := (Prod.mk.inj h).2; cases this
  | true => rw [m_NumberOf, hg, if_pos rfl] at h; exact ⟨rfl, (Prod.mk.inj h).1.symm⟩
theorem signed_yes {zs : List Int} {sy : Int} (h : m_SignedOf zs = (sy, true)) : sy % 2 ^ zs.length = numTo zs zs.length ∧ -65536 ≤ sy ∧ sy ≤ 65536 := by
  cases hg : good 16 zs && decide (0 < zs.length) with
  | false => rw [m_SignedOf, hg, if_neg (by simp)] at h; have := (Prod.mk.inj h).2; cases this
  | true =>
    rw [m_SignedOf, hg, if_pos rfl] at h
    rw [Bool.and_eq_true, decide_eq_true_eq] at hg
    have hy := good_yes hg.1
    have hr := numTo_range zs zs.length hy.2
    have hz := hy.2 (zs.length - 1) (by omega)
    have hp := pow16 hy.1
    have he := (Prod.mk.inj h).1
    rw [← he]
    refine ⟨?_, ?_⟩
    · rw [Int.sub_mul_emod_self_right]
      exact Int.emod_eq_of_lt hr.1 hr.2
    · rcases bit_cases hz with e | e <;> rw [e] <;> omega

theorem xor_yes {xs ys rs : List Int} (h : m_XorBits xs ys = (rs, true)) : m_XorBits rs ys = (xs, true) := by
  cases hg : even xs ys with
  | false => rw [m_XorBits, hg, if_neg (by simp)] at h; have := (Prod.mk.inj h).2; cases this
  | true =>
    rw [m_XorBits, hg, if_pos rfl] at h
    rw [← (Prod.mk.inj h).1]
    exact xor_back hg
theorem turn_yes {zs rs : List Int} {k : Int} (h : m_TurnBits zs k = (rs, true)) : m_TurnBits rs (-k) = (zs, true) ∧ good 64 zs = true ∧ m_WeightOf zs = (sumTo zs zs.length, true) ∧ m_WeightOf rs = (sumTo zs zs.length, true) := by
  cases hg : turnOk zs k with
  | false => rw [m_TurnBits, hg, if_neg (by simp)] at h; have := (Prod.mk.inj h).2; cases this
  | true =>
    rw [m_TurnBits, hg, if_pos rfl] at h
    have hg' := hg
    unfold turnOk at hg'
    rw [Bool.and_eq_true] at hg'
    rw [← (Prod.mk.inj h).1]
    refine ⟨turn_back hg, hg'.1, by rw [m_WeightOf, hg'.1, if_pos rfl], ?_⟩
    rw [m_WeightOf, turn_good hg'.1, if_pos rfl, mapTo_length, turn_weight]

theorem not_law {zs : List Int} (hg : good 64 zs = true) : m_NotBits zs = (mapTo (fun j => 1 - zs.getD j 0) zs.length, true) := by
  rw [m_NotBits, hg, if_pos rfl]
theorem parse_law {s : ByteArray} {rs : List Int} (h : m_ParseBits s = (rs, true)) : m_BitsText rs = (s, true) ∧ ∃ ns, m_NotBits rs = (ns, true) ∧ m_NotBits ns = (rs, true) := by
  cases hg : good 64 (parsed s) with
  | false => rw [m_ParseBits, hg, if_neg (by simp)] at h; have := (Prod.mk.inj h).2; cases this
  | true =>
    rw [m_ParseBits, hg, if_pos rfl] at h
    rw [← (Prod.mk.inj h).1]
    exact ⟨text_back hg, _, not_law hg, not_back hg⟩
theorem parTo_range (xs ys : List Int) : ∀ k, 0 ≤ parTo xs ys k ∧ parTo xs ys k ≤ 1
  | 0 => by simp [parTo]
  | k + 1 => by simp only [parTo]; omega
theorem parity_law {xs ys : List Int} {p : Int} (h : m_ParityOf xs ys = (p, true)) :
    ∃ ns q, m_NotBits xs = (ns, true) ∧ m_ParityOf ns ys = (q, true) ∧ (p + q) % 2 = sumTo ys ys.length % 2 ∧ good 64 ys = true ∧ 0 ≤ p ∧ p ≤ 1 ∧ 0 ≤ q ∧ q ≤ 1 := by
  cases hg : even xs ys with
  | false => rw [m_ParityOf, hg, if_neg (by simp)] at h; have := (Prod.mk.inj h).2; cases this
  | true =>
    rw [m_ParityOf, hg, if_pos rfl] at h
    obtain ⟨g1, g2, g3⟩ := even_yes hg
    have he : even (mapTo (fun j => 1 - xs.getD j 0) xs.length) ys = true := by
      unfold even
      rw [not_good g1, g2, mapTo_length]
      simp [g3]
    refine ⟨_, _, not_law g1, by rw [m_ParityOf, he, if_pos rfl], ?_, g2, ?_⟩
    · rw [← (Prod.mk.inj h).1, mapTo_length, par_add xs ys g3 xs.length (Nat.le_refl _), g3]
    · rw [← (Prod.mk.inj h).1]
      have a := parTo_range xs ys xs.length
      have b := parTo_range (mapTo (fun j => 1 - xs.getD j 0) xs.length) ys (mapTo (fun j => 1 - xs.getD j 0) xs.length).length
      exact ⟨a.1, a.2, b.1, b.2⟩

end Go.Proofs.Ytdocbkocekamlaa
