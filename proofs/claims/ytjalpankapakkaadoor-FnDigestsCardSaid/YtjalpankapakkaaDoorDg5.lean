/- The program's functions of chapter 3 that give numbers or bits. For slices of at most 16777216 elements; the table of first numbers as start-up lays it. -/
import Derived.Test.YtjalpankapakkaaDoorDg4
namespace Go.Proofs.YtjalpankapakkaaDoor
open Go.RowKit

set_option maxHeartbeats 400000 in
theorem impl_DigestOf (A : Option Addr) (n c : Nat) (zs : List Int) (ry : Int) (rb : Bool) (w : World) (h : Has w A n zs) (hn : n ≤ 16777216) (_hnil : NilOk A n c) (hT : Starts w) (hm : m_DigestOf zs = (ry, rb)) :
    Calls Tryd.prog 21 #[.slice A n c] w fun e w' => e = .returned (.tuple #[.int .i64 ry, .bool rb]) ∧ Below w.heap.size w w' := by
  cases hg : words 12 zs with
  | false =>
    rw [m_DigestOf, hg, if_neg (by simp)] at hm
    obtain ⟨rfl, rfl⟩ := Prod.mk.inj hm
    have HG := Lib.hid hg
    clear hm hg
    go_enter Tryd.func21, Tryd.ntmps21
    go_wp2_with fail
    refine (areWords_any A n c zs false _ h hn HG.out).mono ?_
    rintro e w' ⟨rfl, rfl⟩
    go_wp2
    go_ret2
    exact ⟨rfl, Below.refl _ _⟩
  | true =>
    rw [m_DigestOf, hg, if_pos rfl] at hm
    obtain ⟨rfl, rfl⟩ := Prod.mk.inj hm
    have HG := Lib.hid hg
    have HE : Hid (words 12 (zs ++ []) = true) := by show _ = _; rw [List.append_nil]; exact hg
    clear hm hg
    go_enter Tryd.func21, Tryd.ntmps21
    go_wp2_with fail
    refine (areWords_any A n c zs true _ h hn HG.out).mono ?_
    rintro e w' ⟨rfl, rfl⟩
    go_wp2_with fail
    refine (digestOf_any A n c zs none 0 0 [] _ h Has.nil_ hT HE.out).mono ?_
    rintro e w' ⟨rfl, hb⟩
    go_wp2
    go_ret2
    exact ⟨rfl, hb⟩

set_option maxHeartbeats 400000 in
theorem impl_LabelFor (key tweak a b : Int) (ry : Int) (rb : Bool) (w : World) (_hk : I64 key) (_ht : I64 tweak) (_ha : I64 a) (_hb : I64 b) (hT : Starts w) (hm : m_LabelFor key tweak a b = (ry, rb)) :
    Calls Tryd.prog 24 #[.int .i64 key, .int .i64 tweak, .int .i64 a, .int .i64 b] w fun e w' => e = .returned (.tuple #[.int .i64 ry, .bool rb]) ∧ Below w.heap.size w w' := by
  have hB := belowNew w (.cells #[.int .i64 key, .int .i64 tweak, .int .i64 a, .int .i64 b] 3)
  have s1 := hB.size
  have hT1 := hT.below hB
  have HM := Lib.hid hm
  clear hm
  go_enter Tryd.func24, Tryd.ntmps24
  go_wp2_with fail
  refine (impl_DigestOf (some ⟨w.heap.size, 0, none⟩) 4 4 [key, tweak, a, b] ry rb _ (litHas rfl rfl) (by omega) (fun e => by cases e) hT1 HM.out).mono ?_
  rintro e w' ⟨rfl, hb⟩
  go_wp2
  go_ret2
  exact ⟨rfl, hB.trans (hb.mono s1)⟩

set_option maxHeartbeats 1000000 in
theorem impl_NumberFrom (A : Option Addr) (n c : Nat) (zs : List Int) (x : Int) (ry : Int) (rb : Bool) (w : World) (h : Has w A n zs) (hn : n ≤ 16777216) (_hnil : NilOk A n c) (_hx : I64 x) (hT : Starts w) (hm : m_NumberFrom zs x = (ry, rb)) :
    Calls Tryd.prog 15 #[.slice A n c, .int .i64 x] w fun e w' => e = .returned (.tuple #[.int .i64 ry, .bool rb]) ∧ Below w.heap.size w w' := by
  cases hg : words 10 zs with
  | false =>
    rw [m_NumberFrom, hg, if_neg (by simp)] at hm
    obtain ⟨rfl, rfl⟩ := Prod.mk.inj hm
    have HG := Lib.hid hg
    clear hm hg
    go_enter Tryd.func15, Tryd.ntmps15
    go_wp2_with fail
    refine (areKeyWords_any A n c zs false _ h hn HG.out).mono ?_
    rintro e w' ⟨rfl, rfl⟩
    go_wp2
    go_ret2
    exact ⟨rfl, Below.refl _ _⟩
  | true =>
    have HG := Lib.hid hg
    by_cases h1 : 1 ≤ x
    · by_cases h2 : x ≤ 10000
      · rw [m_NumberFrom, if_pos ⟨hg, h1, h2⟩] at hm
        obtain ⟨rfl, rfl⟩ := Prod.mk.inj hm
        have H12 : Hid (words 12 (zs ++ [x]) = true) := words_append (words_mono hg (show 10 ≤ 11 by omega)) (words_one (by omega) (by omega))
        have hB := belowNew w (.cells #[.int .i64 x] 3)
        have s1 := hB.size
        have hT1 := hT.below hB
        have hA1 := h.below hB
        obtain ⟨d, hd⟩ : ∃ d, dg (zs ++ [x]) = d := ⟨_, rfl⟩
        obtain ⟨d0, d1⟩ := dg_range (zs ++ [x])
        rw [hd] at d0 d1
        have tm := tmodPos (a := d) (b := x) d0
        have r0 := Int.emod_nonneg d (show x ≠ 0 by omega)
        have r1 := Int.emod_lt_of_pos d (show (0 : Int) < x by omega)
        have HD := Lib.hid hd
        clear hm hg hd
        go_enter Tryd.func15, Tryd.ntmps15
        go_wp2_with fail
        refine (areKeyWords_any A n c zs true _ h hn HG.out).mono ?_
        rintro e w' ⟨rfl, rfl⟩
        go_wp2_with fail
        refine (digestOf_any A n c zs (some ⟨w.heap.size, 0, none⟩) 1 1 [x] _ hA1 (litHas rfl rfl) hT1 H12.out).mono ?_
        rintro e w' ⟨rfl, hb⟩
        rw [HD.out]
        go_wp2
        go_ret2
        exact ⟨by rw [HD.out]; rfl, hB.trans (hb.mono s1)⟩
      · rw [m_NumberFrom, if_neg (by rintro ⟨-, -, h⟩; exact h2 h)] at hm
        obtain ⟨rfl, rfl⟩ := Prod.mk.inj hm
        clear hm hg
        go_enter Tryd.func15, Tryd.ntmps15
        go_wp2_with fail
        refine (areKeyWords_any A n c zs true _ h hn HG.out).mono ?_
        rintro e w' ⟨rfl, rfl⟩
        go_wp2
        go_ret2
        exact ⟨rfl, Below.refl _ _⟩
    · rw [m_NumberFrom, if_neg (by rintro ⟨-, h, -⟩; exact h1 h)] at hm
      obtain ⟨rfl, rfl⟩ := Prod.mk.inj hm
      clear hm hg
      go_enter Tryd.func15, Tryd.ntmps15
      go_wp2_with fail
      refine (areKeyWords_any A n c zs true _ h hn HG.out).mono ?_
      rintro e w' ⟨rfl, rfl⟩
      go_wp2
      go_ret2
      exact ⟨rfl, Below.refl _ _⟩

set_option maxHeartbeats 2000000 in
theorem bitsFrom_go (A : Option Addr) (n c : Nat) (zs : List Int) (q : Nat) (w : World) (h : Has w A n zs) (hn : n ≤ 16777216) (hT : Starts w) (hg : words 10 zs = true) (hq : q ≤ 64) :
    Calls Tryd.prog 18 #[.slice A n c, .int .i64 (q : Int)] w fun e w' => ∃ R c', e = .returned (.tuple #[.slice R q c', .bool true]) ∧ Own w' w.heap.size R q c' (mapTo (sbit zs) q) ∧ Below w.heap.size w w' := by
  have HG := Lib.hid hg
  clear hg
  go_enter Tryd.func18, Tryd.ntmps18
  go_wp2_with fail
  refine (areKeyWords_any A n c zs true _ h hn HG.out).mono ?_
  rintro e w' ⟨rfl, rfl⟩
  go_wp2_with (at_make; refine makeInts _ rfl _ rfl q rfl (by omega) ?_; intro w1 hf hb1)
  have hf := hf (vals (mapTo (sbit zs) q))
  go_loopw [23] (fun i wr => ∃ k : Nat, k ≤ q ∧ i = .int .i64 k ∧ Filled wr w.heap.size 3 w.heap.size q (vals (mapTo (sbit zs) q)) (fun j => j < k) ∧ Below w.heap.size w wr) (fun i _ => q - (intOf i).toNat)
  case atStart => exact ⟨0, Nat.zero_le _, rfl, hf, hb1⟩
  case round =>
    obtain ⟨k, hk, rfl, hfk, hbk⟩ := hrel
    by_cases hlt : k < q
    · have H12 : Hid (words 12 (zs ++ [(k : Int), 2]) = true) := words_append HG.out (words_two (by omega) (by omega) (by omega) (by omega))
      have hB := belowNew wr (.cells #[.int .i64 (k : Int), .int .i64 2] 3)
      have s1 := hB.size
      have hT1 := (hT.below hbk).below hB
      have hA1 := (h.below hbk).below hB
      obtain ⟨d, hd⟩ : ∃ d, dg (zs ++ [(k : Int), 2]) = d := ⟨_, rfl⟩
      obtain ⟨d0, d1⟩ := dg_range (zs ++ [(k : Int), 2])
      rw [hd] at d0 d1
      obtain ⟨u, hu⟩ : ∃ u, d / 8 = u := ⟨_, rfl⟩
      have eq : d.tdiv 8 = u := by rw [← hu]; exact Int.tdiv_eq_ediv_of_nonneg d0
      obtain ⟨u0, u1⟩ : 0 ≤ u ∧ u ≤ 8192 := by omega
      have et := tmodPos (a := u) (b := 2) u0
      have HD := Lib.hid hd
      have HU := Lib.hid hu
      clear hd hu
      go_wp2_with fail
      refine (digestOf_any A n c zs (some ⟨wr.heap.size, 0, none⟩) 2 2 [(k : Int), 2] _ hA1 (litHas rfl rfl) hT1 H12.out).mono ?_
      rintro e w3 ⟨rfl, hb⟩
      rw [HD.out]
      have B3 := hB.trans (hb.mono s1)
      have hs3 := hbk.size
      have hf3 := hfk.below B3
      obtain ⟨v, hv⟩ := hf3.cell hlt
      have hfr := hf3.free k
      go_wp2
      go_roundw
      case rel =>
        refine ⟨k + 1, by omega, by go_num, ?_, (hbk.trans (B3.mono hs3)).setCell (Nat.le_refl _) _⟩
        exact hf3.put hlt (by rw [mapTo_vals _ hlt, sbit, HD.out, HU.out]) (by intro j _ hj; omega)
      case measure => simp [intOf]; omega
    · obtain rfl : k = q := by omega
      go_wp2
      go_ret2
      exact ⟨some ⟨w.heap.size, 0, none⟩, k, rfl, ⟨mapTo_length _ _, hfk.full (by rw [vals_length, mapTo_length]) (by intro j hj; omega)⟩, hbk⟩

set_option maxHeartbeats 1000000 in
theorem bitsFrom_not (A : Option Addr) (n c : Nat) (zs : List Int) (x : Int) (w : World) (h : Has w A n zs) (hn : n ≤ 16777216) (hx : ¬ (words 10 zs = true ∧ 0 ≤ x ∧ x ≤ 64)) :
    Calls Tryd.prog 18 #[.slice A n c, .int .i64 x] w fun e w' => e = .returned (.tuple #[.slice none 0 0, .bool false]) ∧ w = w' := by
  cases hg : words 10 zs with
  | false =>
    have HG := Lib.hid hg
    clear hg hx
    go_enter Tryd.func18, Tryd.ntmps18
    go_wp2_with fail
    refine (areKeyWords_any A n c zs false _ h hn HG.out).mono ?_
    rintro e w' ⟨rfl, rfl⟩
    go_wp2
    go_ret2
    exact ⟨rfl, rfl⟩
  | true =>
    have HG := Lib.hid hg
    rcases (by omega : x < 0 ∨ (0 ≤ x ∧ 64 < x) ∨ (0 ≤ x ∧ x ≤ 64)) with h1 | ⟨h1, h2⟩ | ⟨h1, h2⟩
    · clear hg hx
      go_enter Tryd.func18, Tryd.ntmps18
      go_wp2_with fail
      refine (areKeyWords_any A n c zs true _ h hn HG.out).mono ?_
      rintro e w' ⟨rfl, rfl⟩
      go_wp2
      go_ret2
      exact ⟨rfl, rfl⟩
    · clear hg hx
      go_enter Tryd.func18, Tryd.ntmps18
      go_wp2_with fail
      refine (areKeyWords_any A n c zs true _ h hn HG.out).mono ?_
      rintro e w' ⟨rfl, rfl⟩
      go_wp2
      go_ret2
      exact ⟨rfl, rfl⟩
    · exact absurd ⟨hg, h1, h2⟩ hx

theorem impl_BitsFrom (A : Option Addr) (n c : Nat) (zs : List Int) (x : Int) (rs : List Int) (rb : Bool) (w : World) (h : Has w A n zs) (hn : n ≤ 16777216) (_hnil : NilOk A n c) (_hx : I64 x) (hT : Starts w) (hm : m_BitsFrom zs x = (rs, rb)) :
    Calls Tryd.prog 18 #[.slice A n c, .int .i64 x] w fun e w' => ∃ R m c', e = .returned (.tuple #[.slice R m c', .bool rb]) ∧ Own w' w.heap.size R m c' rs ∧ m ≤ 16777216 ∧ Below w.heap.size w w' := by
  by_cases hg : words 10 zs = true ∧ 0 ≤ x ∧ x ≤ 64
  · rw [m_BitsFrom, if_pos hg] at hm
    obtain ⟨q, rfl⟩ : ∃ q : Nat, x = (q : Int) := ⟨x.toNat, by omega⟩
    rw [Int.toNat_natCast] at hm
    obtain ⟨rfl, rfl⟩ := Prod.mk.inj hm
    refine (bitsFrom_go A n c zs q w h hn hT hg.1 (by omega)).mono ?_
    rintro e w' ⟨R, c', rfl, ho, hb⟩
    exact ⟨R, q, c', rfl, ho, by omega, hb⟩
  · rw [m_BitsFrom, if_neg hg] at hm
    obtain ⟨rfl, rfl⟩ := Prod.mk.inj hm
    refine (bitsFrom_not A n c zs x w h hn hg).mono ?_
    rintro e w' ⟨rfl, rfl⟩
    exact ⟨none, 0, 0, rfl, noList _⟩

theorem xor_good {ys ss : List Int} (hl : ys.length = ss.length) (h : good 64 ys = true) (h' : good 64 ss = true) : even ys ss = true := by
  rcases even_cases ys ss with ⟨h1, h2⟩ | ⟨h1, h3, h2⟩ | ⟨h1, h3, h4, h2⟩ | ⟨h1, h3, h4, h2⟩
  · rw [h] at h1; cases h1
  · rw [h'] at h3; cases h3
  · exact absurd hl h4
  · exact h2
theorem xor_bad {ys ss : List Int} (h : good 64 ys = false) : even ys ss = false := by
  rcases even_cases ys ss with ⟨h1, h2⟩ | ⟨h1, h3, h2⟩ | ⟨h1, h3, h4, h2⟩ | ⟨h1, h3, h4, h2⟩
  · exact h2
  · exact h2
  · exact h2
  · rw [h] at h1; cases h1
theorem good_long {ys : List Int} (h : 64 < ys.length) : good 64 ys = false := by
  rw [← Bool.not_eq_true]
  intro h1
  have := (good_yes h1).1
  omega
theorem stream_good (zs : List Int) {q : Nat} (hq : q ≤ 64) : good 64 (mapTo (sbit zs) q) = true := by
  refine good_mk (by rw [mapTo_length]; omega) (fun k hk => ?_)
  rw [mapTo_length] at hk
  rw [mapTo_at _ hk]
  exact sbit_range zs k

set_option maxHeartbeats 1000000 in
theorem impl_StreamXor (A : Option Addr) (n c : Nat) (xs : List Int) (B : Option Addr) (m d : Nat) (ys : List Int) (rs : List Int) (rb : Bool) (w : World) (hx : Has w A n xs) (hn : n ≤ 16777216) (_hnil : NilOk A n c) (hy : Has w B m ys) (hmm : m ≤ 16777216) (_hnil2 : NilOk B m d) (hT : Starts w) (hm : m_StreamXor xs ys = (rs, rb)) :
    Calls Tryd.prog 7 #[.slice A n c, .slice B m d] w fun e w' => ∃ R m c', e = .returned (.tuple #[.slice R m c', .bool rb]) ∧ Own w' w.heap.size R m c' rs ∧ m ≤ 16777216 ∧ Below w.heap.size w w' := by
  by_cases hg : words 10 xs = true ∧ m ≤ 64
  · obtain ⟨hg, m64⟩ := hg
    have HM : Hid (m_XorBits ys (mapTo (sbit xs) m) = (rs, rb)) := by
      show _ = _
      rw [← hm, m_XorBits, m_StreamXor, ← hy.1]
      cases hi : good 64 ys with
      | false => rw [xor_bad hi, if_neg (by simp), if_neg (by simp)]
      | true =>
        rw [xor_good (mapTo_length _ _).symm hi (stream_good xs (by rw [hy.1]; exact m64)), if_pos rfl, if_pos ⟨hg, rfl⟩]
        rw [mapTo_eq (f := fun j => (ys.getD j 0 + (mapTo (sbit xs) ys.length).getD j 0) % 2) (g := fun j => (ys.getD j 0 + sbit xs j) % 2) (fun k hk => by rw [mapTo_at _ hk])]
    have HG := Lib.hid hg
    clear hm hg
    go_enter Tryd.func7, Tryd.ntmps7
    go_wp2_with fail
    refine (bitsFrom_go A n c xs m _ hx hn hT HG.out m64).mono ?_
    rintro e w1 ⟨R, c', rfl, ho, hb⟩
    have s1 := hb.size
    have hy1 := hy.below hb
    go_wp2_with fail
    refine (impl_XorBits B m d ys R m c' (mapTo (sbit xs) m) rs rb _ hy1 hmm ho.has (by omega) HM.out).mono ?_
    rintro e w2 ⟨R2, m2, c2, rfl, ho2, l2, hb2⟩
    go_wp2
    go_ret2
    exact ⟨R2, m2, c2, rfl, ho2.mono s1, l2, hb.trans (hb2.mono s1)⟩
  · have e : m_StreamXor xs ys = ([], false) := by
      rw [m_StreamXor, if_neg]
      rintro ⟨h1, h2⟩
      have := (good_yes h2).1
      exact hg ⟨h1, by have := hy.1; omega⟩
    rw [e] at hm
    obtain ⟨rfl, rfl⟩ := Prod.mk.inj hm
    have HN : Hid (¬ (words 10 xs = true ∧ (0 : Int) ≤ (m : Int) ∧ (m : Int) ≤ 64)) := by
      rintro ⟨h1, -, h2⟩
      exact hg ⟨h1, by omega⟩
    clear hm hg e
    go_enter Tryd.func7, Tryd.ntmps7
    go_wp2_with fail
    refine (bitsFrom_not A n c xs (m : Int) _ hx hn HN.out).mono ?_
    rintro e w' ⟨rfl, rfl⟩
    go_wp2
    go_ret2
    exact ⟨none, 0, 0, rfl, noList _⟩

end Go.Proofs.YtjalpankapakkaaDoor
