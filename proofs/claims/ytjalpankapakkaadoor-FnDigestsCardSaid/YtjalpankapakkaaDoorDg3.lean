/- The model's functions of chapter 3 that give numbers or bits, by the digest as a plain function. For slices of at most 16777216 elements. -/
import Derived.Test.YtjalpankapakkaaDoorDg2
import Derived.Test.YtjalpankapakkaaDoorBits5
namespace Go.Proofs.YtjalpankapakkaaDoor
open Go.RowKit

def m_DigestOf (zs : List Int) : Int × Bool := if words 12 zs = true then (dg zs, true) else (0, false)
def m_LabelFor (key tweak a b : Int) : Int × Bool := m_DigestOf [key, tweak, a, b]
def m_NumberFrom (zs : List Int) (n : Int) : Int × Bool := if words 10 zs = true ∧ 1 ≤ n ∧ n ≤ 10000 then (dg (zs ++ [n]) % n, true) else (0, false)
/-- Bit i of the stream of a list. -/
def sbit (zs : List Int) (i : Nat) : Int := dg (zs ++ [(i : Int), 2]) / 8 % 2
def m_BitsFrom (zs : List Int) (n : Int) : List Int × Bool := if words 10 zs = true ∧ 0 ≤ n ∧ n ≤ 64 then (mapTo (sbit zs) n.toNat, true) else ([], false)
def m_StreamXor (key bits : List Int) : List Int × Bool := if words 10 key = true ∧ good 64 bits = true then (mapTo (fun j => (bits.getD j 0 + sbit key j) % 2) bits.length, true) else ([], false)

theorem sbit_range (zs : List Int) (i : Nat) : 0 ≤ sbit zs i ∧ sbit zs i ≤ 1 := by unfold sbit; omega
theorem words_one {x : Int} (h0 : -1000000000 ≤ x) (h1 : x ≤ 1000000000) : words 1 [x] = true := by simp [words, worded, allIn, h0, h1]
theorem words_two {x y : Int} (h0 : -1000000000 ≤ x) (h1 : x ≤ 1000000000) (h2 : -1000000000 ≤ y) (h3 : y ≤ 1000000000) : words 2 [x, y] = true := by simp [words, worded, allIn, h0, h1, h2, h3]

set_option maxHeartbeats 1000000 in
theorem dgWith_any (A : Option Addr) (n c : Nat) (zs : List Int) (x : Int) (w : World) (h : Has w A n zs) (hn : n ≤ 16777216) (hnil : NilOk A n c) :
    Calls Tryd.prog 63 #[.slice A n c, .int .i64 x] w fun e w' => ∃ R c', e = .returned (.slice R (n + 1) c') ∧ Own w' w.heap.size R (n + 1) c' (zs ++ [x]) ∧ Below w.heap.size w w' := by
  go_enter Tryd.func63, Tryd.ntmps63
  go_wp2_with fail
  refine (l1Own_all A n c zs _ h hn hnil).mono ?_
  rintro e w1 ⟨R, c1, rfl, ho, hb⟩
  have s1 := hb.size
  have own1 := ho.2
  go_wp2_with (at_builtin; refine appendInt w1 rfl (.tmp 6) (.tmp 8) rfl x w.heap.size _ n zs rfl rfl own1 hn s1 ?_; intro v2 w2 own2 b2; obtain ⟨R2, c2, rfl, ho2⟩ := ownOf own2)
  go_ret
  exact ⟨R2, c2, rfl, ho2, hb.trans b2⟩

set_option maxHeartbeats 1000000 in
theorem dgBelow_any (A : Option Addr) (n c : Nat) (zs : List Int) (x : Int) (w : World) (h : Has w A n zs) (hnil : NilOk A n c) (hz : words 11 zs = true) (x1 : 1 ≤ x) (x2 : x ≤ 10000) :
    Calls Tryd.prog 45 #[.slice A n c, .int .i64 x] w fun e w' => e = .returned (.int .i64 (dg (zs ++ [x]) % x)) ∧ Below w.heap.size w w' := by
  have hL := h.1
  have h12 : words 12 (zs ++ [x]) = true := words_append hz (words_one (by omega) (by omega))
  have hn : n ≤ 16777216 := by have := (words_yes hz).1; omega
  have H12 := Lib.hid h12
  clear h12 hz hL
  go_enter Tryd.func45, Tryd.ntmps45
  go_wp2_with fail
  refine (dgWith_any A n c zs x _ h hn hnil).mono ?_
  rintro e w1 ⟨R, c1, rfl, ho, hb⟩
  have s1 := hb.size
  go_wp2_with fail
  refine (dgMix_any R (n + 1) c1 (zs ++ [x]) _ ho.has (own_nilOk ho) H12.out).mono ?_
  rintro e w2 ⟨rfl, hb2⟩
  have B2 := hb.trans (hb2.mono s1)
  obtain ⟨d, hd⟩ : ∃ d, dg (zs ++ [x]) = d := ⟨_, rfl⟩
  obtain ⟨d0, d1⟩ := dg_range (zs ++ [x])
  rw [hd] at d0 d1 ⊢
  have tm := tmodPos (a := d) (b := x) d0
  have r0 := Int.emod_nonneg d (show x ≠ 0 by omega)
  have r1 := Int.emod_lt_of_pos d (show (0 : Int) < x by omega)
  have HD := Lib.hid hd
  clear hd
  go_wp2
  go_ret
  exact ⟨retI (by rw [HD.out]), B2⟩

set_option maxHeartbeats 1000000 in
theorem dgLabel_any (key tweak a b : Int) (w : World) (hz : words 4 [key, tweak, a, b] = true) :
    Calls Tryd.prog 50 #[.int .i64 key, .int .i64 tweak, .int .i64 a, .int .i64 b] w fun e w' => e = .returned (.int .i64 (dg [key, tweak, a, b])) ∧ Below w.heap.size w w' := by
  have hB := belowNew w (.cells #[.int .i64 key, .int .i64 tweak, .int .i64 a, .int .i64 b] 3)
  have s1 := hB.size
  have HZ := Lib.hid (words_mono hz (show 4 ≤ 12 by omega))
  clear hz
  go_enter Tryd.func50, Tryd.ntmps50
  go_wp2_with fail
  refine (dgMix_any (some ⟨w.heap.size, 0, none⟩) 4 4 [key, tweak, a, b] _ (litHas rfl rfl) (fun e => by cases e) HZ.out).mono ?_
  rintro e w2 ⟨rfl, hb2⟩
  go_wp2
  go_ret
  exact ⟨rfl, hB.trans (hb2.mono s1)⟩

set_option maxHeartbeats 2000000 in
theorem dgBits_any (A : Option Addr) (n c : Nat) (zs : List Int) (q : Nat) (w : World) (h : Has w A n zs) (hnil : NilOk A n c) (hz : words 10 zs = true) (hq : q ≤ 1000000) :
    Calls Tryd.prog 38 #[.slice A n c, .int .i64 (q : Int)] w fun e w' => ∃ R c', e = .returned (.slice R q c') ∧ Own w' w.heap.size R q c' (mapTo (sbit zs) q) ∧ Below w.heap.size w w' := by
  have hn : n ≤ 16777216 := by have := (words_yes hz).1; have := h.1; omega
  have HZ := Lib.hid hz
  clear hz
  go_enter Tryd.func38, Tryd.ntmps38
  go_wp2
  go_loopw [5, 6] (fun v i wr => ∃ k : Nat, k ≤ q ∧ i = .int .i64 k ∧ ∃ R c', v = .slice R k c' ∧ Own wr w.heap.size R k c' (mapTo (sbit zs) k) ∧ Below w.heap.size w wr) (fun _ i _ => q - (intOf i).toNat)
  case atStart => exact ⟨0, Nat.zero_le _, rfl, none, 0, rfl, Own.nil_ _ _, Below.refl _ _⟩
  case round =>
    obtain ⟨k, hk, rfl, R, c', rfl, hown, hbk⟩ := hrel
    by_cases hlt : k < q
    · have hsz := hbk.size
      have hA := h.below hbk
      have H12 : Hid (words 12 (zs ++ [(k : Int), 2]) = true) := words_append HZ.out (words_two (by omega) (by omega) (by omega) (by omega))
      obtain ⟨d, hd⟩ : ∃ d, dg (zs ++ [(k : Int), 2]) = d := ⟨_, rfl⟩
      obtain ⟨d0, d1⟩ := dg_range (zs ++ [(k : Int), 2])
      rw [hd] at d0 d1
      have HD := Lib.hid hd
      obtain ⟨u, hu⟩ : ∃ u, d / 8 = u := ⟨_, rfl⟩
      have eq : d.tdiv 8 = u := by rw [← hu]; exact Int.tdiv_eq_ediv_of_nonneg d0
      have u0 : 0 ≤ u ∧ u ≤ 8192 := by omega
      obtain ⟨u0, u1⟩ := u0
      have et := tmodPos (a := u) (b := 2) u0
      have HU := Lib.hid hu
      clear hd hu
      go_wp2_with fail
      refine (l1Own_all A n c zs _ hA hn hnil).mono ?_
      rintro e w1 ⟨R1, c1, rfl, ho1, hb1⟩
      have s1 := hb1.size
      have hLit := litHas (w := w1) (vs := #[.int .i64 (k : Int), .int .i64 2]) (zs := [(k : Int), 2]) (n := 2) rfl rfl
      have own1 := (ho1.below (belowNew w1 (.cells #[.int .i64 (k : Int), .int .i64 2] 3))).2
      have sz : wr.heap.size ≤ (w1.alloc (.cells #[.int .i64 (k : Int), .int .i64 2] 3)).heap.size := by simp; omega
      go_wp2_with (at_builtin; refine appendMany _ rfl (.tmp 14) (.tmp 16) rfl wr.heap.size _ _ n 2 2 zs [(k : Int), 2] rfl own1 rfl (fun e => by cases e) hLit (by omega) (by omega) sz ?_; intro v2 w2 own2 b2; obtain ⟨R2, c2, rfl, ho2⟩ := ownOf own2)
      have s2 := b2.size
      have B2 : Below wr.heap.size wr w2 := (hb1.trans ((belowNew w1 _).mono s1)).trans b2
      clear b2 own2 own1 hLit ho1 hb1
      refine (dgMix_any R2 (n + 2) c2 (zs ++ [(k : Int), 2]) _ ho2.has (own_nilOk ho2) H12.out).mono ?_
      rintro e w3 ⟨rfl, hb3⟩
      rw [HD.out]
      have B3 := B2.trans (hb3.mono B2.size)
      have hown3 := hown.below B3
      have s3 := B3.size
      have own3 := hown3.2
      have S3 : w.heap.size ≤ w3.heap.size := by omega
      go_wp2_with (at_builtin; refine appendInt w3 rfl (.tmp 12) (.tmp 21) rfl _ w.heap.size _ k _ rfl rfl own3 (by omega) S3 ?_; intro v4 w4 own4 b4; obtain ⟨R4, c4, rfl, ho4⟩ := ownOf own4)
      go_roundw
      case rel =>
        refine ⟨k + 1, by omega, by go_num, R4, c4, rfl, ?_, hbk.trans ((B3.mono (by omega)).trans b4)⟩
        rw [mapTo_succ, sbit, HD.out, HU.out]
        exact ho4
      case measure => simp [intOf]; omega
    · obtain rfl : k = q := by omega
      go_wp2
      go_ret
      exact ⟨R, c', rfl, hown, hbk⟩

set_option maxHeartbeats 400000 in
theorem spec_DigestOf (A : Option Addr) (n c : Nat) (zs : List Int) (ry : Int) (rb : Bool) (w : World) (h : Has w A n zs) (hn : n ≤ 16777216) (hnil : NilOk A n c) (hm : m_DigestOf zs = (ry, rb)) :
    Calls Tryd.prog 22 #[.slice A n c] w fun e w' => e = .returned (.tuple #[.int .i64 ry, .bool rb]) ∧ Below w.heap.size w w' := by
  cases hg : words 12 zs with
  | false =>
    rw [m_DigestOf, hg, if_neg (by simp)] at hm
    obtain ⟨rfl, rfl⟩ := Prod.mk.inj hm
    have HG := Lib.hid hg
    clear hm hg
    go_enter Tryd.func22, Tryd.ntmps22
    go_wp2_with fail
    refine (dgList_any A n c zs 12 false _ h hn (by omega) HG.out).mono ?_
    rintro e w' ⟨rfl, rfl⟩
    go_wp2
    go_ret2
    exact ⟨rfl, Below.refl _ _⟩
  | true =>
    rw [m_DigestOf, hg, if_pos rfl] at hm
    obtain ⟨rfl, rfl⟩ := Prod.mk.inj hm
    have HG := Lib.hid hg
    clear hm hg
    go_enter Tryd.func22, Tryd.ntmps22
    go_wp2_with fail
    refine (dgList_any A n c zs 12 true _ h hn (by omega) HG.out).mono ?_
    rintro e w' ⟨rfl, rfl⟩
    go_wp2_with fail
    refine (dgMix_any A n c zs _ h hnil HG.out).mono ?_
    rintro e w' ⟨rfl, hb⟩
    go_wp2
    go_ret2
    exact ⟨rfl, hb⟩

set_option maxHeartbeats 1000000 in
theorem spec_LabelFor (key tweak a b : Int) (ry : Int) (rb : Bool) (w : World) (_hk : I64 key) (_ht : I64 tweak) (_ha : I64 a) (_hb : I64 b) (hm : m_LabelFor key tweak a b = (ry, rb)) :
    Calls Tryd.prog 25 #[.int .i64 key, .int .i64 tweak, .int .i64 a, .int .i64 b] w fun e w' => e = .returned (.tuple #[.int .i64 ry, .bool rb]) ∧ Below w.heap.size w w' := by
  have hB := belowNew w (.cells #[.int .i64 key, .int .i64 tweak, .int .i64 a, .int .i64 b] 3)
  have s1 := hB.size
  have e4 : words 12 [key, tweak, a, b] = words 4 [key, tweak, a, b] := by simp [words]
  rw [m_LabelFor, m_DigestOf, e4] at hm
  clear e4
  cases hg : words 4 [key, tweak, a, b] with
  | false =>
    rw [hg, if_neg (by simp)] at hm
    obtain ⟨rfl, rfl⟩ := Prod.mk.inj hm
    have HG := Lib.hid hg
    clear hm hg
    go_enter Tryd.func25, Tryd.ntmps25
    go_wp2_with fail
    refine (dgList_any (some ⟨w.heap.size, 0, none⟩) 4 4 [key, tweak, a, b] 4 false _ (litHas rfl rfl) (by omega) (by omega) HG.out).mono ?_
    rintro e w' ⟨rfl, rfl⟩
    go_wp2
    go_ret2
    exact ⟨rfl, hB⟩
  | true =>
    rw [hg, if_pos rfl] at hm
    obtain ⟨rfl, rfl⟩ := Prod.mk.inj hm
    have HG := Lib.hid hg
    clear hm hg
    go_enter Tryd.func25, Tryd.ntmps25
    go_wp2_with fail
    refine (dgList_any (some ⟨w.heap.size, 0, none⟩) 4 4 [key, tweak, a, b] 4 true _ (litHas rfl rfl) (by omega) (by omega) HG.out).mono ?_
    rintro e w' ⟨rfl, rfl⟩
    go_wp2_with fail
    refine (dgLabel_any key tweak a b _ HG.out).mono ?_
    rintro e w' ⟨rfl, hb⟩
    go_wp2
    go_ret2
    exact ⟨rfl, hB.trans (hb.mono s1)⟩

set_option maxHeartbeats 1000000 in
theorem spec_NumberFrom (A : Option Addr) (n c : Nat) (zs : List Int) (x : Int) (ry : Int) (rb : Bool) (w : World) (h : Has w A n zs) (hn : n ≤ 16777216) (hnil : NilOk A n c) (_hx : I64 x) (hm : m_NumberFrom zs x = (ry, rb)) :
    Calls Tryd.prog 16 #[.slice A n c, .int .i64 x] w fun e w' => e = .returned (.tuple #[.int .i64 ry, .bool rb]) ∧ Below w.heap.size w w' := by
  cases hg : words 10 zs with
  | false =>
    rw [m_NumberFrom, hg, if_neg (by simp)] at hm
    obtain ⟨rfl, rfl⟩ := Prod.mk.inj hm
    have HG := Lib.hid hg
    clear hm hg
    go_enter Tryd.func16, Tryd.ntmps16
    go_wp2_with fail
    refine (dgShort_any A n c zs false _ h hn HG.out).mono ?_
    rintro e w' ⟨rfl, rfl⟩
    go_wp2
    go_ret2
    exact ⟨rfl, Below.refl _ _⟩
  | true =>
    have HG := Lib.hid hg
    cases hi : (decide (1 ≤ x) && decide (x ≤ 10000)) with
    | false =>
      rw [m_NumberFrom, if_neg (by rintro ⟨-, h1, h2⟩; simp [h1, h2] at hi)] at hm
      obtain ⟨rfl, rfl⟩ := Prod.mk.inj hm
      have HI := Lib.hid hi
      clear hm hg hi
      go_enter Tryd.func16, Tryd.ntmps16
      go_wp2_with fail
      refine (dgShort_any A n c zs true _ h hn HG.out).mono ?_
      rintro e w' ⟨rfl, rfl⟩
      go_wp2_with fail
      refine (l1In_any x 1 10000 false _ HI.out).mono ?_
      rintro e w' ⟨rfl, rfl⟩
      go_wp2
      go_ret2
      exact ⟨rfl, Below.refl _ _⟩
    | true =>
      have hi2 := hi
      rw [Bool.and_eq_true, decide_eq_true_eq, decide_eq_true_eq] at hi2
      rw [m_NumberFrom, if_pos ⟨hg, hi2⟩] at hm
      obtain ⟨rfl, rfl⟩ := Prod.mk.inj hm
      have HI := Lib.hid hi
      have HX := Lib.hid hi2
      clear hm hg hi hi2
      go_enter Tryd.func16, Tryd.ntmps16
      go_wp2_with fail
      refine (dgShort_any A n c zs true _ h hn HG.out).mono ?_
      rintro e w' ⟨rfl, rfl⟩
      go_wp2_with fail
      refine (l1In_any x 1 10000 true _ HI.out).mono ?_
      rintro e w' ⟨rfl, rfl⟩
      go_wp2_with fail
      refine (dgBelow_any A n c zs x _ h hnil (words_mono HG.out (by omega)) HX.out.1 HX.out.2).mono ?_
      rintro e w' ⟨rfl, hb⟩
      go_wp2
      go_ret2
      exact ⟨rfl, hb⟩

set_option maxHeartbeats 1000000 in
theorem spec_BitsFrom (A : Option Addr) (n c : Nat) (zs : List Int) (x : Int) (rs : List Int) (rb : Bool) (w : World) (h : Has w A n zs) (hn : n ≤ 16777216) (hnil : NilOk A n c) (_hx : I64 x) (hm : m_BitsFrom zs x = (rs, rb)) :
    Calls Tryd.prog 19 #[.slice A n c, .int .i64 x] w fun e w' => ∃ R m c', e = .returned (.tuple #[.slice R m c', .bool rb]) ∧ Has w' R m rs ∧ m ≤ 16777216 ∧ Below w.heap.size w w' := by
  cases hg : words 10 zs with
  | false =>
    rw [m_BitsFrom, hg, if_neg (by simp)] at hm
    obtain ⟨rfl, rfl⟩ := Prod.mk.inj hm
    have HG := Lib.hid hg
    clear hm hg
    go_enter Tryd.func19, Tryd.ntmps19
    go_wp2_with fail
    refine (dgShort_any A n c zs false _ h hn HG.out).mono ?_
    rintro e w' ⟨rfl, rfl⟩
    go_wp2
    go_ret2
    exact ⟨none, 0, 0, rfl, Has.nil_, by omega, Below.refl _ _⟩
  | true =>
    have HG := Lib.hid hg
    cases hi : (decide (0 ≤ x) && decide (x ≤ 64)) with
    | false =>
      rw [m_BitsFrom, if_neg (by rintro ⟨-, h1, h2⟩; simp [h1, h2] at hi)] at hm
      obtain ⟨rfl, rfl⟩ := Prod.mk.inj hm
      have HI := Lib.hid hi
      clear hm hg hi
      go_enter Tryd.func19, Tryd.ntmps19
      go_wp2_with fail
      refine (dgShort_any A n c zs true _ h hn HG.out).mono ?_
      rintro e w' ⟨rfl, rfl⟩
      go_wp2_with fail
      refine (l1In_any x 0 64 false _ HI.out).mono ?_
      rintro e w' ⟨rfl, rfl⟩
      go_wp2
      go_ret2
      exact ⟨none, 0, 0, rfl, Has.nil_, by omega, Below.refl _ _⟩
    | true =>
      have hi2 := hi
      rw [Bool.and_eq_true, decide_eq_true_eq, decide_eq_true_eq] at hi2
      rw [m_BitsFrom, if_pos ⟨hg, hi2⟩] at hm
      obtain ⟨q, rfl⟩ : ∃ q : Nat, x = (q : Int) := ⟨x.toNat, by omega⟩
      rw [Int.toNat_natCast] at hm
      obtain ⟨rfl, rfl⟩ := Prod.mk.inj hm
      have HI := Lib.hid hi
      have q64 : q ≤ 64 := by omega
      clear hm hg hi hi2
      go_enter Tryd.func19, Tryd.ntmps19
      go_wp2_with fail
      refine (dgShort_any A n c zs true _ h hn HG.out).mono ?_
      rintro e w' ⟨rfl, rfl⟩
      go_wp2_with fail
      refine (l1In_any (q : Int) 0 64 true _ HI.out).mono ?_
      rintro e w' ⟨rfl, rfl⟩
      go_wp2_with fail
      refine (dgBits_any A n c zs q _ h hnil HG.out (by omega)).mono ?_
      rintro e w' ⟨R, c', rfl, ho, hb⟩
      go_wp2
      go_ret2
      exact ⟨R, q, c', rfl, ho.has, by omega, hb⟩

set_option maxHeartbeats 1000000 in
theorem spec_StreamXor (A : Option Addr) (n c : Nat) (xs : List Int) (B : Option Addr) (m d : Nat) (ys : List Int) (rs : List Int) (rb : Bool) (w : World) (hx : Has w A n xs) (hn : n ≤ 16777216) (hnil : NilOk A n c) (hy : Has w B m ys) (hmm : m ≤ 16777216) (_hnil2 : NilOk B m d) (hm : m_StreamXor xs ys = (rs, rb)) :
    Calls Tryd.prog 8 #[.slice A n c, .slice B m d] w fun e w' => ∃ R m c', e = .returned (.tuple #[.slice R m c', .bool rb]) ∧ Has w' R m rs ∧ m ≤ 16777216 ∧ Below w.heap.size w w' := by
  cases hg : words 10 xs with
  | false =>
    rw [m_StreamXor, hg, if_neg (by simp)] at hm
    obtain ⟨rfl, rfl⟩ := Prod.mk.inj hm
    have HG := Lib.hid hg
    clear hm hg
    go_enter Tryd.func8, Tryd.ntmps8
    go_wp2_with fail
    refine (dgShort_any A n c xs false _ hx hn HG.out).mono ?_
    rintro e w' ⟨rfl, rfl⟩
    go_wp2
    go_ret2
    exact ⟨none, 0, 0, rfl, Has.nil_, by omega, Below.refl _ _⟩
  | true =>
    have HG := Lib.hid hg
    cases hi : good 64 ys with
    | false =>
      rw [m_StreamXor, if_neg (by rintro ⟨-, h1⟩; rw [hi] at h1; cases h1)] at hm
      obtain ⟨rfl, rfl⟩ := Prod.mk.inj hm
      have HI := Lib.hid hi
      clear hm hg hi
      go_enter Tryd.func8, Tryd.ntmps8
      go_wp2_with fail
      refine (dgShort_any A n c xs true _ hx hn HG.out).mono ?_
      rintro e w' ⟨rfl, rfl⟩
      go_wp2_with fail
      refine (specAreBits B m d ys false _ hy hmm HI.out).mono ?_
      rintro e w' ⟨rfl, rfl⟩
      go_wp2
      go_ret2
      exact ⟨none, 0, 0, rfl, Has.nil_, by omega, Below.refl _ _⟩
    | true =>
      rw [m_StreamXor, if_pos ⟨hg, hi⟩] at hm
      obtain ⟨rfl, rfl⟩ := Prod.mk.inj hm
      have HI := Lib.hid hi
      have hy2 := good_yes hi
      have HY := Lib.hid hy2.2
      have HL := Lib.hid hy.1
      have m64 : m ≤ 64 := by have := hy2.1; have := hy.1; omega
      have GS : Hid (∀ k, k < (mapTo (sbit xs) m).length → 0 ≤ (mapTo (sbit xs) m).getD k 0 ∧ (mapTo (sbit xs) m).getD k 0 ≤ 1) := fun k hk => by
        rw [mapTo_length] at hk
        rw [mapTo_at _ hk]
        exact sbit_range xs k
      clear hm hg hi hy2
      go_enter Tryd.func8, Tryd.ntmps8
      go_wp2_with fail
      refine (dgShort_any A n c xs true _ hx hn HG.out).mono ?_
      rintro e w' ⟨rfl, rfl⟩
      go_wp2_with fail
      refine (specAreBits B m d ys true _ hy hmm HI.out).mono ?_
      rintro e w' ⟨rfl, rfl⟩
      go_wp2_with fail
      refine (dgBits_any A n c xs m _ hx hnil HG.out (by omega)).mono ?_
      rintro e w1 ⟨R, c', rfl, ho, hb⟩
      have s1 := hb.size
      have hy1 := hy.below hb
      go_wp2_with fail
      refine (btXor_any B R m d c' ys (mapTo (sbit xs) m) _ hy1 ho.has m64 HY.out GS.out).mono ?_
      rintro e w2 ⟨R2, c2, rfl, ho2, hb2⟩
      go_wp2
      go_ret2
      refine ⟨R2, m, c2, rfl, ?_, by omega, hb.trans (hb2.mono s1)⟩
      rw [HL.out]
      have e : mapTo (fun j => (ys.getD j 0 + sbit xs j) % 2) m = mapTo (fun j => (ys.getD j 0 + (mapTo (sbit xs) m).getD j 0) % 2) m := mapTo_eq fun k hk => by rw [mapTo_at _ hk]
      rw [e]
      exact ho2.has

end Go.Proofs.YtjalpankapakkaaDoor
