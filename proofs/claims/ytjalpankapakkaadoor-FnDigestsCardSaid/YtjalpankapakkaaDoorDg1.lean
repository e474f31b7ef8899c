/- The digest as a plain function of its words, one step of it as the program takes it, and the tests of words, the program's and the model's. For slices of at most 16777216 elements. -/
import Derived.Test.YtjalpankapakkaaDoorGen1
import Derived.Test.YtjalpankapakkaaDoorBits1
namespace Go.Proofs.YtjalpankapakkaaDoor
open Go.RowKit

/-- One step of the digest: the number a, stirred with the word x. -/
def stir (a x : Int) : Int := (25214 * a + x + 17) % 1000003 * ((25214 * a + x + 17) % 1000003 / 64 + 5) % 1000003
/-- The number, stirred with one word after the other. -/
def stirs (a : Int) (ws : List Int) : Int := ws.foldl stir a
/-- The digest of a list. -/
def dg (ws : List Int) : Int := stirs (40503 + ws.length) (ws ++ [8, 1]) % 65536

theorem stir_range (a x : Int) : 0 ≤ stir a x ∧ stir a x < 1000003 := ⟨Int.emod_nonneg _ (by decide), Int.emod_lt_of_pos _ (by decide)⟩
theorem stirs_append (a : Int) (xs ys : List Int) : stirs a (xs ++ ys) = stirs (stirs a xs) ys := List.foldl_append
theorem stirs_range {a : Int} (h : 0 ≤ a ∧ a < 1000003) (ws : List Int) : 0 ≤ stirs a ws ∧ stirs a ws < 1000003 := by
  induction ws generalizing a with
  | nil => exact h
  | cons x l ih => exact ih (stir_range a x)
theorem stirs_take (a : Int) (ws : List Int) {k : Nat} (hk : k < ws.length) : stirs a (ws.take (k + 1)) = stir (stirs a (ws.take k)) (ws.getD k 0) := by
  rw [List.take_add_one, List.getElem?_eq_getElem hk, stirs_append]
  simp [stirs, List.getD, hk]
theorem dg_range (ws : List Int) : 0 ≤ dg ws ∧ dg ws < 65536 := ⟨Int.emod_nonneg _ (by decide), Int.emod_lt_of_pos _ (by decide)⟩

/-- Words: numbers in -1000000000 .. 1000000000. -/
def worded (zs : List Int) : Bool := allIn (-1000000000) 1000000000 zs
def words (most : Nat) (zs : List Int) : Bool := decide (zs.length ≤ most) && worded zs
theorem words_yes {most : Nat} {zs : List Int} (h : words most zs = true) : zs.length ≤ most ∧ ∀ k, k < zs.length → -1000000000 ≤ zs.getD k 0 ∧ zs.getD k 0 ≤ 1000000000 := by
  rw [words, Bool.and_eq_true, decide_eq_true_eq] at h
  exact ⟨h.1, fun k hk => allIn_yes h.2 k hk⟩
theorem words_mono {m m' : Nat} {zs : List Int} (h : words m zs = true) (hm : m ≤ m') : words m' zs = true := by
  rw [words, Bool.and_eq_true, decide_eq_true_eq] at h ⊢
  exact ⟨by omega, h.2⟩
theorem words_append {m m' : Nat} {zs ys : List Int} (h : words m zs = true) (h' : words m' ys = true) : words (m + m') (zs ++ ys) = true := by
  rw [words, Bool.and_eq_true, decide_eq_true_eq] at h h' ⊢
  refine ⟨by rw [List.length_append]; omega, ?_⟩
  have e1 := h.2
  have e2 := h'.2
  unfold worded allIn at e1 e2 ⊢
  rw [List.all_append, e1, e2]; rfl

theorem resBig_any (a r : Int) (w : World) (ha : -1000000000000 ≤ a) (hb : a ≤ 1000000000000) (hr : a % 1000003 = r) :
    Calls Tryd.prog 72 #[.int .i64 a, .int .i64 1000003] w fun e w' => e = .returned (.int .i64 r) ∧ w = w' := by
  have HR := Lib.hid hr
  clear hr
  by_cases h0 : 0 ≤ a
  · have e0 := Int.emod_nonneg a (show (1000003 : Int) ≠ 0 by omega)
    have e1 := Int.emod_lt_of_pos a (show (0 : Int) < 1000003 by omega)
    go_enter Tryd.func72, Tryd.ntmps72
    go_wp2
    go_ret
    exact ⟨retI (by rw [Int.add_emod_right, Int.emod_emod, HR.out]), rfl⟩
  · have e0 := Int.lt_tmod_of_pos a (show (0 : Int) < 1000003 by omega)
    have e1 := Int.tmod_lt_of_pos a (show (0 : Int) < 1000003 by omega)
    go_enter Tryd.func72, Tryd.ntmps72
    go_wp2
    go_ret
    exact ⟨retI (by rw [tmodEmod, HR.out]), rfl⟩

theorem modBig_any (a r : Int) (w : World) (ha : -1000000000000 ≤ a) (hb : a ≤ 1000000000000) (hr : a % 1000003 = r) :
    Calls Tryd.prog 68 #[.int .i64 a, .int .i64 1000003] w fun e w' => e = .returned (.int .i64 r) ∧ w = w' := by
  have HR := Lib.hid hr
  clear hr
  by_cases h0 : 0 ≤ a
  · have e0 := Int.emod_nonneg a (show (1000003 : Int) ≠ 0 by omega)
    have e1 := Int.emod_lt_of_pos a (show (0 : Int) < 1000003 by omega)
    go_enter Tryd.func68, Tryd.ntmps68
    go_wp2
    go_ret
    exact ⟨retI (by rw [Int.add_emod_right, Int.emod_emod, HR.out]), rfl⟩
  · have e0 := Int.lt_tmod_of_pos a (show (0 : Int) < 1000003 by omega)
    have e1 := Int.tmod_lt_of_pos a (show (0 : Int) < 1000003 by omega)
    go_enter Tryd.func68, Tryd.ntmps68
    go_wp2
    go_ret
    exact ⟨retI (by rw [tmodEmod, HR.out]), rfl⟩

/-- The second half of a step: the numbers that the walk meets. -/
theorem stirHalf (b : Int) (h0 : 0 ≤ b) (h1 : b < 1000003) : ∃ q y : Int, b.tdiv 64 = q ∧ b * (q + 5) = y ∧ 0 ≤ q ∧ q ≤ 15625 ∧ 0 ≤ y ∧ y ≤ 15630031260 ∧ y.tmod 1000003 = y % 1000003 ∧ Hid (y % 1000003 = b * (b / 64 + 5) % 1000003) := by
  have e : b.tdiv 64 = b / 64 := Int.tdiv_eq_ediv_of_nonneg h0
  have q0 : 0 ≤ b / 64 := by omega
  have q1 : b / 64 ≤ 15625 := by omega
  have y0 : 0 ≤ b * (b / 64 + 5) := Int.mul_nonneg h0 (by omega)
  have y1 : b * (b / 64 + 5) ≤ 1000002 * 15630 := Int.mul_le_mul (by omega) (by omega) (by omega) (by omega)
  exact ⟨b / 64, b * (b / 64 + 5), e, rfl, q0, q1, y0, by omega, tmodPos y0, rfl⟩

set_option maxHeartbeats 1000000 in
theorem stirred_any (a x r : Int) (w : World) (h0 : 0 ≤ a) (h1 : a < 1000003) (x0 : -1000000000 ≤ x) (x1 : x ≤ 1000000000) (hr : stir a x = r) :
    Calls Tryd.prog 62 #[.int .i64 a, .int .i64 x] w fun e w' => e = .returned (.int .i64 r) ∧ w = w' := by
  obtain ⟨b, hb⟩ : ∃ b, (25214 * a + x + 17) % 1000003 = b := ⟨_, rfl⟩
  have b0 : 0 ≤ b := by rw [← hb]; exact Int.emod_nonneg _ (by decide)
  have b1 : b < 1000003 := by rw [← hb]; exact Int.emod_lt_of_pos _ (by decide)
  have HB := Lib.hid hb
  obtain ⟨q, y, eq, ey, q0, q1, y0, y1, et, HY⟩ := stirHalf b b0 b1
  have HR : Hid (y % 1000003 = r) := by show _ = _; rw [HY.out, ← hr, stir, hb]
  clear hr hb
  go_enter Tryd.func62, Tryd.ntmps62
  go_wp2_with fail
  refine (resBig_any _ b _ (by omega) (by omega) HB.out).mono ?_
  rintro e w' ⟨rfl, rfl⟩
  go_wp2
  go_ret
  exact ⟨retI HR.out, rfl⟩

theorem isWord_any (x : Int) (r : Bool) (w : World) (hr : (decide (-1000000000 ≤ x) && decide (x ≤ 1000000000)) = r) :
    Calls Tryd.prog 51 #[.int .i64 x] w fun e w' => e = .returned (.bool r) ∧ w = w' := by
  subst hr
  by_cases h0 : -1000000000 ≤ x
  · go_enter Tryd.func51, Tryd.ntmps51
    go_wp2
    go_ret
    simp [h0]
  · have e : (decide (-1000000000 ≤ x) && decide (x ≤ 1000000000)) = false := by rw [decide_eq_false h0, Bool.false_and]
    rw [e]
    go_enter Tryd.func51, Tryd.ntmps51
    go_wp2
    go_ret
    exact ⟨rfl, rfl⟩

theorem notWord_any (x : Int) (r : Bool) (w : World) (hr : (decide (-1000000000 ≤ x) && decide (x ≤ 1000000000)) = r) :
    Calls Tryd.prog 66 #[.int .i64 x] w fun e w' => e = .returned (.bool (!r)) ∧ w = w' := by
  have HR := Lib.hid hr
  clear hr
  go_enter Tryd.func66, Tryd.ntmps66
  go_wp2_with fail
  refine (isWord_any x r _ HR.out).mono ?_
  rintro e w' ⟨rfl, rfl⟩
  go_wp2
  go_ret
  exact ⟨rfl, rfl⟩

set_option maxHeartbeats 1000000 in
theorem noWord_any (A : Option Addr) (n c : Nat) (zs : List Int) (r : Bool) (w : World) (h : Has w A n zs) (hn : n ≤ 16777216) (hr : worded zs = r) :
    Calls Tryd.prog 73 #[.slice A n c, .func (.func 66) #[] #[]] w fun e w' => ∃ k : Int, e = .returned (.int .i64 k) ∧ (decide (0 ≤ k) = !r) ∧ -1 ≤ k ∧ k ≤ 16777216 ∧ w = w' := by
  have HR := Lib.hid hr
  have HL := Lib.hid h.1
  clear hr
  go_enter Tryd.func73, Tryd.ntmps73
  go_wp2
  go_loop [8] (fun i => ∃ k : Nat, k ≤ n ∧ i = .int .i64 k ∧ Hid (∀ j, j < k → -1000000000 ≤ zs.getD j 0 ∧ zs.getD j 0 ≤ 1000000000)) (fun i => n - (intOf i).toNat)
  case atStart => exact ⟨0, Nat.zero_le _, rfl, fun j hj => absurd hj (by omega)⟩
  case round =>
    obtain ⟨k, hk, rfl, HJ⟩ := hrel
    by_cases hlt : k < n
    · obtain ⟨ad, z, rfl, hc, HZ⟩ := h.elem hlt
      cases hb : (decide (-1000000000 ≤ z) && decide (z ≤ 1000000000)) with
      | true =>
        have HB := Lib.hid hb
        clear hb
        go_wp2_with fail
        refine (notWord_any z true _ HB.out).mono ?_
        rintro e w' ⟨rfl, rfl⟩
        go_wp2
        go_round
        case rel =>
          refine ⟨k + 1, by omega, by go_num, fun j hj => ?_⟩
          by_cases e : j = k
          · have := HB.out
            rw [Bool.and_eq_true, decide_eq_true_eq, decide_eq_true_eq] at this
            rw [e, ← HZ.out]; exact this
          · exact HJ.out j (by omega)
        case measure => simp [intOf]; omega
      | false =>
        have HB := Lib.hid hb
        clear hb
        go_wp2_with fail
        refine (notWord_any z false _ HB.out).mono ?_
        rintro e w' ⟨rfl, rfl⟩
        go_wp2
        go_ret
        have hf : r = false := by
          rw [← HR.out, ← Bool.not_eq_true]
          intro h1
          have h2 := allIn_yes h1 k (by rw [HL.out]; exact hlt)
          rw [← HZ.out] at h2
          have := HB.out
          simp [h2.1, h2.2] at this
        exact ⟨(k : Int), rfl, by rw [hf]; simp, by omega, by omega, rfl⟩
    · obtain rfl : k = n := by omega
      go_wp2
      go_ret
      have hf : r = true := by rw [← HR.out]; exact allIn_mk fun j hj => HJ.out j (by rw [← HL.out]; exact hj)
      exact ⟨-1, rfl, by rw [hf]; rfl, by omega, by omega, rfl⟩

theorem anyNoWord_any (A : Option Addr) (n c : Nat) (zs : List Int) (r : Bool) (w : World) (h : Has w A n zs) (hn : n ≤ 16777216) (hr : worded zs = r) :
    Calls Tryd.prog 65 #[.slice A n c, .func (.func 66) #[] #[]] w fun e w' => e = .returned (.bool (!r)) ∧ w = w' := by
  have HR := Lib.hid hr
  clear hr
  go_enter Tryd.func65, Tryd.ntmps65
  go_wp2_with fail
  refine (noWord_any A n c zs r _ h hn HR.out).mono ?_
  rintro e w' ⟨k, rfl, hk, k0, k1, rfl⟩
  have HK := Lib.hid hk
  clear hk
  go_wp2
  go_ret
  exact ⟨by rw [← HK.out]; rfl, rfl⟩

set_option maxHeartbeats 1000000 in
theorem areWords_any (A : Option Addr) (n c : Nat) (zs : List Int) (r : Bool) (w : World) (h : Has w A n zs) (hn : n ≤ 16777216) (hr : words 12 zs = r) :
    Calls Tryd.prog 46 #[.slice A n c] w fun e w' => e = .returned (.bool r) ∧ w = w' := by
  have HR := Lib.hid hr
  have HL := Lib.hid h.1
  clear hr
  by_cases h12 : n ≤ 12
  · obtain ⟨q, hq⟩ : ∃ q, worded zs = q := ⟨_, rfl⟩
    have HQ := Lib.hid hq
    clear hq
    go_enter Tryd.func46, Tryd.ntmps46
    go_wp2_with fail
    refine (anyNoWord_any A n c zs q _ h hn HQ.out).mono ?_
    rintro e w' ⟨rfl, rfl⟩
    go_wp2
    go_ret
    have e : q = r := by rw [← HR.out, words, HL.out, HQ.out, decide_eq_true h12, Bool.true_and]
    subst e
    exact ⟨by simp, rfl⟩
  · have e : false = r := by rw [← HR.out, words, HL.out, decide_eq_false h12, Bool.false_and]
    subst e
    go_enter Tryd.func46, Tryd.ntmps46
    go_wp2
    go_ret
    exact ⟨rfl, rfl⟩

theorem words_and (zs : List Int) {m k : Nat} (h : m ≤ k) : (words k zs && decide (zs.length ≤ m)) = words m zs := by
  unfold words
  by_cases h1 : zs.length ≤ m
  · simp [h1, show zs.length ≤ k by omega]
  · simp [h1]

theorem areKeyWords_any (A : Option Addr) (n c : Nat) (zs : List Int) (r : Bool) (w : World) (h : Has w A n zs) (hn : n ≤ 16777216) (hr : words 10 zs = r) :
    Calls Tryd.prog 40 #[.slice A n c] w fun e w' => e = .returned (.bool r) ∧ w = w' := by
  have HL := Lib.hid h.1
  have HR : Hid ((words 12 zs && decide (n ≤ 10)) = r) := by show _ = _; rw [← hr, ← h.1]; exact words_and zs (by omega)
  clear hr
  cases hq : words 12 zs with
  | true =>
    have HQ := Lib.hid hq
    clear hq
    go_enter Tryd.func40, Tryd.ntmps40
    go_wp2_with fail
    refine (areWords_any A n c zs true _ h hn HQ.out).mono ?_
    rintro e w' ⟨rfl, rfl⟩
    go_wp2
    go_ret
    have := HR.out
    rw [HQ.out, Bool.true_and] at this
    subst this
    exact ⟨by simp; omega, rfl⟩
  | false =>
    have HQ := Lib.hid hq
    clear hq
    go_enter Tryd.func40, Tryd.ntmps40
    go_wp2_with fail
    refine (areWords_any A n c zs false _ h hn HQ.out).mono ?_
    rintro e w' ⟨rfl, rfl⟩
    go_wp2
    go_ret
    have := HR.out
    rw [HQ.out, Bool.false_and] at this
    subst this
    exact ⟨rfl, rfl⟩

set_option maxHeartbeats 1000000 in
theorem dgList_any (A : Option Addr) (n c : Nat) (zs : List Int) (m : Nat) (r : Bool) (w : World) (h : Has w A n zs) (hn : n ≤ 16777216) (_hm : m ≤ 100) (hr : words m zs = r) :
    Calls Tryd.prog 47 #[.slice A n c, .int .i64 (m : Int)] w fun e w' => e = .returned (.bool r) ∧ w = w' := by
  have HR := Lib.hid hr
  have HL := Lib.hid h.1
  clear hr
  by_cases h12 : n ≤ m
  · obtain ⟨q, hq⟩ : ∃ q, worded zs = q := ⟨_, rfl⟩
    have HQ := Lib.hid hq
    clear hq
    go_enter Tryd.func47, Tryd.ntmps47
    go_wp2_with fail
    refine (l1All_any A n c zs (-1000000000) 1000000000 q _ h hn HQ.out).mono ?_
    rintro e w' ⟨rfl, rfl⟩
    go_wp2
    go_ret
    have e : q = r := by rw [← HR.out, words, HL.out, HQ.out, decide_eq_true h12, Bool.true_and]
    subst e
    exact ⟨rfl, rfl⟩
  · have e : false = r := by rw [← HR.out, words, HL.out, decide_eq_false h12, Bool.false_and]
    subst e
    go_enter Tryd.func47, Tryd.ntmps47
    go_wp2
    go_ret
    exact ⟨rfl, rfl⟩

theorem dgShort_any (A : Option Addr) (n c : Nat) (zs : List Int) (r : Bool) (w : World) (h : Has w A n zs) (hn : n ≤ 16777216) (hr : words 10 zs = r) :
    Calls Tryd.prog 35 #[.slice A n c] w fun e w' => e = .returned (.bool r) ∧ w = w' := by
  have HR := Lib.hid hr
  clear hr
  go_enter Tryd.func35, Tryd.ntmps35
  go_wp2_with fail
  refine (dgList_any A n c zs 10 r _ h hn (by omega) HR.out).mono ?_
  rintro e w' ⟨rfl, rfl⟩
  go_wp2
  go_ret
  exact ⟨rfl, rfl⟩

end Go.Proofs.YtjalpankapakkaaDoor
