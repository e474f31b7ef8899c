/- The program's EqualOuts, and slices.IndexFunc over rows at whatever function value. For every circuit of at most 1048576 gates and outs. -/
import Derived.Test.YtnelcbjegbchkaaSiI3
namespace Go.Proofs.Ytnelcbjegbchkaa
open Go.RowKit
set_option maxRecDepth 100000

set_option maxRecDepth 100000 in
set_option maxHeartbeats 1000000 in
theorem indexRows_any (g : Nat) (lb : Array Value) (eg : ∀ args w, (callFunc g args).run Try.prog w = .ok (.enter g args) w) (P : Nat → Bool) (A : Option Addr) (n c : Nat) (M : Nat → List Int) (w : World) (h : HasM w A n M) (hn : n ≤ 16777216)
    (hcl : ∀ (W : World) (k : Nat) (R : Option Addr) (m cR : Nat), k < n → Below w.heap.size w W → Has W R m (M k) → m ≤ 16777216 → Calls Try.prog g (#[.slice R m cR] ++ lb) W fun e w' => e = .returned (.bool (P k)) ∧ Below W.heap.size W w') :
    Calls Try.prog 115 #[.slice A n c, .func (.func g) #[] lb] w
      fun e w' => ∃ i : Int, e = .returned (.int .i64 i) ∧ Below w.heap.size w w' ∧ Hid ((i = -1 ∧ ∀ j, j < n → P j = false) ∨ ∃ r : Nat, r < n ∧ i = (r : Int) ∧ P r = true ∧ ∀ j, j < r → P j = false) := by
  have HCL := Lib.hid hcl
  have HEG := Lib.hid eg
  clear hcl eg
  go_enter Try.func115, Try.ntmps115
  go_wp2_with fail
  go_loopw [8] (fun iv wr => ∃ j : Nat, j ≤ n ∧ iv = .int .i64 j ∧ Hid (∀ i, i < j → P i = false) ∧ Below w.heap.size w wr) (fun iv _ => n - (intOf iv).toNat)
  case atStart => exact ⟨0, Nat.zero_le _, rfl, Lib.hid (fun i hi => absurd hi (by omega)), Below.refl _ _⟩
  case round =>
    obtain ⟨j, hj, rfl, HJ, bj⟩ := hrel
    by_cases hlt : j < n
    · obtain ⟨ad, R, m, cR, rfl, hcR, hRow, hm1, hmc, hNil⟩ := (h.below bj).elem hlt
      have hC := HCL.out wr j R m cR hlt bj hRow hm1
      obtain ⟨q, hq⟩ : ∃ q, P j = q := ⟨_, rfl⟩
      rw [hq] at hC
      have HC := Lib.hid hC
      have HQ := Lib.hid hq
      have eg := HEG.out
      clear hC hq hRow hNil
      have j0 : (0 : Int) ≤ (j : Int) := by omega
      have j1 : (j : Int) < (n : Int) := by omega
      cases q with
      | true =>
        go_wp2_with (go_at_fn g; ((with_reducible refine (HC.out).mono ?_); rintro e w2 ⟨rfl, b2⟩))
        go_ret
        exact ⟨(j : Int), rfl, bj.trans (b2.mono bj.size), Lib.hid (.inr ⟨j, hlt, rfl, HQ.out, HJ.out⟩)⟩
      | false =>
        have HK : Hid (∀ i, i < j + 1 → P i = false) := Lib.hid (fun i hi => by
          by_cases e : i = j
          · rw [e]; exact HQ.out
          · exact HJ.out i (by omega))
        go_wp2_with (go_at_fn g; ((with_reducible refine (HC.out).mono ?_); rintro e w2 ⟨rfl, b2⟩))
        go_roundw
        case rel => exact ⟨j + 1, by omega, by go_num, HK, bj.trans (b2.mono bj.size)⟩
        case measure => simp [intOf]; omega
    · obtain rfl : j = n := by omega
      go_wp2_with fail
      go_ret
      exact ⟨-1, rfl, bj, Lib.hid (.inl ⟨rfl, HJ.out⟩)⟩

theorem sameTo_run {C : Ci} {k : Nat} : ∀ {r : Nat}, (∀ j, j < r → decide (colOf C j = colOf C k) = false) → sameTo C k r = r
  | 0, _ => rfl
  | r + 1, h => sameTo_next (sameTo_run fun j hj => h j (by omega)) (of_decide_eq_false (h r (by omega)))

set_option maxHeartbeats 1000000 in
theorem sameClosure_any (R : Option Addr) (m c : Nat) (xs : List Int) (R' : Option Addr) (c' : Nat) (ys : List Int) (b : Nat) (w : World) (h : Has w R m xs) (h' : Has w R' m ys) (hm : m ≤ 16777216) (hb : w.cell? ⟨b, 0, none⟩ = some (.slice R' m c')) :
    Calls Try.prog 116 #[.slice R m c, .pointer (some ⟨b, 0, none⟩)] w fun e w' => e = .returned (.bool (decide (xs = ys))) ∧ Below w.heap.size w w' := by
  have HC := Lib.hid (slEqual_any R R' m c c' xs ys _ w h h' hm rfl)
  go_enter Try.func116, Try.ntmps116
  go_wp2_with fail
  refine (HC.out).mono ?_
  rintro e w2 ⟨rfl, b2⟩
  go_wp2_with fail
  go_ret
  exact ⟨rfl, b2⟩

set_option maxRecDepth 100000 in
set_option maxHeartbeats 1000000 in
theorem firstClosure_any (C : Ci) (N S g bt q k : Nat) (R : Option Addr) (c : Nat) (w : World) (hN : rowsN C = N) (hN1 : N ≤ 1024) (hq : q ≤ 40) (hk : k < q) (hR : Has w R N (colOf C k)) (hM : MatR w S g q (fun j => colOf C j)) (hb : w.cell? ⟨bt, 0, none⟩ = some (.slice (some ⟨g, 0, none⟩) q q)) (hbt : bt < w.heap.size) :
    Calls Try.prog 114 #[.int .i64 (k : Int), .slice R N c, .pointer (some ⟨bt, 0, none⟩)] w fun e w' => e = .returned (.int .i64 (sameTo C k (k + 1) : Int)) ∧ Below w.heap.size w w' := by
  have B1 := belowNew w (.cells #[.slice R N c] 26)
  have p1 := Blk.new w #[.slice R N c] 26
  obtain ⟨W1, hW1⟩ : ∃ W, W = w.alloc (.cells #[.slice R N c] 26) := ⟨_, rfl⟩
  rw [← hW1] at B1 p1
  have hb1 := cellKept B1 hbt hb
  have hM1 := hM.below B1
  have hR1 := hR.below B1
  have HC : Hid (Calls Try.prog 115 #[.slice (some ⟨g, 0, none⟩) q q, .func (.func 116) #[] #[.pointer (some ⟨w.heap.size, 0, none⟩)]] W1 fun e w' => ∃ i : Int, e = .returned (.int .i64 i) ∧ Below W1.heap.size W1 w' ∧ Hid ((i = -1 ∧ ∀ j, j < q → decide (colOf C j = colOf C k) = false) ∨ ∃ r : Nat, r < q ∧ i = (r : Int) ∧ decide (colOf C r = colOf C k) = true ∧ ∀ j, j < r → decide (colOf C j = colOf C k) = false)) :=
    Lib.hid (indexRows_any 116 _ (enters_of Try.func116 (by kernel_rfl) rfl) (fun j => decide (colOf C j = colOf C k)) _ q q _ W1 (HasM.of hM1) (by omega) (fun W j R' m cR hj hbW hR' hm1 => by
      obtain rfl : m = N := by rw [← hR'.1, ← hN]; exact colTo_length C j _
      exact sameClosure_any R' m cR _ R c _ w.heap.size W hR' (hR1.below hbW) (by omega) ((p1.below' hbW).cell (i := 0) rfl)))
  clear hb hN hR hM hM1 hR1
  go_enter Try.func114, Try.ntmps114
  go_upto_region 1 with fail
  rw [← hW1]
  clear hW1
  go_wp2_with fail
  refine (HC.out).mono ?_
  rintro e w2 ⟨i, rfl, b2, HI⟩
  have HF : Hid (i = (sameTo C k (k + 1) : Int)) := by
    show _ = _
    rcases HI.out with ⟨_, h⟩ | ⟨r, hr, rfl, h1, h2⟩
    · have := h k hk; simp at this
    · have hrk : r < k + 1 := by
        rcases Nat.lt_or_ge k r with hlt | hge
        · have := h2 k hlt; simp at this
        · omega
      rw [sameTo_here (sameTo_run h2) (of_decide_eq_true h1) _ hrk]
  go_wp2_with fail
  go_ret
  exact ⟨retI HF.out, B1.trans (b2.mono B1.size)⟩

set_option maxRecDepth 100000 in
set_option maxHeartbeats 1000000 in
theorem impl_EqualOuts (v : Value) (C : Ci) (rs : List Int) (rb : Bool) (w : World) (h : HasC w v C) (hf : Fit C) (hm : m_EqualOuts C = (rs, rb)) :
    Calls Try.prog 44 #[v] w fun e w' => ∃ R m c', e = .returned (.tuple #[.slice R m c', .bool rb]) ∧ Own w' w.heap.size R m c' rs ∧ m ≤ 16777216 ∧ Below w.heap.size w w' := by
  obtain ⟨G, n, c, O, q, d, rfl, _, hO, _, _, _, _⟩ := id h
  have HOL := Lib.hid hO.1
  have HM := Lib.hid hm
  have B1 := belowNew w (.cells #[.int .i64 C.in0, .int .i64 C.in1, .slice G n c, .slice O q d] 34)
  have p1 := Blk.new w #[.int .i64 C.in0, .int .i64 C.in1, .slice G n c, .slice O q d] 34
  have h1 := h.below B1
  obtain ⟨W1, hW1⟩ : ∃ W, W = w.alloc (.cells #[.int .i64 C.in0, .int .i64 C.in1, .slice G n c, .slice O q d] 34) := ⟨_, rfl⟩
  rw [← hW1] at B1 p1 h1
  obtain ⟨t, ht⟩ : ∃ t, tiny C = t := ⟨_, rfl⟩
  have HG := Lib.hid (isSmall_any _ C t W1 h1 hf ht)
  have HT := Lib.hid ht
  obtain ⟨k0, k1, k2, k3⟩ := p1.four
  clear h hO hm ht
  cases t with
  | false =>
    have e := HM.out
    rw [m_EqualOuts, if_neg (by simp [HT.out])] at e
    obtain ⟨rfl, rfl⟩ := Prod.mk.inj e
    clear e
    go_enter Try.func44, Try.ntmps44
    go_wp2_with fail
    rw [← hW1]
    refine (HG.out).mono ?_
    rintro e w2 ⟨rfl, b2⟩
    go_wp2_with fail
    go_ret2
    exact ⟨none, 0, 0, rfl, Own.nil_ _ _, by omega, B1.trans (b2.mono B1.size)⟩
  | true =>
    have e := HM.out
    rw [m_EqualOuts, if_pos HT.out] at e
    obtain ⟨e1, rfl⟩ := Prod.mk.inj e
    have HE : Hid (mapTo (fun k => (sameTo C k (k + 1) : Int)) q = rs) := by show _ = _; rw [← HOL.out]; exact e1
    have hq40 : q ≤ 40 := by have := HOL.out; have := (gd_yes (tiny_yes HT.out).1).o; omega
    obtain ⟨p, N, hp, hpp, p10, hN, hNI, N0, N1⟩ := tinyPow HT.out
    have HN := Lib.hid hN
    clear e e1 hp hpp hN hNI
    go_enter Try.func44, Try.ntmps44
    go_wp2_with fail
    rw [← hW1]
    clear hW1
    refine (HG.out).mono ?_
    rintro e w2 ⟨rfl, b2⟩
    have p2 := p1.below' b2
    have HC : Hid (Calls Try.prog 113 #[.agg #[.int .i64 C.in0, .int .i64 C.in1, .slice G n c, .slice O q d]] w2 fun e w' => ∃ x, e = .returned (.slice (some ⟨x, 0, none⟩) q q) ∧ MatR w' w2.heap.size x q (fun k => colOf C k) ∧ Below w2.heap.size w2 w') := by
      have hC := columnsOf_any _ C w2 (h1.below b2) HT.out
      rw [HOL.out] at hC
      exact hC
    have B2 := B1.trans (b2.mono B1.size)
    clear k0 k1 k2 k3 p1 h1 B1 b2 HG
    obtain ⟨k0, k1, k2, k3⟩ := p2.four
    go_wp2_with fail
    refine (HC.out).mono ?_
    rintro e w3 ⟨x, rfl, hX, b3⟩
    have B3 := B2.trans (b3.mono B2.size)
    have b4 := belowNew w3 (.cells #[.slice (some ⟨x, 0, none⟩) q q] 64)
    have r4 := Blk.new w3 #[.slice (some ⟨x, 0, none⟩) q q] 64
    have hX4 := hX.below b4
    obtain ⟨W4, hW4⟩ : ∃ W, W = w3.alloc (.cells #[.slice (some ⟨x, 0, none⟩) q q] 64) := ⟨_, rfl⟩
    rw [← hW4] at b4 r4 hX4
    have B4 := B3.trans (b4.mono B3.size)
    have HX : Hid (Calls Try.prog 66 #[.slice (some ⟨x, 0, none⟩) q q, .func (.func 114) #[] #[.pointer (some ⟨w3.heap.size, 0, none⟩)]] W4 fun e w' => ∃ R, e = .returned (.slice R q q) ∧ Own w' W4.heap.size R q q (mapTo (fun k => (sameTo C k (k + 1) : Int)) q) ∧ Below W4.heap.size W4 w') :=
      Lib.hid (changedRI_any 114 _ (enters_of Try.func114 (by kernel_rfl) rfl) (fun k => (sameTo C k (k + 1) : Int)) _ q q _ W4 (HasM.of hX4) (by omega) (fun W j R m cR hj hbW hR hm1 _ _ => by
        obtain rfl : m = N := by rw [← hR.1, ← HN.out]; exact colTo_length C j _
        exact firstClosure_any C m _ x w3.heap.size q j R cR W HN.out N1 hq40 hj hR (hX4.below hbW) ((r4.below' hbW).cell (i := 0) rfl) (r4.below' hbW).lt))
    have e4 := r4.cell (i := 0) rfl
    clear k0 k1 k2 k3 p2 hX hX4 r4 HC b3
    go_upto_region 4 with fail
    rw [← hW4]
    clear hW4
    go_wp2_with fail
    refine (HX.out).mono ?_
    rintro e w5 ⟨R, rfl, o5, b5⟩
    rw [HE.out] at o5
    go_wp2_with fail
    go_ret2
    exact ⟨R, q, q, rfl, o5.mono B4.size, by omega, B4.trans (b5.mono B4.size)⟩

end Go.Proofs.Ytnelcbjegbchkaa
