/- The model's weights of points and its sum of weighted values. For slices of at most 12 points of a small field. -/
import Derived.Test.YtkmnhdnifpglnaaFld9
namespace Go.Proofs.Ytkmnhdnifpglnaa
open Go.RowKit

theorem wrapIn {a : Int} (h0 : -9223372036854775808 ≤ a) (h1 : a ≤ 9223372036854775807) : IntKind.i64.wrap a = a := by rw [IntKind.wrap_i64]; omega
theorem wtM_in {p x : Int} {xs : List Int} {i : Nat} (h : 2 ≤ p) (k : Nat) : 0 ≤ wtM p xs i x k ∧ wtM p xs i x k < p := by
  induction k with
  | zero => exact ⟨by show (0 : Int) ≤ 1; omega, by show (1 : Int) < p; omega⟩
  | succ k ih =>
    rw [wtM]
    split
    · exact ih
    · exact modIn h

theorem drewMore {w wr : World} {m : Nat} (h : ∃ d, wr = w.drewN d) : ∃ d, wr.drewN m = w.drewN d := by
  obtain ⟨d, rfl⟩ := h
  exact ⟨d + m, by simp⟩

set_option maxRecDepth 100000 in
set_option maxHeartbeats 2000000 in
theorem fpWeight_any (p : Int) (A : Option Addr) (n c : Nat) (xs : List Int) (i : Nat) (x y : Int) (w : World) (p2 : 2 ≤ p) (p251 : p ≤ 251) (x0 : 0 ≤ x) (x1 : x < p) (h : Has w A n xs) (hn : n ≤ 16777216) (hi : i < n) (hz : ∀ k, k < xs.length → 0 ≤ xs.getD k 0 ∧ xs.getD k 0 < p) (hy : wtM p xs i x n = y) :
    Calls Try.prog 79 #[.int .i64 p, .slice A n c, .int .i64 (i : Int), .int .i64 x] w fun e w' => e = .returned (.int .i64 y) ∧ ∃ d, w' = w.drewN d := by
  have HZ := Lib.hid hz
  have HY := Lib.hid hy
  have HL := Lib.hid h.1
  clear hz hy
  obtain ⟨bd, zi, rfl, hci, HI⟩ := h.elem hi
  obtain ⟨i0, i1⟩ : 0 ≤ zi ∧ zi < p := by rw [HI.out]; exact HZ.out i (by rw [HL.out]; exact hi)
  go_enter Try.func79, Try.ntmps79
  go_wp2
  go_loopw [9, 14] (fun u j wr => ∃ (k : Nat) (t : Int), k ≤ n ∧ j = .int .i64 k ∧ u = .int .i64 t ∧ 0 ≤ t ∧ t < p ∧ Hid (t = wtM p xs i x k) ∧ ∃ d, wr = w.drewN d) (fun _ j _ => n - (intOf j).toNat)
  case atStart => exact ⟨0, 1, Nat.zero_le _, rfl, rfl, by omega, by omega, rfl, 0, rfl⟩
  case round =>
    obtain ⟨k, t, hk, rfl, rfl, t0, t1, HT, hd⟩ := hrel
    by_cases hlt : k < n
    · have hcw : wr.cell? (bd.add i) = some (.int .i64 zi) := by obtain ⟨d, rfl⟩ := hd; exact hci
      have hh : Has wr (some bd) n xs := by obtain ⟨d, rfl⟩ := hd; exact h
      have HD := Lib.hid hd
      clear hd
      obtain ⟨ad, z, he, hc, HE⟩ := hh.elem hlt
      obtain rfl := Option.some.inj he
      obtain ⟨z0, z1⟩ : 0 ≤ z ∧ z < p := by rw [HE.out]; exact HZ.out k (by rw [HL.out]; exact hlt)
      by_cases hki : k = i
      · subst hki
        go_wp2
        go_roundw
        case rel => exact ⟨k + 1, t, by omega, by go_num, rfl, t0, t1, by show _ = _; rw [wtM, if_pos rfl]; exact HT.out, HD.out⟩
        case measure => simp [intOf]; omega
      · have hki' : ((k : Int) != (i : Int)) = true := by simp; omega
        obtain ⟨u, hu⟩ : ∃ u, (x - z) % p = u := ⟨_, rfl⟩
        obtain ⟨u0, u1⟩ : 0 ≤ u ∧ u < p := by rw [← hu]; exact modIn p2
        obtain ⟨v, hv⟩ : ∃ v, (zi - z) % p = v := ⟨_, rfl⟩
        obtain ⟨v0, v1⟩ : 0 ≤ v ∧ v < p := by rw [← hv]; exact modIn p2
        obtain ⟨q, hq⟩ : ∃ q, powM p v (p.toNat - 2) = q := ⟨_, rfl⟩
        obtain ⟨q0, q1⟩ : 0 ≤ q ∧ q < p := by rw [← hq]; exact powM_in (by omega)
        have HU := Lib.hid hu
        have HV := Lib.hid hv
        have HQ := Lib.hid hq
        have QM : Hid (∀ (a : Int) (W : World), -2000000 ≤ a → a ≤ 2000000 → Calls Try.prog 53 #[.int .i64 a, .int .i64 p] W fun e w' => e = .returned (.int .i64 (a % p)) ∧ w' = W) :=
          fun a W h1 h2 => (mod_any a p _ W h1 h2 (by omega) (by omega) rfl).mono fun _ _ ⟨he, hw⟩ => ⟨he, hw.symm⟩
        have QI : Hid (∀ W : World, Calls Try.prog 39 #[.int .i64 p, .int .i64 v] W fun e w' => e = .returned (.int .i64 q) ∧ w' = W) :=
          fun W => (specInv_any p v q W p2 p251 v0 v1 HQ.out).mono fun _ _ ⟨he, hw⟩ => ⟨he, hw.symm⟩
        clear hq
        obtain ⟨a0, a1⟩ := mulFits p251 t0 t1 u0 u1
        have tm := tmodPos (a := t * u) (b := p) a0
        obtain ⟨b0, b1⟩ := modIn (a := t * u) p2
        obtain ⟨c0, c1⟩ := mulFits p251 b0 b1 q0 q1
        have tn := tmodPos (a := t * u % p * q) (b := p) c0
        obtain ⟨d0, d1⟩ := modIn (a := t * u % p * q) p2
        have hw1 : IntKind.i64.wrap (x - z) = x - z := wrapIn (by omega) (by omega)
        have hw2 : IntKind.i64.wrap (zi - z) = zi - z := wrapIn (by omega) (by omega)
        have i2 : (0 : Int) ≤ (i : Int) := by omega
        have i3 : (i : Int) < (n : Int) := by omega
        go_wp2
        go_quiet (first | (go_at_call 53; exact Calls.quiet_of_same (QM.out _ _ (by omega) (by omega))) | (go_at_call 39; exact Calls.quiet_of_same (QI.out _)))
        go_wp2
        go_roundw
        case rel => exact ⟨k + 1, _, by omega, by go_num, rfl, d0, d1, by show _ = _; rw [wtM, if_neg hki, ← HT.out, ← HE.out, lagInv, ← HI.out, ← HE.out, HU.out, HV.out, HQ.out], drewMore HD.out⟩
        case measure => simp [intOf]; omega
    · obtain rfl : k = n := by omega
      go_wp2
      go_ret
      obtain rfl := HT.out.trans HY.out
      exact ⟨rfl, hd⟩

set_option maxRecDepth 100000 in
set_option maxHeartbeats 2000000 in
theorem fpAt_any (p : Int) (A B : Option Addr) (n c d : Nat) (xs ys : List Int) (x y : Int) (w : World) (p2 : 2 ≤ p) (p251 : p ≤ 251) (x0 : 0 ≤ x) (x1 : x < p) (h : Has w A n xs) (h' : Has w B n ys) (hn : n ≤ 16777216)
    (hz : ∀ k, k < n → 0 ≤ xs.getD k 0 ∧ xs.getD k 0 < p) (hz' : ∀ k, k < n → 0 ≤ ys.getD k 0 ∧ ys.getD k 0 < p) (hy : atM p xs ys n x n = y) :
    Calls Try.prog 56 #[.int .i64 p, .slice A n c, .slice B n d, .int .i64 x] w fun e w' => e = .returned (.int .i64 y) ∧ Below w.heap.size w w' := by
  have HX : Hid (∀ k, k < xs.length → 0 ≤ xs.getD k 0 ∧ xs.getD k 0 < p) := by rw [h.1]; exact hz
  have HZ' := Lib.hid hz'
  have HY := Lib.hid hy
  clear hz hz' hy
  go_enter Try.func56, Try.ntmps56
  go_wp2
  go_loopw [9, 14] (fun u j wr => ∃ (k : Nat) (t : Int), k ≤ n ∧ j = .int .i64 k ∧ u = .int .i64 t ∧ 0 ≤ t ∧ t < p ∧ Hid (t = atM p xs ys n x k) ∧ Below w.heap.size w wr) (fun _ j _ => n - (intOf j).toNat)
  case atStart => exact ⟨0, 0, Nat.zero_le _, rfl, rfl, by omega, by omega, rfl, Below.refl _ _⟩
  case round =>
    obtain ⟨k, t, hk, rfl, rfl, t0, t1, HT, hb⟩ := hrel
    by_cases hlt : k < n
    · have hh := h.below hb
      obtain ⟨ad, z, rfl, hc, HE⟩ := (h'.below hb).elem hlt
      obtain ⟨z0, z1⟩ : 0 ≤ z ∧ z < p := by rw [HE.out]; exact HZ'.out k hlt
      obtain ⟨v, hv⟩ : ∃ v, wtM p xs k x n = v := ⟨_, rfl⟩
      obtain ⟨v0, v1⟩ : 0 ≤ v ∧ v < p := by rw [← hv]; exact wtM_in p2 n
      have HV := Lib.hid hv
      clear hv
      obtain ⟨a0, a1⟩ := mulFits p251 z0 z1 v0 v1
      have tm := tmodPos (a := t + z * v) (b := p) (by omega)
      obtain ⟨b0, b1⟩ := modIn (a := t + z * v) p2
      go_wp2_with fail
      refine (fpWeight_any p A n c xs k x v wr p2 p251 x0 x1 hh hn hlt HX.out HV.out).mono ?_
      rintro e w2 ⟨rfl, dd, rfl⟩
      go_wp2
      go_roundw
      case rel => exact ⟨k + 1, _, by omega, by go_num, rfl, b0, b1, by show _ = _; rw [atM, ← HT.out, ← HE.out, HV.out], below_drewN hb dd⟩
      case measure => simp [intOf]; omega
    · obtain rfl : k = n := by omega
      go_wp2
      go_ret
      obtain rfl := HT.out.trans HY.out
      exact ⟨rfl, hb⟩

def m_InterpolateAt (p : Int) (xs ys : List Int) (x : Int) : Int × Bool := if ptsOk p xs ys && decide (0 ≤ x ∧ x ≤ p - 1) then (atM p xs ys xs.length x xs.length, true) else (0, false)

set_option maxHeartbeats 2000000 in
theorem spec_InterpolateAt (p : Int) (A : Option Addr) (n c : Nat) (xs : List Int) (B : Option Addr) (m d : Nat) (ys : List Int) (x : Int) (ry : Int) (rb : Bool) (w : World) (hp : I64 p) (hx : Has w A n xs) (hn : n ≤ 16777216) (hy : Has w B m ys) (hmm : m ≤ 16777216) (_hx : I64 x) (hm : m_InterpolateAt p xs ys x = (ry, rb)) :
    Calls Try.prog 30 #[.int .i64 p, .slice A n c, .slice B m d, .int .i64 x] w fun e w' => e = .returned (.tuple #[.int .i64 ry, .bool rb]) ∧ Below w.heap.size w w' := by
  cases hq : ptsOk p xs ys with
  | false =>
    rw [m_InterpolateAt, hq, Bool.false_and, if_neg (by simp)] at hm
    obtain ⟨rfl, rfl⟩ := Prod.mk.inj hm
    have HQ := Lib.hid hq
    clear hm hq
    go_enter Try.func30, Try.ntmps30
    go_wp2_with fail
    refine (fpPoints_any p A B n m c d xs ys false _ hp hx hy hn hmm HQ.out).mono ?_
    rintro e w' ⟨rfl, hb⟩
    go_wp2_with fail
    go_ret2
    exact ⟨rfl, hb⟩
  | true =>
    rw [m_InterpolateAt, hq, Bool.true_and] at hm
    obtain ⟨hpts, h12⟩ := ptsOk_yes hq
    have hl := hx.1
    have hly := hpts.ly
    rw [hl] at hpts hm hly
    have hym := hy.1
    obtain rfl : n = m := by omega
    have HQ := Lib.hid hq
    have HPT := Lib.hid hpts
    obtain ⟨p2, p251⟩ := hpts.two
    by_cases hc : 0 ≤ x ∧ x ≤ p - 1
    · rw [decide_eq_true hc, if_pos rfl] at hm
      obtain ⟨h1, rfl⟩ := Prod.mk.inj hm
      have H1 := Lib.hid h1
      obtain ⟨x0, x1⟩ := hc
      clear hm hq hpts hl hly hym h1
      go_enter Try.func30, Try.ntmps30
      go_wp2_with fail
      refine (fpPoints_any p A B n n c d xs ys true _ hp hx hy hn hmm HQ.out).mono ?_
      rintro e w1 ⟨rfl, hb⟩
      go_wp2_with fail
      refine (l1In_any x 0 (p - 1) true _ (by simp; omega)).mono ?_
      rintro e w' ⟨rfl, rfl⟩
      go_wp2_with fail
      refine (fpAt_any p A B n c d xs ys x ry _ p2 p251 x0 (by omega) (hx.below hb) (hy.below hb) hn HPT.out.inx HPT.out.iny H1.out).mono ?_
      rintro e w2 ⟨rfl, hb2⟩
      go_wp2_with fail
      go_ret2
      exact ⟨rfl, hb.trans (hb2.mono hb.size)⟩
    · rw [decide_eq_false hc, if_neg (by simp)] at hm
      obtain ⟨rfl, rfl⟩ := Prod.mk.inj hm
      have HC : Hid ((decide (0 ≤ x) && decide (x ≤ p - 1)) = false) := by show _ = _; simp; omega
      clear hm hq hpts hl hly hym hc
      go_enter Try.func30, Try.ntmps30
      go_wp2_with fail
      refine (fpPoints_any p A B n n c d xs ys true _ hp hx hy hn hmm HQ.out).mono ?_
      rintro e w1 ⟨rfl, hb⟩
      go_wp2_with fail
      refine (l1In_any x 0 (p - 1) false _ HC.out).mono ?_
      rintro e w' ⟨rfl, rfl⟩
      go_wp2_with fail
      go_ret2
      exact ⟨rfl, hb⟩

end Go.Proofs.Ytkmnhdnifpglnaa
