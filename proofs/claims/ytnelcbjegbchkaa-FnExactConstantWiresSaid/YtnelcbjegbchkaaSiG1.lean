/- The model's small circuits, and two lists that are compared. For every circuit of at most 1048576 gates and outs. -/
import Derived.Test.YtnelcbjegbchkaaSiM1
import Derived.Test.YtnelcbjegbchkaaCirG4
import Derived.Deep.DeepCutAuto
namespace Go.Proofs.Ytnelcbjegbchkaa
open Go.RowKit
set_option maxRecDepth 100000

set_option maxRecDepth 100000 in
set_option maxHeartbeats 2000000 in
theorem siSmall_any (v : Value) (C : Ci) (b : Bool) (w : World) (h : HasC w v C) (hf : Fit C) (hb : tiny C = b) :
    Calls Try.prog 103 #[v] w fun e w' => e = .returned (.bool b) ∧ Below w.heap.size w w' := by
  obtain ⟨G, n, c, O, q, d, rfl, _, hO, _, _, _, _⟩ := id h
  have HOL := Lib.hid hO.1
  have HB := Lib.hid hb
  have B1 := belowNew w (.cells #[.int .i64 C.in0, .int .i64 C.in1, .slice G n c, .slice O q d] 34)
  have p1 := Blk.new w #[.int .i64 C.in0, .int .i64 C.in1, .slice G n c, .slice O q d] 34
  have h1 := h.below B1
  obtain ⟨W1, hW1⟩ : ∃ W, W = w.alloc (.cells #[.int .i64 C.in0, .int .i64 C.in1, .slice G n c, .slice O q d] 34) := ⟨_, rfl⟩
  rw [← hW1] at B1 p1 h1
  clear h hO hb
  have HG := Lib.hid (ciGood_any _ C (gd C) W1 h1 (fitLen hf) rfl)
  obtain ⟨k0, k1, k2, k3⟩ := p1.four
  cases eg : gd C with
  | false =>
    have e : b = false := by rw [← HB.out, tiny, eg]; rfl
    subst e
    go_enter Try.func103, Try.ntmps103
    go_wp2_with fail
    rw [← hW1]
    refine (HG.out).mono ?_
    rintro e w2 ⟨rfl, b2⟩
    rw [eg]
    go_wp2_with fail
    go_ret
    exact ⟨rfl, B1.trans (b2.mono B1.size)⟩
  | true =>
    have hGood := gd_yes eg
    have hd : decide (C.ins ≤ 10) = b := by rw [← HB.out, tiny, eg]; simp
    have HD := Lib.hid hd
    clear hd
    go_enter Try.func103, Try.ntmps103
    go_wp2_with fail
    rw [← hW1]
    clear hW1
    refine (HG.out).mono ?_
    rintro e w2 ⟨rfl, b2⟩
    rw [eg]
    have p2 := p1.below' b2
    have h2 := h1.below b2
    have B2 := B1.trans (b2.mono B1.size)
    clear p1 h1 b2 B1 k0 k1 k2 k3
    obtain ⟨k0, k1, k2, k3⟩ := p2.four
    have HI := Lib.hid (ciInputs_any _ C w2 h2 hGood.a0 (by have := hGood.a1; omega) hGood.b0 (by have := hGood.b1; omega))
    clear HG hGood eg
    go_wp2_with fail
    refine (HI.out).mono ?_
    rintro e w3 ⟨rfl, b3⟩
    have p3 := p2.below' b3
    have B3 := B2.trans (b3.mono B2.size)
    clear p2 h2 b3 B2 k0 k1 k2 k3
    obtain ⟨k0, k1, k2, k3⟩ := p3.four
    have HD' := HD.out
    generalize C.ins = i at *
    by_cases c10 : i ≤ 10
    · obtain rfl : b = true := by rw [← HD', decide_eq_true c10]
      clear HD HB HD'
      go_wp2_with fail
      go_ret
      exact ⟨retBl (by simp), B3⟩
    · obtain rfl : b = false := by rw [← HD', decide_eq_false c10]
      clear HD HB HD'
      go_wp2_with fail
      go_ret
      exact ⟨retBl (by simp [c10]), B3⟩

set_option maxHeartbeats 1000000 in
theorem l1Same_any (A B : Option Addr) (n c d : Nat) (xs ys : List Int) (b : Bool) (w : World) (ha : Has w A n xs) (hb : Has w B n ys) (hn : n ≤ 16777216) (he : decide (xs = ys) = b) :
    Calls Try.prog 112 #[.slice A n c, .slice B n d] w fun e w' => e = .returned (.bool b) ∧ Below w.heap.size w w' := by
  have HE := Lib.hid he
  have HXL : Hid (xs.length = n) := ha.1
  have HYL : Hid (ys.length = n) := hb.1
  clear he
  go_enter Try.func112, Try.ntmps112
  go_wp2_with fail
  go_loopw [13] (fun i wr => ∃ k : Nat, k ≤ n ∧ i = .int .i64 k ∧ Hid (∀ j, j < k → xs.getD j 0 = ys.getD j 0) ∧ Below w.heap.size w wr) (fun i _ => n - (intOf i).toNat)
  case atStart => exact ⟨0, Nat.zero_le _, rfl, Lib.hid (fun j hj => by omega), Below.refl _ _⟩
  case round =>
    obtain ⟨k, hk, rfl, HS, hbk⟩ := hrel
    by_cases hlt : k < n
    · obtain ⟨ad, x, rfl, hc, HX⟩ := (ha.below hbk).elem hlt
      obtain ⟨bd, y, rfl, hd, HY⟩ := (hb.below hbk).elem hlt
      have k0 : (0 : Int) ≤ (k : Int) := by omega
      have k1 : (k : Int) < (n : Int) := by omega
      by_cases hxy : x = y
      · subst hxy
        have HS2 : Hid (∀ j, j < k + 1 → xs.getD j 0 = ys.getD j 0) := Lib.hid (fun j hj => by
          by_cases e : j = k
          · subst e; rw [← HX.out, ← HY.out]
          · exact HS.out j (by omega))
        go_wp2_with fail
        go_quiet (fail)
        go_wp2_with fail
        go_roundw
        case rel => exact ⟨k + 1, by omega, by go_num, HS2, below_drewN hbk _⟩
        case measure => simp [intOf]; omega
      · have e : b = false := by
          rw [← HE.out, decide_eq_false]
          intro e
          rw [e] at HX
          exact hxy (HX.out.trans HY.out.symm)
        subst e
        go_wp2_with fail
        go_quiet (fail)
        go_wp2_with fail
        go_ret
        exact ⟨rfl, below_drewN hbk _⟩
    · obtain rfl : k = n := by omega
      have e : b = true := by
        rw [← HE.out, decide_eq_true]
        apply List.ext_getElem (by rw [HXL.out, HYL.out])
        intro j h1 h2
        have := HS.out j (by rw [← HXL.out]; exact h1)
        simpa [List.getD, h1, h2] using this
      subst e
      go_wp2_with fail
      go_ret
      exact ⟨rfl, hbk⟩

end Go.Proofs.Ytnelcbjegbchkaa
