/- The program's DependsOn. For every circuit of at most 1048576 gates and outs. -/
import Derived.Test.YtnelcbjegbchkaaSiI3
import Derived.Test.YtnelcbjegbchkaaSiG6
import Derived.Test.YtnelcbjegbchkaaSiK1
import Derived.Test.YtnelcbjegbchkaaGdI4
namespace Go.Proofs.Ytnelcbjegbchkaa
open Go.RowKit Go.Shelf
set_option maxRecDepth 100000

set_option maxRecDepth 100000 in
set_option maxHeartbeats 1000000 in
theorem changesWith_any (C : Ci) (kk p N i : Nat) (R : Option Addr) (c : Nat) (b : Bool) (w : World) (h : Has w R N (colOf C kk)) (hN : rowsN C = N) (hp : C.ins.toNat = p) (p10 : p ≤ 10) (hN1 : N ≤ 1024) (hi : i < p) (hb : depOn C kk i = b) :
    Calls Try.prog 110 #[.slice R N c, .int .i64 (i : Int)] w fun e w' => e = .returned (.bool b) ∧ w = w' := by
  have HN := Lib.hid hN
  have HPP := Lib.hid hp
  have HB := Lib.hid hb
  have HH := Lib.hid h
  clear hN hp hb h
  go_enter Try.func110, Try.ntmps110
  go_wp2_with fail
  go_loop [9] (fun iv => ∃ j : Nat, j ≤ N ∧ iv = .int .i64 j ∧ Hid (∀ l, l < j → flipAt C kk i l = false)) (fun iv => N - (intOf iv).toNat)
  case atStart => exact ⟨0, Nat.zero_le _, rfl, Lib.hid (fun l hl => absurd hl (by omega))⟩
  case round =>
    obtain ⟨n, hn, rfl, HJ⟩ := hrel
    by_cases hlt : n < N
    · have hfl := flip_lt HN.out HPP.out hi hlt
      obtain ⟨ad, x, rfl, hcx, HX⟩ := HH.out.elem hlt
      obtain ⟨ad', y, e', hcy, HY⟩ := HH.out.elem hfl
      obtain rfl := Option.some.inj e'
      have hx1 := xorFlip (n := n) (show i ≤ 10 by omega) (by omega)
      have hFL : flipAt C kk i n = decide (y ≠ x) := by rw [flipAt, HX.out, HY.out]
      obtain ⟨f, hf⟩ : ∃ f, n ^^^ 2 ^ i = f := ⟨_, rfl⟩
      rw [hf] at hx1 hcy hfl
      have f0 : (0 : Int) ≤ (f : Int) := by omega
      have f1 : (f : Int) < (N : Int) := by omega
      have n0 : (0 : Int) ≤ (n : Int) := by omega
      have n1 : (n : Int) < (N : Int) := by omega
      have i0 : (0 : Int) ≤ (i : Int) := by omega
      clear hf HX HY
      by_cases hxy : x = y
      · subst hxy
        have HF : Hid (flipAt C kk i n = false) := by show _ = _; rw [hFL]; simp
        clear hFL
        go_wp2_with fail
        clear hx1 hcx hcy
        go_round
        case rel => exact ⟨n + 1, by omega, by go_num, Lib.hid (fun l hl => by
          by_cases e : l = n
          · rw [e]; exact HF.out
          · exact HJ.out l (by omega))⟩
        case measure => simp [intOf]; omega
      · have HF : Hid (b = true) := by
          show _ = _
          rw [← HB.out, depOn, List.any_eq_true]
          exact ⟨n, List.mem_range.2 (by rw [HN.out]; exact hlt), by rw [hFL]; simp; exact fun e => hxy e.symm⟩
        clear hFL
        go_wp2_with fail
        clear hx1 hcx hcy
        go_ret
        exact ⟨retBl HF.out.symm, rfl⟩
    · obtain rfl : n = N := by omega
      have HF : Hid (b = false) := by
        show _ = _
        rw [← HB.out, depOn, List.any_eq_false]
        intro j hj
        rw [HJ.out j (by rw [← HN.out]; exact List.mem_range.1 hj)]
        decide
      go_wp2_with fail
      go_ret
      exact ⟨retBl HF.out.symm, rfl⟩

set_option maxHeartbeats 1000000 in
theorem depClosure_any (C : Ci) (kk p N i bx : Nat) (R : Option Addr) (c : Nat) (w : World) (h : Has w R N (colOf C kk)) (hN : rowsN C = N) (hp : C.ins.toNat = p) (p10 : p ≤ 10) (hN1 : N ≤ 1024) (hi : i < p) (hb : w.cell? ⟨bx, 0, none⟩ = some (.slice R N c)) :
    Calls Try.prog 109 #[.int .i64 (i : Int), .pointer (some ⟨bx, 0, none⟩)] w fun e w' => e = .returned (.bool (!depOn C kk i)) ∧ w = w' := by
  have HC := Lib.hid (changesWith_any C kk p N i R c _ w h hN hp p10 hN1 hi rfl)
  clear hN hp
  go_enter Try.func109, Try.ntmps109
  go_wp2_with fail
  refine (HC.out).mono ?_
  rintro e w2 ⟨rfl, rfl⟩
  go_wp2_with fail
  go_ret
  exact ⟨rfl, rfl⟩

theorem range_is (p : Nat) : rangeL 0 p = (List.range p).map fun (i : Nat) => (i : Int) := by
  simp [rangeL, mapTo]
theorem depFilter (C : Ci) (kk p : Nat) : (rangeL 0 p).filter (fun x => !(fun x : Int => !depOn C kk x.toNat) x) = ((List.range p).filter fun i => depOn C kk i).map fun (i : Nat) => (i : Int) := by
  rw [range_is, List.filter_map]
  congr 2
  funext i
  simp

set_option maxRecDepth 100000 in
set_option maxHeartbeats 1000000 in
theorem impl_DependsOn (v : Value) (C : Ci) (k : Int) (rs : List Int) (rb : Bool) (w : World) (h : HasC w v C) (hf : Fit C) (_hk : I64 k) (hm : m_DependsOn C k = (rs, rb)) :
    Calls Try.prog 40 #[v, .int .i64 k] w fun e w' => ∃ R m c', e = .returned (.tuple #[.slice R m c', .bool rb]) ∧ Own w' w.heap.size R m c' rs ∧ m ≤ 16777216 ∧ Below w.heap.size w w' := by
  obtain ⟨G, n, c, O, q, d, rfl, _, _, _, _, _, _⟩ := id h
  have HM := Lib.hid hm
  have B1 := belowNew w (.cells #[.int .i64 C.in0, .int .i64 C.in1, .slice G n c, .slice O q d] 34)
  have p1 := Blk.new w #[.int .i64 C.in0, .int .i64 C.in1, .slice G n c, .slice O q d] 34
  have h1 := h.below B1
  obtain ⟨W1, hW1⟩ : ∃ W, W = w.alloc (.cells #[.int .i64 C.in0, .int .i64 C.in1, .slice G n c, .slice O q d] 34) := ⟨_, rfl⟩
  rw [← hW1] at B1 p1 h1
  obtain ⟨ok, hok⟩ : ∃ ok, outAsk C k = ok := ⟨_, rfl⟩
  have HC := Lib.hid (columnOf_any _ C k ok W1 h1 hf hok)
  have HOK := Lib.hid hok
  obtain ⟨k0, k1, k2, k3⟩ := p1.four
  clear h hm hok
  cases ok with
  | false =>
    have e := HM.out
    rw [m_DependsOn, if_neg (by simp [HOK.out])] at e
    obtain ⟨rfl, rfl⟩ := Prod.mk.inj e
    clear e
    go_enter Try.func40, Try.ntmps40
    go_wp2_with fail
    rw [← hW1]
    refine (HC.out).mono ?_
    rintro e w2 ⟨R, m, c', rfl, hR, _, _, _, b2⟩
    have B2 := B1.trans (b2.mono B1.size)
    have B3 := B2.trans ((belowNew w2 (.cells #[.slice R m c'] 26)).mono B2.size)
    go_wp2_with fail
    go_ret2
    exact ⟨none, 0, 0, rfl, Own.nil_ _ _, by omega, B3⟩
  | true =>
    have e := HM.out
    rw [m_DependsOn, if_pos HOK.out] at e
    obtain ⟨e1, rfl⟩ := Prod.mk.inj e
    obtain ⟨hS, a0, a1⟩ := outAsk_yes HOK.out
    obtain ⟨kk, hkk⟩ : ∃ j : Nat, k.toNat = j := ⟨_, rfl⟩
    obtain ⟨p, N, hp, hpp, p10, hN, hNI, N0, N1⟩ := tinyPow hS
    have hG := gd_yes (tiny_yes hS).1
    obtain ⟨i0, i1, j0, j1⟩ : 0 ≤ C.in0 ∧ C.in0 ≤ 20 ∧ 0 ≤ C.in1 ∧ C.in1 ≤ 20 := ⟨hG.a0, hG.a1, hG.b0, hG.b1⟩
    have HE : Hid (((List.range p).filter fun i => depOn C kk i).map (fun (i : Nat) => (i : Int)) = rs) := by show _ = _; rw [← hpp, ← hkk]; exact e1
    have HN := Lib.hid hN
    have HPP := Lib.hid hpp
    have HKK := Lib.hid hkk
    have HWf : Hid (∀ W, Calls Try.prog 82 #[.int .i64 0, .int .i64 (C.in0 + C.in1)] W fun e w' => ∃ R, e = .returned (.slice R p p) ∧ Own w' W.heap.size R p p (rangeL 0 p) ∧ Below W.heap.size W w') := fun W => by
      rw [show C.in0 + C.in1 = (p : Int) from hp]; exact wiresFrom_any 0 p W (by omega) (by omega) (by omega)
    clear e e1 hp hpp hN hNI hG hS a0 a1 hkk
    go_enter Try.func40, Try.ntmps40
    go_wp2_with fail
    rw [← hW1]
    clear hW1
    refine (HC.out).mono ?_
    rintro e w2 ⟨R, m, c', rfl, hR, hm1, hm2, hNil, b2⟩
    rw [if_pos trivial, HKK.out] at hR
    obtain rfl : m = N := by rw [← hR.1, ← HN.out]; exact colTo_length C kk _
    have p2 := p1.below' b2
    have B2 := B1.trans (b2.mono B1.size)
    have b3 := belowNew w2 (.cells #[.slice R m c'] 26)
    have r3 := Blk.new w2 #[.slice R m c'] 26
    have p3 := p2.below' b3
    have hR3 := hR.below b3
    obtain ⟨W3, hW3⟩ : ∃ W, W = w2.alloc (.cells #[.slice R m c'] 26) := ⟨_, rfl⟩
    rw [← hW3] at b3 r3 p3 hR3
    have B3 := B2.trans (b3.mono B2.size)
    clear k0 k1 k2 k3 p1 p2 h1 hR HC b2
    obtain ⟨k0, k1, k2, k3⟩ := p3.four
    go_upto_region 4 with fail
    rw [← hW3]
    clear hW3
    go_wp2_with fail
    refine (HWf.out _).mono ?_
    rintro e w4 ⟨A, rfl, o4, b4⟩
    have r4 := r3.below' b4
    have hR4 := hR3.below b4
    have B4 := B3.trans (b4.mono B3.size)
    have hlt3 := r3.lt
    have hAp : ∀ ad : Addr, A = some ad → W3.heap.size ≤ ad.block := fun ad e => (o4.born ad e).1
    have HT : Tells 109 #[.pointer (some ⟨w2.heap.size, 0, none⟩)] (fun x => !depOn C kk x.toNat) (rangeL 0 p) (blockOf A) w4 := by
      intro W j hj hg
      have hj' : j < p := by rw [o4.1] at hj; exact hj
      have ej : (rangeL 0 p).getD j 0 = (j : Int) := by rw [range_is]; simp [List.getD, hj']
      have hbne : ∀ b : Nat, b < W3.heap.size → some b ≠ blockOf A := fun b hb e => by
        cases A with
        | none => simp [blockOf] at e
        | some ad => simp [blockOf] at e; have := hAp ad rfl; omega
      rw [ej]
      have hcl := depClosure_any C kk p m j w2.heap.size R c' W (hR4.grown hg (fun ad e => hbne _ (by
        have := hR3
        obtain ⟨ad', e', hlt, _⟩ := this.2 (by omega)
        rw [e] at e'; obtain rfl := Option.some.inj e'; exact hlt))) HN.out HPP.out p10 N1 hj' (by
        have := r4.cell (i := 0) rfl
        exact (World.cell?_of_block (hg.block _ (r4.lt) (hbne _ hlt3))).trans this)
      exact hcl.mono (by rintro e w' ⟨rfl, rfl⟩; exact ⟨by simp, rfl⟩)
    have HD := Lib.hid (deleteInts_any 109 _ (enters_of Try.func109 (by kernel_rfl) rfl) _ A p _ _ w4 o4 (by omega) HT)
    clear HT hAp hR3 hR4 r3 r4 p3 k0 k1 k2 k3 HWf
    go_wp2_with fail
    refine (HD.out).mono ?_
    rintro e w5 ⟨m5, rfl, o5, g5⟩
    have o5' := o5
    rw [depFilter, HE.out] at o5'
    have hm5 : m5 ≤ p := by
      rw [← o5'.1, ← HE.out, List.length_map]
      exact Nat.le_trans (List.length_filter_le _ _) (by simp)
    have B5 : Below w.heap.size w w5 := B4.grown g5 (by have := g5.size; have := B4.size; omega) (fun b hb => by
      cases A with
      | none => simp [blockOf] at hb
      | some ad => simp [blockOf] at hb; have := (o4.born ad rfl).1; have := B3.size; omega)
    clear o5 HD
    go_wp2_with fail
    go_ret2
    exact ⟨A, m5, p, rfl, o5'.mono B3.size, by omega, B5⟩

end Go.Proofs.Ytnelcbjegbchkaa
