/- The model's AreEqual and FirstUnequal. For every circuits of at most 1048576 gates and outs. -/
import Derived.Test.YtnelcbjegbchkaaSiG3
namespace Go.Proofs.Ytnelcbjegbchkaa
open Go.RowKit
set_option maxRecDepth 100000

set_option maxRecDepth 100000 in
set_option maxHeartbeats 2000000 in
theorem spec_AreEqual (v : Value) (C : Ci) (v' : Value) (D : Ci) (ra rb : Bool) (w : World) (h : HasC w v C) (hf : Fit C) (h' : HasC w v' D) (hf' : Fit D) (hm : m_AreEqual C D = (ra, rb)) :
    Calls Try.prog 35 #[v, v'] w fun e w' => e = .returned (.tuple #[.bool ra, .bool rb]) ∧ Below w.heap.size w w' := by
  obtain ⟨G, n, c, O, q, d, rfl, _, hO, _, _, _, _⟩ := id h
  obtain ⟨G2, n2, c2, O2, q2, d2, rfl, _, hO2, _, _, _, _⟩ := id h'
  have HM := Lib.hid hm
  have B1 := belowNew w (.cells #[.int .i64 C.in0, .int .i64 C.in1, .slice G n c, .slice O q d] 34)
  have p1 := Blk.new w #[.int .i64 C.in0, .int .i64 C.in1, .slice G n c, .slice O q d] 34
  obtain ⟨W1, hW1⟩ : ∃ W, W = w.alloc (.cells #[.int .i64 C.in0, .int .i64 C.in1, .slice G n c, .slice O q d] 34) := ⟨_, rfl⟩
  have s1 : W1.heap.size = w.heap.size + 1 := by rw [hW1]; simp
  rw [← hW1] at B1 p1
  have b2 := belowNew W1 (.cells #[.int .i64 D.in0, .int .i64 D.in1, .slice G2 n2 c2, .slice O2 q2 d2] 34)
  have r2 := Blk.newAt (k := w.heap.size + 1) W1 #[.int .i64 D.in0, .int .i64 D.in1, .slice G2 n2 c2, .slice O2 q2 d2] 34 s1.symm
  have p2 := p1.below' b2
  obtain ⟨W2, hW2⟩ : ∃ W, W = W1.alloc (.cells #[.int .i64 D.in0, .int .i64 D.in1, .slice G2 n2 c2, .slice O2 q2 d2] 34) := ⟨_, rfl⟩
  rw [← hW2] at b2 r2 p2
  have B2 := B1.trans (b2.mono B1.size)
  have h2 := h.below B2
  have h2' := h'.below B2
  obtain ⟨b, hb⟩ : ∃ b, pairB C D = b := ⟨_, rfl⟩
  have HG := Lib.hid (siPair_any _ _ C D b W2 h2 h2' hf hf' hb)
  obtain ⟨k0, k1, k2, k3⟩ := p2.four
  obtain ⟨m0, m1, m2, m3⟩ := r2.four
  clear h h' hm hO hO2
  cases b with
  | false =>
    have e := HM.out
    rw [m_AreEqual, hb] at e
    obtain ⟨rfl, rfl⟩ := Prod.mk.inj e
    clear e
    go_enter Try.func35, Try.ntmps35
    go_wp2_with fail
    rw [← hW1, ← hW2]
    refine (HG.out).mono ?_
    rintro e w3 ⟨rfl, b3⟩
    go_wp2_with fail
    go_ret2
    exact ⟨rfl, B2.trans (b3.mono B2.size)⟩
  | true =>
    have HPB := Lib.hid hb
    clear hb
    go_enter Try.func35, Try.ntmps35
    go_wp2_with fail
    rw [← hW1, ← hW2]
    clear hW1 hW2
    refine (HG.out).mono ?_
    rintro e w3 ⟨rfl, b3⟩
    have x3 := p2.below' b3
    have y3 := r2.below' b3
    have B3 := B2.trans (b3.mono B2.size)
    have h3 := h2.below b3
    have h3' := h2'.below b3
    clear p1 p2 r2 b2 B1 B2 b3 h2 h2' k0 k1 k2 k3 m0 m1 m2 m3 HG
    obtain ⟨k0, k1, k2, k3⟩ := x3.four
    obtain ⟨m0, m1, m2, m3⟩ := y3.four
    have e := HM.out
    rw [m_AreEqual, if_pos HPB.out] at e
    obtain ⟨e1, rfl⟩ := Prod.mk.inj e
    have hv : decide (neI C D < 0) = ra := by
      have hle := neTo_le C D (rowsN C)
      rw [← e1, neI]
      by_cases hq : neTo C D (rowsN C) < rowsN C
      · rw [if_pos hq, decide_eq_false (by omega), decide_eq_false (by omega)]
      · rw [if_neg hq, decide_eq_true (by omega), decide_eq_true (by omega)]
    have HV := Lib.hid hv
    have HU := Lib.hid (siUnequal_any _ _ C D w3 h3 h3' HPB.out)
    obtain ⟨ne, hne⟩ : ∃ z, neI C D = z := ⟨_, rfl⟩
    rw [hne] at HV HU
    clear e e1 hv hne
    go_wp2_with fail
    refine (HU.out).mono ?_
    rintro e w4 ⟨rfl, b4⟩
    go_wp2_with fail
    go_ret2
    exact ⟨by rw [← HV.out]; rfl, B3.trans (b4.mono B3.size)⟩

set_option maxRecDepth 100000 in
set_option maxHeartbeats 2000000 in
theorem spec_FirstUnequal (v : Value) (C : Ci) (v' : Value) (D : Ci) (ri : Int) (rb : Bool) (w : World) (h : HasC w v C) (hf : Fit C) (h' : HasC w v' D) (hf' : Fit D) (hm : m_FirstUnequal C D = (ri, rb)) :
    Calls Try.prog 37 #[v, v'] w fun e w' => e = .returned (.tuple #[.int .i64 ri, .bool rb]) ∧ Below w.heap.size w w' := by
  obtain ⟨G, n, c, O, q, d, rfl, _, hO, _, _, _, _⟩ := id h
  obtain ⟨G2, n2, c2, O2, q2, d2, rfl, _, hO2, _, _, _, _⟩ := id h'
  have HM := Lib.hid hm
  have B1 := belowNew w (.cells #[.int .i64 C.in0, .int .i64 C.in1, .slice G n c, .slice O q d] 34)
  have p1 := Blk.new w #[.int .i64 C.in0, .int .i64 C.in1, .slice G n c, .slice O q d] 34
  obtain ⟨W1, hW1⟩ : ∃ W, W = w.alloc (.cells #[.int .i64 C.in0, .int .i64 C.in1, .slice G n c, .slice O q d] 34) := ⟨_, rfl⟩
  have s1 : W1.heap.size = w.heap.size + 1 := by rw [hW1]; simp
  rw [← hW1] at B1 p1
  have b2 := belowNew W1 (.cells #[.int .i64 D.in0, .int .i64 D.in1, .slice G2 n2 c2, .slice O2 q2 d2] 34)
  have r2 := Blk.newAt (k := w.heap.size + 1) W1 #[.int .i64 D.in0, .int .i64 D.in1, .slice G2 n2 c2, .slice O2 q2 d2] 34 s1.symm
  have p2 := p1.below' b2
  obtain ⟨W2, hW2⟩ : ∃ W, W = W1.alloc (.cells #[.int .i64 D.in0, .int .i64 D.in1, .slice G2 n2 c2, .slice O2 q2 d2] 34) := ⟨_, rfl⟩
  rw [← hW2] at b2 r2 p2
  have B2 := B1.trans (b2.mono B1.size)
  have h2 := h.below B2
  have h2' := h'.below B2
  obtain ⟨b, hb⟩ : ∃ b, pairB C D = b := ⟨_, rfl⟩
  have HG := Lib.hid (siPair_any _ _ C D b W2 h2 h2' hf hf' hb)
  obtain ⟨k0, k1, k2, k3⟩ := p2.four
  obtain ⟨m0, m1, m2, m3⟩ := r2.four
  clear h h' hm hO hO2
  cases b with
  | false =>
    have e := HM.out
    rw [m_FirstUnequal, if_neg (by simp [hb])] at e
    obtain ⟨rfl, rfl⟩ := Prod.mk.inj e
    clear e
    go_enter Try.func37, Try.ntmps37
    go_wp2_with fail
    rw [← hW1, ← hW2]
    refine (HG.out).mono ?_
    rintro e w3 ⟨rfl, b3⟩
    go_wp2_with fail
    go_ret2
    exact ⟨rfl, B2.trans (b3.mono B2.size)⟩
  | true =>
    have HPB := Lib.hid hb
    clear hb
    go_enter Try.func37, Try.ntmps37
    go_wp2_with fail
    rw [← hW1, ← hW2]
    clear hW1 hW2
    refine (HG.out).mono ?_
    rintro e w3 ⟨rfl, b3⟩
    have x3 := p2.below' b3
    have y3 := r2.below' b3
    have B3 := B2.trans (b3.mono B2.size)
    have h3 := h2.below b3
    have h3' := h2'.below b3
    clear p1 p2 r2 b2 B1 B2 b3 h2 h2' k0 k1 k2 k3 m0 m1 m2 m3 HG
    obtain ⟨k0, k1, k2, k3⟩ := x3.four
    obtain ⟨m0, m1, m2, m3⟩ := y3.four
    have HU : Hid (∀ W', Below w3.heap.size w3 W' → Calls Try.prog 100 #[.agg #[.int .i64 C.in0, .int .i64 C.in1, .slice G n c, .slice O q d], .agg #[.int .i64 D.in0, .int .i64 D.in1, .slice G2 n2 c2, .slice O2 q2 d2]] W' fun e w' => e = .returned (.int .i64 (neI C D)) ∧ Below W'.heap.size W' w') := fun W' hb => siUnequal_any _ _ C D W' (h3.below hb) (h3'.below hb) HPB.out
    have hv : neI C D = if neTo C D (rowsN C) < rowsN C then (neTo C D (rowsN C) : Int) else -1 := rfl
    have HV := Lib.hid hv
    obtain ⟨ne, hne⟩ : ∃ z, neI C D = z := ⟨_, rfl⟩
    rw [hne] at HV HU
    clear hv hne
    go_wp2_with fail
    refine (HU.out w3 (Below.refl _ _)).mono ?_
    rintro e w4 ⟨rfl, b4⟩
    have x4 := x3.below' b4
    have y4 := y3.below' b4
    have B4 := B3.trans (b4.mono B3.size)
    have HU4 := Lib.hid (HU.out w4 b4)
    clear k0 k1 k2 k3 m0 m1 m2 m3 HU
    obtain ⟨k0, k1, k2, k3⟩ := x4.four
    obtain ⟨m0, m1, m2, m3⟩ := y4.four
    by_cases hq : neTo C D (rowsN C) < rowsN C
    · have e := HM.out
      rw [m_FirstUnequal, if_pos ⟨HPB.out, hq⟩] at e
      obtain ⟨e1, rfl⟩ := Prod.mk.inj e
      have hne : ne = ri := by rw [HV.out, if_pos hq, e1]
      subst hne
      have ge0 : ¬ ne < 0 := by rw [← e1]; omega
      clear e e1 hq
      go_wp2_with fail
      refine (HU4.out).mono ?_
      rintro e w5 ⟨rfl, b5⟩
      go_wp2_with fail
      go_ret2
      exact ⟨rfl, B4.trans (b5.mono B4.size)⟩
    · have e := HM.out
      rw [m_FirstUnequal, if_neg (by rintro ⟨_, hx⟩; exact hq hx)] at e
      obtain ⟨rfl, rfl⟩ := Prod.mk.inj e
      have hne : ne = -1 := by rw [HV.out, if_neg hq]
      subst hne
      clear e hq
      go_wp2_with fail
      go_ret2
      exact ⟨rfl, B4⟩

end Go.Proofs.Ytnelcbjegbchkaa
