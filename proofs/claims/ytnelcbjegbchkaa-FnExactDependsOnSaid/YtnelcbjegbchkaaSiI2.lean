/- The program's comparisons of small circuits: FirstUnequal, AreEqual, TruthTable. For every circuits of at most 1048576 gates and outs. -/
import Derived.Test.YtnelcbjegbchkaaSiI1
namespace Go.Proofs.Ytnelcbjegbchkaa
open Go.RowKit
set_option maxRecDepth 100000

set_option maxHeartbeats 1000000 in
theorem slEqual_any (A B : Option Addr) (n c d : Nat) (xs ys : List Int) (b : Bool) (w : World) (ha : Has w A n xs) (hb : Has w B n ys) (hn : n ≤ 16777216) (he : decide (xs = ys) = b) :
    Calls Try.prog 102 #[.slice A n c, .slice B n d] w fun e w' => e = .returned (.bool b) ∧ Below w.heap.size w w' := by
  have HE := Lib.hid he
  have HXL : Hid (xs.length = n) := ha.1
  have HYL : Hid (ys.length = n) := hb.1
  clear he
  go_enter Try.func102, Try.ntmps102
  go_wp2_with fail
  go_loopw [13] (fun i wr => ∃ k : Nat, k ≤ n ∧ i = .int .i64 k ∧ Hid (∀ j, j < k → xs.getD j 0 = ys.getD j 0) ∧ Below w.heap.size w wr) (fun i _ => n - (intOf i).toNat)
  case atStart => exact ⟨0, Nat.zero_le _, rfl, Lib.hid (fun j hj => by omega), Below.refl _ _⟩
  case round =>
    obtain ⟨k, hk, rfl, HS, hbk⟩ := hrel
    by_cases hlt : k < n
    · obtain ⟨ad, x, rfl, hc, HX⟩ := (ha.below hbk).elem hlt
      obtain ⟨bd, y, rfl, hd, HY⟩ := (hb.below hbk).elem hlt
      have k0 : (0 : Int) ≤ (k : Int) := by omega
      have k1 : (k : Int) < (n : Int) := by omega
      by_cases hxy : x = y
      · subst hxy
        have HS2 : Hid (∀ j, j < k + 1 → xs.getD j 0 = ys.getD j 0) := Lib.hid (fun j hj => by
          by_cases e : j = k
          · subst e; rw [← HX.out, ← HY.out]
          · exact HS.out j (by omega))
        go_wp2_with fail
        go_quiet (fail)
        go_wp2_with fail
        go_roundw
        case rel => exact ⟨k + 1, by omega, by go_num, HS2, below_drewN hbk _⟩
        case measure => simp [intOf]; omega
      · have e : b = false := by
          rw [← HE.out, decide_eq_false]
          intro e
          rw [e] at HX
          exact hxy (HX.out.trans HY.out.symm)
        subst e
        go_wp2_with fail
        go_quiet (fail)
        go_wp2_with fail
        go_ret
        exact ⟨rfl, below_drewN hbk _⟩
    · obtain rfl : k = n := by omega
      have e : b = true := by
        rw [← HE.out, decide_eq_true]
        apply List.ext_getElem (by rw [HXL.out, HYL.out])
        intro j h1 h2
        have := HS.out j (by rw [← HXL.out]; exact h1)
        simpa [List.getD, h1, h2] using this
      subst e
      go_wp2_with fail
      go_ret
      exact ⟨rfl, hbk⟩

set_option maxRecDepth 100000 in
set_option maxHeartbeats 2000000 in
theorem areComparable_any (v v' : Value) (C D : Ci) (b : Bool) (w : World) (h : HasC w v C) (h' : HasC w v' D) (hf : Fit C) (hf' : Fit D) (hb : pairB C D = b) :
    Calls Try.prog 101 #[v, v'] w fun e w' => e = .returned (.bool b) ∧ Below w.heap.size w w' := by
  obtain ⟨G, n, c, O, q, d, rfl, _, hO, _, _, _, _⟩ := id h
  obtain ⟨G2, n2, c2, O2, q2, d2, rfl, _, hO2, _, _, _, _⟩ := id h'
  have HOL := Lib.hid hO.1
  have HOL2 := Lib.hid hO2.1
  have HB := Lib.hid hb
  have B1 := belowNew w (.cells #[.int .i64 C.in0, .int .i64 C.in1, .slice G n c, .slice O q d] 34)
  have p1 := Blk.new w #[.int .i64 C.in0, .int .i64 C.in1, .slice G n c, .slice O q d] 34
  obtain ⟨W1, hW1⟩ : ∃ W, W = w.alloc (.cells #[.int .i64 C.in0, .int .i64 C.in1, .slice G n c, .slice O q d] 34) := ⟨_, rfl⟩
  have s1 : W1.heap.size = w.heap.size + 1 := by rw [hW1]; simp
  rw [← hW1] at B1 p1
  have b2 := belowNew W1 (.cells #[.int .i64 D.in0, .int .i64 D.in1, .slice G2 n2 c2, .slice O2 q2 d2] 34)
  have r2 := Blk.newAt (k := w.heap.size + 1) W1 #[.int .i64 D.in0, .int .i64 D.in1, .slice G2 n2 c2, .slice O2 q2 d2] 34 s1.symm
  have p2 := p1.below' b2
  obtain ⟨W2, hW2⟩ : ∃ W, W = W1.alloc (.cells #[.int .i64 D.in0, .int .i64 D.in1, .slice G2 n2 c2, .slice O2 q2 d2] 34) := ⟨_, rfl⟩
  rw [← hW2] at b2 r2 p2
  have B2 := B1.trans (b2.mono B1.size)
  have h2 := h.below B2
  have h2' := h'.below B2
  have HG := Lib.hid (isSmall_any _ C (tiny C) W2 h2 hf rfl)
  obtain ⟨k0, k1, k2, k3⟩ := p2.four
  obtain ⟨m0, m1, m2, m3⟩ := r2.four
  clear h h' hb hO hO2
  cases eg : tiny C with
  | false =>
    have e : b = false := by rw [← HB.out, pairB, eg]; rfl
    subst e
    go_enter Try.func101, Try.ntmps101
    go_wp2_with fail
    rw [← hW1, ← hW2]
    refine (HG.out).mono ?_
    rintro e w3 ⟨rfl, b3⟩
    rw [eg]
    go_wp2_with fail
    go_ret
    exact ⟨rfl, B2.trans (b3.mono B2.size)⟩
  | true =>
    go_enter Try.func101, Try.ntmps101
    go_wp2_with fail
    rw [← hW1, ← hW2]
    clear hW1 hW2
    refine (HG.out).mono ?_
    rintro e w3 ⟨rfl, b3⟩
    rw [eg]
    have y1 := p2.below' b3
    have y2 := r2.below' b3
    have B3 := B2.trans (b3.mono B2.size)
    have HG2 := Lib.hid (isSmall_any _ D (tiny D) w3 (h2'.below b3) hf' rfl)
    clear p1 p2 r2 b2 B1 B2 b3 k0 k1 k2 k3 m0 m1 m2 m3 HG
    obtain ⟨k0, k1, k2, k3⟩ := y1.four
    obtain ⟨m0, m1, m2, m3⟩ := y2.four
    cases eg2 : tiny D with
    | false =>
      have e : b = false := by rw [← HB.out, pairB, eg, eg2]; rfl
      subst e
      go_wp2_with fail
      refine (HG2.out).mono ?_
      rintro e w4 ⟨rfl, b4⟩
      rw [eg2]
      go_wp2_with fail
      go_ret
      exact ⟨rfl, B3.trans (b4.mono B3.size)⟩
    | true =>
      have hd : (decide (C.in0 = D.in0) && (decide (C.in1 = D.in1) && decide ((q : Int) = (q2 : Int)))) = b := by
        rw [← HB.out, pairB, eg, eg2, HOL.out, HOL2.out]
        simp [Bool.and_assoc, Int.ofNat_inj]
      have HD := Lib.hid hd
      clear hd
      go_wp2_with fail
      refine (HG2.out).mono ?_
      rintro e w4 ⟨rfl, b4⟩
      rw [eg2]
      have y1 := y1.below' b4
      have y2 := y2.below' b4
      have B4 := B3.trans (b4.mono B3.size)
      clear k0 k1 k2 k3 m0 m1 m2 m3 HG2 B3 b4
      obtain ⟨k0, k1, k2, k3⟩ := y1.four
      obtain ⟨m0, m1, m2, m3⟩ := y2.four
      have HDO := HD.out
      clear HOL HOL2 HB h2 h2' hf hf' eg eg2 y1 y2
      generalize C.in0 = x at *
      generalize C.in1 = y at *
      generalize D.in0 = x' at *
      generalize D.in1 = y' at *
      by_cases c1 : x = x'
      · subst c1
        by_cases c2 : y = y'
        · subst c2
          by_cases c3 : (q : Int) = (q2 : Int)
          · obtain rfl : b = true := by rw [← HDO]; simp [c3]
            clear HDO HD
            go_wp2_with fail
            go_ret
            exact ⟨retBl (by simp), B4⟩
          · obtain rfl : b = false := by rw [← HDO]; simp [c3]
            clear HDO HD
            go_wp2_with fail
            go_ret
            exact ⟨retBl (by simp [c3]), B4⟩
        · obtain rfl : b = false := by rw [← HDO]; simp [c2]
          clear HDO HD
          go_wp2_with fail
          go_ret
          exact ⟨rfl, B4⟩
      · obtain rfl : b = false := by rw [← HDO]; simp [c1]
        clear HDO HD
        go_wp2_with fail
        go_ret
        exact ⟨rfl, B4⟩

set_option maxRecDepth 100000 in
set_option maxHeartbeats 2000000 in
theorem impl_FirstUnequal (v : Value) (C : Ci) (v' : Value) (D : Ci) (ri : Int) (rb : Bool) (w : World) (h : HasC w v C) (hf : Fit C) (h' : HasC w v' D) (hf' : Fit D) (hm : m_FirstUnequal C D = (ri, rb)) :
    Calls Try.prog 38 #[v, v'] w fun e w' => e = .returned (.tuple #[.int .i64 ri, .bool rb]) ∧ Below w.heap.size w w' := by
  obtain ⟨G, n, c, O, q, d, rfl, _, hO, _, _, _, _⟩ := id h
  obtain ⟨G2, n2, c2, O2, q2, d2, rfl, _, hO2, _, _, _, _⟩ := id h'
  have HM := Lib.hid hm
  have B1 := belowNew w (.cells #[.int .i64 C.in0, .int .i64 C.in1, .slice G n c, .slice O q d] 34)
  have p1 := Blk.new w #[.int .i64 C.in0, .int .i64 C.in1, .slice G n c, .slice O q d] 34
  obtain ⟨W1, hW1⟩ : ∃ W, W = w.alloc (.cells #[.int .i64 C.in0, .int .i64 C.in1, .slice G n c, .slice O q d] 34) := ⟨_, rfl⟩
  have s1 : W1.heap.size = w.heap.size + 1 := by rw [hW1]; simp
  rw [← hW1] at B1 p1
  have b2 := belowNew W1 (.cells #[.int .i64 D.in0, .int .i64 D.in1, .slice G2 n2 c2, .slice O2 q2 d2] 34)
  have r2 := Blk.newAt (k := w.heap.size + 1) W1 #[.int .i64 D.in0, .int .i64 D.in1, .slice G2 n2 c2, .slice O2 q2 d2] 34 s1.symm
  have p2 := p1.below' b2
  obtain ⟨W2, hW2⟩ : ∃ W, W = W1.alloc (.cells #[.int .i64 D.in0, .int .i64 D.in1, .slice G2 n2 c2, .slice O2 q2 d2] 34) := ⟨_, rfl⟩
  rw [← hW2] at b2 r2 p2
  have B2 := B1.trans (b2.mono B1.size)
  have h2 := h.below B2
  have h2' := h'.below B2
  obtain ⟨b, hb⟩ : ∃ b, pairB C D = b := ⟨_, rfl⟩
  have HG := Lib.hid (areComparable_any _ _ C D b W2 h2 h2' hf hf' hb)
  obtain ⟨k0, k1, k2, k3⟩ := p2.four
  obtain ⟨m0, m1, m2, m3⟩ := r2.four
  clear h h' hm hO hO2
  cases b with
  | false =>
    have e := HM.out
    rw [m_FirstUnequal, if_neg (by simp [hb])] at e
    obtain ⟨rfl, rfl⟩ := Prod.mk.inj e
    clear e
    go_enter Try.func38, Try.ntmps38
    go_wp2_with fail
    rw [← hW1, ← hW2]
    refine (HG.out).mono ?_
    rintro e w3 ⟨rfl, b3⟩
    go_wp2_with fail
    go_ret2
    exact ⟨rfl, B2.trans (b3.mono B2.size)⟩
  | true =>
    have HPB := Lib.hid hb
    clear hb
    go_enter Try.func38, Try.ntmps38
    go_wp2_with fail
    rw [← hW1, ← hW2]
    clear hW1 hW2
    refine (HG.out).mono ?_
    rintro e w3 ⟨rfl, b3⟩
    have x3 := p2.below' b3
    have y3 := r2.below' b3
    have B3 := B2.trans (b3.mono B2.size)
    have h3 := h2.below b3
    have h3' := h2'.below b3
    clear p1 p2 r2 b2 B1 B2 b3 h2 h2' k0 k1 k2 k3 m0 m1 m2 m3 HG
    obtain ⟨k0, k1, k2, k3⟩ := x3.four
    obtain ⟨m0, m1, m2, m3⟩ := y3.four
    have hS := (pairB_yes HPB.out).1
    have hS' := (pairB_yes HPB.out).2.1
    have hos := (pairB_yes HPB.out).2.2.2.2
    have HS := Lib.hid hS
    have HS' := Lib.hid hS'
    obtain ⟨p, N, hp, hpp, p10, hN, hNI, N0, N1⟩ := tinyPow hS
    have hND : rowsN D = N := by
      obtain ⟨_, _, i0, i1, _⟩ := pairB_yes HPB.out
      rw [← hN, rowsN, rowsN, Ci.ins, Ci.ins, i0, i1]
    have HN := Lib.hid hN
    have HOS := Lib.hid hos
    have hq40 : C.os.length ≤ 40 := (gd_yes (tiny_yes hS).1).o
    have HTD : Hid (∀ W', Below w3.heap.size w3 W' → Calls Try.prog 67 #[.agg #[.int .i64 D.in0, .int .i64 D.in1, .slice G2 n2 c2, .slice O2 q2 d2]] W' fun e w' => ∃ q, e = .returned (.slice (some ⟨q, 0, none⟩) N N) ∧ MatR w' W'.heap.size q N (fun k => outBits D (k : Int)) ∧ Below W'.heap.size W' w') := fun W' hb => by
      rw [← hND]; exact outsTable_any _ D W' (h3'.below hb) HS'.out
    have HTC : Hid (∀ W', Below w3.heap.size w3 W' → Calls Try.prog 67 #[.agg #[.int .i64 C.in0, .int .i64 C.in1, .slice G n c, .slice O q d]] W' fun e w' => ∃ q, e = .returned (.slice (some ⟨q, 0, none⟩) N N) ∧ MatR w' W'.heap.size q N (fun k => outBits C (k : Int)) ∧ Below W'.heap.size W' w') := fun W' hb => by
      rw [← HN.out]; exact outsTable_any _ C W' (h3.below hb) HS.out
    clear hS hS' hp hpp hN hND hNI hos
    go_wp2_with fail
    refine (HTD.out w3 (Below.refl _ _)).mono ?_
    rintro e w4 ⟨gD, rfl, hMD, b4⟩
    have x4 := x3.below' b4
    have B4 := B3.trans (b4.mono B3.size)
    clear k0 k1 k2 k3 m0 m1 m2 m3 x3 y3 B3
    obtain ⟨k0, k1, k2, k3⟩ := x4.four
    go_wp2_with fail
    refine (HTC.out w4 b4).mono ?_
    rintro e w5 ⟨gC, rfl, hMC, b5⟩
    have hMD5 := hMD.below b5
    have B5 := B4.trans (b5.mono B4.size)
    clear k0 k1 k2 k3 x4 B4 hMD HTD HTC b4
    go_wp2_with fail
    go_loopw [18] (fun iv wr => ∃ k : Nat, k ≤ N ∧ iv = .int .i64 k ∧ Hid (neTo C D k = k) ∧ Below w5.heap.size w5 wr) (fun iv _ => N - (intOf iv).toNat)
    case atStart => exact ⟨0, Nat.zero_le _, rfl, Lib.hid rfl, Below.refl _ _⟩
    case round =>
      obtain ⟨k, hk, rfl, HK, bk⟩ := hrel
      by_cases hlt : k < N
      · obtain ⟨R, mR, cR, hcR, hRow, _, _, _, _⟩ := (hMC.below bk).elem hlt
        obtain ⟨R', mR', cR', hcR', hRow', _, _, _, _⟩ := (hMD5.below bk).elem hlt
        have j0 : (0 : Int) ≤ (k : Int) := by omega
        have j1 : (k : Int) < (N : Int) := by omega
        have hm1 : mR = C.os.length := by rw [← hRow.1]; exact outBits_length C _
        have hm2 : mR' = C.os.length := by rw [← hRow'.1, HOS.out]; exact outBits_length D _
        subst hm1
        subst hm2
        obtain ⟨nb, hnb⟩ : ∃ b, neAt C D k = b := ⟨_, rfl⟩
        have HNB := Lib.hid hnb
        have HE := Lib.hid (slEqual_any R R' _ cR cR' _ _ (!nb) wr hRow hRow' (by omega) (by rw [← HNB.out, neAt]; simp))
        clear hnb hRow hRow'
        go_wp2_with fail
        refine (HE.out).mono ?_
        rintro e w6 ⟨rfl, b6⟩
        have BK := bk.trans (b6.mono bk.size)
        clear hcR hcR' HE
        cases nb with
        | true =>
          have e := HM.out
          rw [m_FirstUnequal, if_pos ⟨HPB.out, by rw [HN.out, neTo_here HK.out HNB.out N hlt]; exact hlt⟩, HN.out, neTo_here HK.out HNB.out N hlt] at e
          obtain ⟨rfl, rfl⟩ := Prod.mk.inj e
          clear e
          go_wp2_with fail
          go_ret2
          exact ⟨rfl, B5.trans (BK.mono B5.size)⟩
        | false =>
          go_wp2_with fail
          go_roundw
          case rel => exact ⟨k + 1, by omega, by go_num, Lib.hid (neTo_next HK.out HNB.out), BK⟩
          case measure => simp [intOf]; omega
      · obtain rfl : k = N := by omega
        have e := HM.out
        rw [m_FirstUnequal, if_neg (by rw [HN.out, HK.out]; simp)] at e
        obtain ⟨rfl, rfl⟩ := Prod.mk.inj e
        clear e
        go_wp2_with fail
        go_ret2
        exact ⟨rfl, B5.trans (bk.mono B5.size)⟩

set_option maxRecDepth 100000 in
set_option maxHeartbeats 2000000 in
theorem impl_AreEqual (v : Value) (C : Ci) (v' : Value) (D : Ci) (ra rb : Bool) (w : World) (h : HasC w v C) (hf : Fit C) (h' : HasC w v' D) (hf' : Fit D) (hm : m_AreEqual C D = (ra, rb)) :
    Calls Try.prog 36 #[v, v'] w fun e w' => e = .returned (.tuple #[.bool ra, .bool rb]) ∧ Below w.heap.size w w' := by
  obtain ⟨G, n, c, O, q, d, rfl, _, hO, _, _, _, _⟩ := id h
  obtain ⟨G2, n2, c2, O2, q2, d2, rfl, _, hO2, _, _, _, _⟩ := id h'
  have HM := Lib.hid hm
  have B1 := belowNew w (.cells #[.int .i64 C.in0, .int .i64 C.in1, .slice G n c, .slice O q d] 34)
  have p1 := Blk.new w #[.int .i64 C.in0, .int .i64 C.in1, .slice G n c, .slice O q d] 34
  obtain ⟨W1, hW1⟩ : ∃ W, W = w.alloc (.cells #[.int .i64 C.in0, .int .i64 C.in1, .slice G n c, .slice O q d] 34) := ⟨_, rfl⟩
  have s1 : W1.heap.size = w.heap.size + 1 := by rw [hW1]; simp
  rw [← hW1] at B1 p1
  have b2 := belowNew W1 (.cells #[.int .i64 D.in0, .int .i64 D.in1, .slice G2 n2 c2, .slice O2 q2 d2] 34)
  have r2 := Blk.newAt (k := w.heap.size + 1) W1 #[.int .i64 D.in0, .int .i64 D.in1, .slice G2 n2 c2, .slice O2 q2 d2] 34 s1.symm
  have p2 := p1.below' b2
  obtain ⟨W2, hW2⟩ : ∃ W, W = W1.alloc (.cells #[.int .i64 D.in0, .int .i64 D.in1, .slice G2 n2 c2, .slice O2 q2 d2] 34) := ⟨_, rfl⟩
  rw [← hW2] at b2 r2 p2
  have B2 := B1.trans (b2.mono B1.size)
  have h2 := h.below B2
  have h2' := h'.below B2
  obtain ⟨b, hb⟩ : ∃ b, pairB C D = b := ⟨_, rfl⟩
  have HG := Lib.hid (areComparable_any _ _ C D b W2 h2 h2' hf hf' hb)
  obtain ⟨k0, k1, k2, k3⟩ := p2.four
  obtain ⟨m0, m1, m2, m3⟩ := r2.four
  clear h h' hm hO hO2
  cases b with
  | false =>
    have e := HM.out
    rw [m_AreEqual, hb] at e
    obtain ⟨rfl, rfl⟩ := Prod.mk.inj e
    clear e
    go_enter Try.func36, Try.ntmps36
    go_wp2_with fail
    rw [← hW1, ← hW2]
    refine (HG.out).mono ?_
    rintro e w3 ⟨rfl, b3⟩
    go_wp2_with fail
    go_ret2
    exact ⟨rfl, B2.trans (b3.mono B2.size)⟩
  | true =>
    have HPB := Lib.hid hb
    clear hb
    go_enter Try.func36, Try.ntmps36
    go_wp2_with fail
    rw [← hW1, ← hW2]
    clear hW1 hW2
    refine (HG.out).mono ?_
    rintro e w3 ⟨rfl, b3⟩
    have x3 := p2.below' b3
    have y3 := r2.below' b3
    have B3 := B2.trans (b3.mono B2.size)
    have h3 := h2.below b3
    have h3' := h2'.below b3
    clear p1 p2 r2 b2 B1 B2 b3 h2 h2' k0 k1 k2 k3 m0 m1 m2 m3 HG
    obtain ⟨k0, k1, k2, k3⟩ := x3.four
    obtain ⟨m0, m1, m2, m3⟩ := y3.four
    have e := HM.out
    rw [m_AreEqual, if_pos HPB.out] at e
    obtain ⟨e1, rfl⟩ := Prod.mk.inj e
    have HE := Lib.hid e1
    have hF : m_FirstUnequal C D = ((m_FirstUnequal C D).1, !ra) := by
      have hle := neTo_le C D (rowsN C)
      rw [← HE.out, m_FirstUnequal]
      by_cases hq : neTo C D (rowsN C) < rowsN C
      · rw [if_pos ⟨HPB.out, hq⟩, decide_eq_false (by omega)]; rfl
      · rw [if_neg (by rintro ⟨_, hx⟩; exact hq hx), decide_eq_true (by omega)]; rfl
    obtain ⟨zi, hzi⟩ : ∃ z, (m_FirstUnequal C D).1 = z := ⟨_, rfl⟩
    rw [hzi] at hF
    have HF := Lib.hid (impl_FirstUnequal _ C _ D zi (!ra) w3 h3 hf h3' hf' hF)
    clear e e1 hF hzi
    go_wp2_with fail
    refine (HF.out).mono ?_
    rintro e w4 ⟨rfl, b4⟩
    go_wp2_with fail
    go_ret2
    exact ⟨by simp, B3.trans (b4.mono B3.size)⟩

theorem HasM.of {w : World} {S g n : Nat} {M : Nat → List Int} (h : MatR w S g n M) : HasM w (some ⟨g, 0, none⟩) n M := fun _ => by
  refine ⟨_, rfl, h.lt.2, fun i hi => ?_⟩
  obtain ⟨R, m, c, h1, h2, h3, h4, h5, _⟩ := h.elem hi
  exact ⟨R, m, c, by rw [addNone]; exact h1, h2, h3, h4, h5⟩

set_option maxHeartbeats 1000000 in
theorem tableClosure_any (R : Option Addr) (m c : Nat) (xs : List Int) (i z : Int) (w : World) (h : Has w R m xs) (hm : m ≤ 16777216) (hb : ∃ ok, m_NumberOf xs = (z, ok)) :
    Calls Try.prog 68 #[.int .i64 i, .slice R m c] w fun e w' => e = .returned (.int .i64 z) ∧ Below w.heap.size w w' := by
  obtain ⟨ok, hok⟩ := hb
  have HC := Lib.hid (impl_NumberOf' R m c xs z ok w h hm hok)
  clear hok
  go_enter Try.func68, Try.ntmps68
  go_wp2_with fail
  refine (HC.out).mono ?_
  rintro e w2 ⟨rfl, rfl⟩
  go_wp2_with fail
  go_ret
  exact ⟨rfl, Below.refl _ _⟩

set_option maxRecDepth 100000 in
set_option maxHeartbeats 2000000 in
theorem impl_TruthTable (v : Value) (C : Ci) (rs : List Int) (rb : Bool) (w : World) (h : HasC w v C) (hf : Fit C) (hm : m_TruthTable C = (rs, rb)) :
    Calls Try.prog 20 #[v] w fun e w' => ∃ R m c', e = .returned (.tuple #[.slice R m c', .bool rb]) ∧ Own w' w.heap.size R m c' rs ∧ m ≤ 16777216 ∧ Below w.heap.size w w' := by
  obtain ⟨G, n, c, O, q, d, rfl, _, hO, _, _, _, _⟩ := id h
  have HOL := Lib.hid hO.1
  have HM := Lib.hid hm
  have B1 := belowNew w (.cells #[.int .i64 C.in0, .int .i64 C.in1, .slice G n c, .slice O q d] 34)
  have p1 := Blk.new w #[.int .i64 C.in0, .int .i64 C.in1, .slice G n c, .slice O q d] 34
  have h1 := h.below B1
  obtain ⟨W1, hW1⟩ : ∃ W, W = w.alloc (.cells #[.int .i64 C.in0, .int .i64 C.in1, .slice G n c, .slice O q d] 34) := ⟨_, rfl⟩
  rw [← hW1] at B1 p1 h1
  clear h hO hm
  obtain ⟨ok, hok⟩ : ∃ ok, tiny C = ok := ⟨_, rfl⟩
  have HG := Lib.hid (isSmall_any _ C ok W1 h1 hf hok)
  have HOK := Lib.hid hok
  obtain ⟨k0, k1, k2, k3⟩ := p1.four
  have NO : Hid (small C = false → rs = [] ∧ rb = false) := fun e => by
    have e2 := HM.out
    rw [m_TruthTable, e] at e2
    obtain ⟨rfl, rfl⟩ := Prod.mk.inj e2
    exact ⟨rfl, rfl⟩
  have hsm : small C = (tiny C && decide (C.os.length ≤ 16)) := rfl
  have HSM := Lib.hid hsm
  clear hok hsm
  cases ok with
  | false =>
    obtain ⟨rfl, rfl⟩ := NO.out (by rw [HSM.out, HOK.out]; rfl)
    go_enter Try.func20, Try.ntmps20
    go_wp2_with fail
    rw [← hW1]
    refine (HG.out).mono ?_
    rintro e w2 ⟨rfl, b2⟩
    go_wp2_with fail
    go_ret2
    exact ⟨none, 0, 0, rfl, Own.nil_ _ _, by omega, B1.trans (b2.mono B1.size)⟩
  | true =>
  go_enter Try.func20, Try.ntmps20
  go_wp2_with fail
  rw [← hW1]
  clear hW1
  refine (HG.out).mono ?_
  rintro e w2 ⟨rfl, b2⟩
  have p2 := p1.below' b2
  have h2 := h1.below b2
  have B2 := B1.trans (b2.mono B1.size)
  clear k0 k1 k2 k3 p1 h1 B1 b2 HG
  obtain ⟨k0, k1, k2, k3⟩ := p2.four
  by_cases c16 : 16 < q
  · obtain ⟨rfl, rfl⟩ := NO.out (by rw [HSM.out, HOK.out, decide_eq_false (show ¬ C.os.length ≤ 16 by have := HOL.out; omega)]; rfl)
    go_wp2_with fail
    go_ret2
    exact ⟨none, 0, 0, rfl, Own.nil_ _ _, by omega, B2⟩
  · obtain ⟨p, N, hp, hpp, p10, hN, hNI, N0, N1⟩ := tinyPow HOK.out
    have e2 := HM.out
    rw [m_TruthTable, if_pos (by rw [HSM.out, HOK.out, decide_eq_true (show C.os.length ≤ 16 by have := HOL.out; omega)]; rfl), show (2 : Nat) ^ C.ins.toNat = N from hN] at e2
    obtain ⟨e1, rfl⟩ := Prod.mk.inj e2
    have HR := Lib.hid e1
    have HT : Hid (Calls Try.prog 67 #[.agg #[.int .i64 C.in0, .int .i64 C.in1, .slice G n c, .slice O q d]] w2 fun e w' => ∃ q, e = .returned (.slice (some ⟨q, 0, none⟩) N N) ∧ MatR w' w2.heap.size q N (fun k => outBits C (k : Int)) ∧ Below w2.heap.size w2 w') := by
      show Calls _ _ _ _ _
      rw [← hN]; exact outsTable_any _ C w2 h2 HOK.out
    have HC : Hid (∀ g W' S, MatR W' S g N (fun k => outBits C (k : Int)) → Calls Try.prog 66 #[.slice (some ⟨g, 0, none⟩) N N, .func (.func 68) #[] #[]] W' fun e w' => ∃ R, e = .returned (.slice R N N) ∧ Own w' W'.heap.size R N N (mapTo (tabAt C) N) ∧ Below W'.heap.size W' w') := fun g W' S hM =>
      changedRI_any 68 #[] (enters_of Try.func68 (by kernel_rfl) rfl) (tabAt C) _ N N _ W' (HasM.of hM) (by omega) (fun W k R m cR hk hb hR hm1 _ _ =>
        tableClosure_any R m cR _ (k : Int) (tabAt C k) W hR hm1 ⟨true, by
          have hl := outBits_length C (k : Int)
          rw [m_NumberOf, if_pos (good_mk (by rw [hl]; have := HOL.out; omega) (fun j hj => by have := outBits_bits C (k : Int) j hj; omega)), hl]; rfl⟩)
    clear e1 e2 hp hpp hN hNI NO
    go_wp2_with fail
    refine (HT.out).mono ?_
    rintro e w3 ⟨g, rfl, hM, b3⟩
    have B3 := B2.trans (b3.mono B2.size)
    have HC3 := Lib.hid (HC.out g w3 _ hM)
    clear HT HC hM b3 k0 k1 k2 k3
    go_wp2_with fail
    refine (HC3.out).mono ?_
    rintro e w4 ⟨R, rfl, o4, b4⟩
    go_wp2_with fail
    go_ret2
    exact ⟨_, N, N, rfl, by rw [← HR.out]; exact o4.mono B3.size, by omega, B3.trans (b4.mono B3.size)⟩

end Go.Proofs.Ytnelcbjegbchkaa
