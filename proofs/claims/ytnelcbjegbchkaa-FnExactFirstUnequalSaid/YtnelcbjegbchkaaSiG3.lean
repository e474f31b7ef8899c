/- The model's AreEqual, FirstUnequal and OnesOf. For every circuits of at most 1048576 gates and outs. -/
import Derived.Test.YtnelcbjegbchkaaSiG2
import Derived.Test.YtnelcbjegbchkaaSumI
namespace Go.Proofs.Ytnelcbjegbchkaa
open Go.RowKit
set_option maxRecDepth 100000

set_option maxRecDepth 100000 in
set_option maxHeartbeats 2000000 in
theorem siPair_any (v v' : Value) (C D : Ci) (b : Bool) (w : World) (h : HasC w v C) (h' : HasC w v' D) (hf : Fit C) (hf' : Fit D) (hb : pairB C D = b) :
    Calls Try.prog 99 #[v, v'] w fun e w' => e = .returned (.bool b) ∧ Below w.heap.size w w' := by
  obtain ⟨G, n, c, O, q, d, rfl, _, hO, _, _, _, _⟩ := id h
  obtain ⟨G2, n2, c2, O2, q2, d2, rfl, _, hO2, _, _, _, _⟩ := id h'
  have HOL := Lib.hid hO.1
  have HOL2 := Lib.hid hO2.1
  have HB := Lib.hid hb
  have B1 := belowNew w (.cells #[.int .i64 C.in0, .int .i64 C.in1, .slice G n c, .slice O q d] 34)
  have p1 := Blk.new w #[.int .i64 C.in0, .int .i64 C.in1, .slice G n c, .slice O q d] 34
  obtain ⟨W1, hW1⟩ : ∃ W, W = w.alloc (.cells #[.int .i64 C.in0, .int .i64 C.in1, .slice G n c, .slice O q d] 34) := ⟨_, rfl⟩
  have s1 : W1.heap.size = w.heap.size + 1 := by rw [hW1]; simp
  rw [← hW1] at B1 p1
  have b2 := belowNew W1 (.cells #[.int .i64 D.in0, .int .i64 D.in1, .slice G2 n2 c2, .slice O2 q2 d2] 34)
  have r2 := Blk.newAt (k := w.heap.size + 1) W1 #[.int .i64 D.in0, .int .i64 D.in1, .slice G2 n2 c2, .slice O2 q2 d2] 34 s1.symm
  have p2 := p1.below' b2
  obtain ⟨W2, hW2⟩ : ∃ W, W = W1.alloc (.cells #[.int .i64 D.in0, .int .i64 D.in1, .slice G2 n2 c2, .slice O2 q2 d2] 34) := ⟨_, rfl⟩
  rw [← hW2] at b2 r2 p2
  have B2 := B1.trans (b2.mono B1.size)
  have h2 := h.below B2
  have h2' := h'.below B2
  have HG := Lib.hid (siSmall_any _ C (tiny C) W2 h2 hf rfl)
  obtain ⟨k0, k1, k2, k3⟩ := p2.four
  obtain ⟨m0, m1, m2, m3⟩ := r2.four
  clear h h' hb hO hO2
  cases eg : tiny C with
  | false =>
    have e : b = false := by rw [← HB.out, pairB, eg]; rfl
    subst e
    go_enter Try.func99, Try.ntmps99
    go_wp2_with fail
    rw [← hW1, ← hW2]
    refine (HG.out).mono ?_
    rintro e w3 ⟨rfl, b3⟩
    rw [eg]
    go_wp2_with fail
    go_ret
    exact ⟨rfl, B2.trans (b3.mono B2.size)⟩
  | true =>
    go_enter Try.func99, Try.ntmps99
    go_wp2_with fail
    rw [← hW1, ← hW2]
    clear hW1 hW2
    refine (HG.out).mono ?_
    rintro e w3 ⟨rfl, b3⟩
    rw [eg]
    have y1 := p2.below' b3
    have y2 := r2.below' b3
    have B3 := B2.trans (b3.mono B2.size)
    have HG2 := Lib.hid (siSmall_any _ D (tiny D) w3 (h2'.below b3) hf' rfl)
    clear p1 p2 r2 b2 B1 B2 b3 k0 k1 k2 k3 m0 m1 m2 m3 HG
    obtain ⟨k0, k1, k2, k3⟩ := y1.four
    obtain ⟨m0, m1, m2, m3⟩ := y2.four
    cases eg2 : tiny D with
    | false =>
      have e : b = false := by rw [← HB.out, pairB, eg, eg2]; rfl
      subst e
      go_wp2_with fail
      refine (HG2.out).mono ?_
      rintro e w4 ⟨rfl, b4⟩
      rw [eg2]
      go_wp2_with fail
      go_ret
      exact ⟨rfl, B3.trans (b4.mono B3.size)⟩
    | true =>
      have hd : (decide (C.in0 = D.in0) && (decide (C.in1 = D.in1) && decide ((q : Int) = (q2 : Int)))) = b := by
        rw [← HB.out, pairB, eg, eg2, HOL.out, HOL2.out]
        simp [Bool.and_assoc, Int.ofNat_inj]
      have HD := Lib.hid hd
      clear hd
      go_wp2_with fail
      refine (HG2.out).mono ?_
      rintro e w4 ⟨rfl, b4⟩
      rw [eg2]
      have y1 := y1.below' b4
      have y2 := y2.below' b4
      have B4 := B3.trans (b4.mono B3.size)
      clear k0 k1 k2 k3 m0 m1 m2 m3 HG2 B3 b4
      obtain ⟨k0, k1, k2, k3⟩ := y1.four
      obtain ⟨m0, m1, m2, m3⟩ := y2.four
      have HDO := HD.out
      clear HOL HOL2 HB h2 h2' hf hf' eg eg2 y1 y2
      generalize C.in0 = x at *
      generalize C.in1 = y at *
      generalize D.in0 = x' at *
      generalize D.in1 = y' at *
      by_cases c1 : x = x'
      · subst c1
        by_cases c2 : y = y'
        · subst c2
          by_cases c3 : (q : Int) = (q2 : Int)
          · obtain rfl : b = true := by rw [← HDO]; simp [c3]
            clear HDO HD
            go_wp2_with fail
            go_ret
            exact ⟨retBl (by simp), B4⟩
          · obtain rfl : b = false := by rw [← HDO]; simp [c3]
            clear HDO HD
            go_wp2_with fail
            go_ret
            exact ⟨retBl (by simp [c3]), B4⟩
        · obtain rfl : b = false := by rw [← HDO]; simp [c2]
          clear HDO HD
          go_wp2_with fail
          go_ret
          exact ⟨rfl, B4⟩
      · obtain rfl : b = false := by rw [← HDO]; simp [c1]
        clear HDO HD
        go_wp2_with fail
        go_ret
        exact ⟨rfl, B4⟩

/-- The answer of the model's search: the least number with different outs, or -1. -/
def neI (C D : Ci) : Int := if neTo C D (rowsN C) < rowsN C then (neTo C D (rowsN C) : Int) else -1

set_option maxRecDepth 100000 in
set_option maxHeartbeats 1000000 in
theorem siUnequal_any (v v' : Value) (C D : Ci) (w : World) (h : HasC w v C) (h' : HasC w v' D) (hP : pairB C D = true) :
    Calls Try.prog 100 #[v, v'] w fun e w' => e = .returned (.int .i64 (neI C D)) ∧ Below w.heap.size w w' := by
  obtain ⟨hS, hS', hin0, hin1, hos⟩ := pairB_yes hP
  obtain ⟨p, N, hp, hpp, p10, hN, hNI, N0, N1⟩ := tinyPow hS
  have hgd := (tiny_yes hS).1
  have hG := gd_yes hgd
  have hG' := gd_yes (tiny_yes hS').1
  have hins' : D.ins = (p : Int) := by rw [← hp]; unfold Ci.ins; omega
  obtain ⟨G, n, c, O, q, d, rfl, _, hO, _, _, _, _⟩ := id h
  obtain ⟨G2, n2, c2, O2, q2, d2, rfl, _, hO2, _, _, _, _⟩ := id h'
  have HGO := Lib.hid hG
  have HGO' := Lib.hid hG'
  have HPP := Lib.hid hpp
  have HINS := Lib.hid hp
  have HINS' := Lib.hid hins'
  have HNI := Lib.hid hNI
  have HOS := Lib.hid hos
  have o40 := hG.o
  have HNE : Hid (∀ r : Int, neI C D = r → neI C D = r) := Lib.hid (fun _ e => e)
  have HN := Lib.hid hN
  have B1 := belowNew w (.cells #[.int .i64 C.in0, .int .i64 C.in1, .slice G n c, .slice O q d] 34)
  have p1 := Blk.new w #[.int .i64 C.in0, .int .i64 C.in1, .slice G n c, .slice O q d] 34
  obtain ⟨W1, hW1⟩ : ∃ W, W = w.alloc (.cells #[.int .i64 C.in0, .int .i64 C.in1, .slice G n c, .slice O q d] 34) := ⟨_, rfl⟩
  have s1 : W1.heap.size = w.heap.size + 1 := by rw [hW1]; simp
  rw [← hW1] at B1 p1
  have b2 := belowNew W1 (.cells #[.int .i64 D.in0, .int .i64 D.in1, .slice G2 n2 c2, .slice O2 q2 d2] 34)
  have r2 := Blk.newAt (k := w.heap.size + 1) W1 #[.int .i64 D.in0, .int .i64 D.in1, .slice G2 n2 c2, .slice O2 q2 d2] 34 s1.symm
  have p2 := p1.below' b2
  obtain ⟨W2, hW2⟩ : ∃ W, W = W1.alloc (.cells #[.int .i64 D.in0, .int .i64 D.in1, .slice G2 n2 c2, .slice O2 q2 d2] 34) := ⟨_, rfl⟩
  rw [← hW2] at b2 r2 p2
  have B2 := B1.trans (b2.mono B1.size)
  have h2 := h.below B2
  have h2' := h'.below B2
  have HI : Hid (∀ W', Below W2.heap.size W2 W' → Calls Try.prog 80 #[.agg #[.int .i64 C.in0, .int .i64 C.in1, .slice G n c, .slice O q d]] W' fun e w' => e = .returned (.int .i64 (p : Int)) ∧ Below W'.heap.size W' w') := fun W' hb => by
    rw [← HINS.out]; exact ciInputs_any _ C W' (h2.below hb) HGO.out.a0 (by have := HGO.out.a1; omega) HGO.out.b0 (by have := HGO.out.b1; omega)
  clear h h' hG hG' hgd hS hS' hP hp hpp hins' hin0 hin1 hO hO2 hNI hN hos
  obtain ⟨ne, hne⟩ : ∃ r, neI C D = r := ⟨_, rfl⟩
  have HNR := Lib.hid hne
  rw [hne]
  clear hne HNE
  go_enter Try.func100, Try.ntmps100
  go_wp2_with fail
  rw [← hW1, ← hW2]
  clear hW1 hW2
  go_loopw [5] (fun iv wr => ∃ (k : Nat), k ≤ N ∧ iv = .int .i64 k ∧ Hid (neTo C D k = k) ∧ Below W2.heap.size W2 wr) (fun iv _ => N - (intOf iv).toNat)
  case atStart => exact ⟨0, Nat.zero_le _, rfl, Lib.hid rfl, Below.refl _ _⟩
  case round =>
    obtain ⟨k, hk, rfl, HK, bk⟩ := hrel
    have q0 : (0 : Int) ≤ (k : Int) := by omega
    have p0 : (0 : Int) ≤ (p : Int) := by omega
    have pk := p2.below' bk
    have rk := r2.below' bk
    obtain ⟨k0, k1, k2, k3⟩ := pk.four
    have HIk := Lib.hid (HI.out wr bk)
    have HE64 : Hid (wrap64 ((2 : Int) ^ p) = (N : Int)) := by show _ = _; rw [HNI.out]; unfold wrap64; omega
    go_wp2_with fail
    refine (HIk.out).mono ?_
    rintro e w3 ⟨rfl, b3⟩
    have bk3 := bk.trans (b3.mono bk.size)
    have p3 := pk.below' b3
    have r3 := rk.below' b3
    clear k0 k1 k2 k3 pk rk HIk bk b3
    by_cases hlt : k < N
    · have hlt' : (k : Int) < (N : Int) := by omega
      obtain ⟨k0, k1, k2, k3⟩ := p3.four
      have HIk := Lib.hid (HI.out w3 bk3)
      have e64 := HE64.out
      go_wp2_with fail
      clear e64
      refine (HIk.out).mono ?_
      rintro e w4 ⟨rfl, b4⟩
      have bk4 := bk3.trans (b4.mono bk3.size)
      have p4 := p3.below' b4
      have r4 := r3.below' b4
      clear k0 k1 k2 k3 p3 r3 HIk b4 bk3
      go_wp2_with fail
      refine (btOf_any (k : Int) p w4 q0 (by omega) (by omega)).mono ?_
      rintro e w5 ⟨R5, c5, rfl, o5, b5⟩
      have bk5 := Lib.hid (bk4.trans (b5.mono bk4.size))
      have p5 := Lib.hid (p4.below' b5)
      have r5 := Lib.hid (r4.below' b5)
      have HBitsE : Hid (mapTo (fun j => (k : Int) / 2 ^ j % 2) p = inBits C (k : Int)) := by show _ = _; rw [inBits, HPP.out]
      have hEI : inBits D (k : Int) = inBits C (k : Int) := by rw [inBits, inBits, HPP.out, show D.ins.toNat = p by have := HINS'.out; omega]
      rw [HBitsE.out] at o5
      have O5 := Lib.hid o5
      have D5 : Below w5.heap.size w5 w5.drew := (Below.refl _ w5).drew
      have hK : Hid (∀ W', Below w5.heap.size w5 W' → W'.cell? ⟨w.heap.size, 0, none⟩ = some (.int .i64 C.in0) ∧ W'.cell? ⟨w.heap.size, 1, none⟩ = some (.int .i64 C.in1) ∧ W'.cell? ⟨w.heap.size, 2, none⟩ = some (.slice G n c) ∧ W'.cell? ⟨w.heap.size, 3, none⟩ = some (.slice O q d)
          ∧ W'.cell? ⟨w.heap.size + 1, 0, none⟩ = some (.int .i64 D.in0) ∧ W'.cell? ⟨w.heap.size + 1, 1, none⟩ = some (.int .i64 D.in1) ∧ W'.cell? ⟨w.heap.size + 1, 2, none⟩ = some (.slice G2 n2 c2) ∧ W'.cell? ⟨w.heap.size + 1, 3, none⟩ = some (.slice O2 q2 d2)) := fun W' hb => by
        obtain ⟨a, b, c, d⟩ := (p5.out.below' hb).four
        obtain ⟨a', b', c', d'⟩ := (r5.out.below' hb).four
        exact ⟨a, b, c, d, a', b', c', d'⟩
      have HO1 : Hid (∀ W', Below w5.heap.size w5 W' → Calls Try.prog 132 #[.agg #[.int .i64 C.in0, .int .i64 C.in1, .slice G n c, .slice O q d], .slice R5 p c5] W' fun e w' => ∃ R3 c3, e = .returned (.slice R3 C.os.length c3) ∧ Own w' W'.heap.size R3 C.os.length c3 (outBits C (k : Int)) ∧ Below W'.heap.size W' w') := fun W' hb => ciOuts_any _ C R5 p c5 _ W' ((h2.below bk5.out).below hb) HGO.out (O5.out.has.below hb) (own_nilOk O5.out) (inBits_bits C k) (by rw [HINS.out])
      have HO2 : Hid (∀ W', Below w5.heap.size w5 W' → Calls Try.prog 132 #[.agg #[.int .i64 D.in0, .int .i64 D.in1, .slice G2 n2 c2, .slice O2 q2 d2], .slice R5 p c5] W' fun e w' => ∃ R3 c3, e = .returned (.slice R3 C.os.length c3) ∧ Own w' W'.heap.size R3 C.os.length c3 (outBits D (k : Int)) ∧ Below W'.heap.size W' w') := fun W' hb => by
        rw [HOS.out]; exact ciOuts_any _ D R5 p c5 _ W' ((h2'.below bk5.out).below hb) HGO'.out (by rw [hEI]; exact O5.out.has.below hb) (own_nilOk O5.out) (inBits_bits D k) (by rw [HINS'.out])
      obtain ⟨nb, hnb⟩ : ∃ b, neAt C D k = b := ⟨_, rfl⟩
      have HNB := Lib.hid hnb
      have HSame : Hid (∀ R R' c c' W', Has W' R C.os.length (outBits C (k : Int)) → Has W' R' C.os.length (outBits D (k : Int)) → Calls Try.prog 112 #[.slice R C.os.length c, .slice R' C.os.length c'] W' fun e w' => e = .returned (.bool (!nb)) ∧ Below W'.heap.size W' w') := fun R R' c c' W' h1 h2 => l1Same_any R R' _ c c' _ _ _ W' h1 h2 (by omega) (by rw [← HNB.out, neAt]; simp)
      clear hnb o5 p4 r4 bk4 b5
      go_wp2_with fail
      first
        | (go_region_held3 (fun w' => w'.cell? ⟨w.heap.size, 0, none⟩ = some (.int .i64 C.in0) ∧ w'.cell? ⟨w.heap.size, 1, none⟩ = some (.int .i64 C.in1) ∧ w'.cell? ⟨w.heap.size, 2, none⟩ = some (.slice G n c) ∧ w'.cell? ⟨w.heap.size, 3, none⟩ = some (.slice O q d)
          ∧ w'.cell? ⟨w.heap.size + 1, 0, none⟩ = some (.int .i64 D.in0) ∧ w'.cell? ⟨w.heap.size + 1, 1, none⟩ = some (.int .i64 D.in1) ∧ w'.cell? ⟨w.heap.size + 1, 2, none⟩ = some (.slice G2 n2 c2) ∧ w'.cell? ⟨w.heap.size + 1, 3, none⟩ = some (.slice O2 q2 d2))
          (first | exact hK.out _ D5 | exact hK.out _ Bq | exact hK.out _ Br | exact hK.out _ Bs | go_keep) (first
            | (refine call_eq (args1 := #[.slice R6 C.os.length c6, .slice R7 C.os.length c7]) (w1 := w7) (by simp) rfl ?_; refine Calls.mono (HSame.out R6 R7 c6 c7 w7 (o6.has.below b7) o7.has) ?_; rintro e w8 ⟨rfl, b8⟩; have Bs := Br.trans (b8.mono Br.size))
            | (refine call_eq (args1 := #[.slice S7 C.os.length d7, .slice S6 C.os.length d6]) (w1 := w7) (by simp) rfl ?_; refine Calls.mono (HSame.out S7 S6 d7 d6 w7 q7.has (q6.has.below b7)) ?_; rintro e w8 ⟨rfl, b8⟩; have Bs := Br.trans (b8.mono Br.size))
            | (refine call_eq (args1 := #[.agg #[.int .i64 D.in0, .int .i64 D.in1, .slice G2 n2 c2, .slice O2 q2 d2], .slice R5 p c5]) (w1 := w6) (by simp) rfl ?_; refine Calls.mono (HO2.out w6 Bq) ?_; rintro e w7 ⟨R7, c7, rfl, o7, b7⟩; have Br := Bq.trans (b7.mono Bq.size))
            | (refine call_eq (args1 := #[.agg #[.int .i64 C.in0, .int .i64 C.in1, .slice G n c, .slice O q d], .slice R5 p c5]) (w1 := x6) (by simp) rfl ?_; refine Calls.mono (HO1.out x6 Bq) ?_; rintro e w7 ⟨S7, d7, rfl, q7, b7⟩; have Br := Bq.trans (b7.mono Bq.size))
            | (refine call_eq (args1 := #[.agg #[.int .i64 C.in0, .int .i64 C.in1, .slice G n c, .slice O q d], .slice R5 p c5]) (w1 := w5.drew) (by simp) rfl ?_; refine Calls.mono (HO1.out w5.drew D5) ?_; rintro e w6 ⟨R6, c6, rfl, o6, b6⟩; have Bq := D5.trans (b6.mono D5.size))
            | (refine call_eq (args1 := #[.agg #[.int .i64 D.in0, .int .i64 D.in1, .slice G2 n2 c2, .slice O2 q2 d2], .slice R5 p c5]) (w1 := w5.drew) (by simp) rfl ?_; refine Calls.mono (HO2.out w5.drew D5) ?_; rintro e x6 ⟨S6, d6, rfl, q6, b6⟩; have Bq := D5.trans (b6.mono D5.size))))
        | fail
      all_goals
        have BS := bk5.out.trans (Bs.mono bk5.out.size)
        cases nb with
        | true =>
          have hres : ne = (k : Int) := by
            rw [← HNR.out, neI, HN.out, neTo_here HK.out HNB.out N hlt, if_pos hlt]
          go_wp2_with fail
          go_ret
          exact ⟨retI hres.symm, B2.trans (BS.mono B2.size)⟩
        | false =>
          go_wp2_with fail
          go_roundw
          case rel => exact ⟨k + 1, by omega, by go_num, Lib.hid (neTo_next HK.out HNB.out), BS⟩
          case measure => simp [intOf]; omega
    · obtain rfl : k = N := by omega
      have hres : ne = -1 := by rw [← HNR.out, neI, HN.out, HK.out, if_neg (by omega)]
      have e64 := HE64.out
      go_wp2_with fail
      clear e64
      go_ret
      exact ⟨retI hres.symm, B2.trans (bk3.mono B2.size)⟩

end Go.Proofs.Ytnelcbjegbchkaa
