/- The program's BesideCircuit. For every two circuits of at most 1048576 gates and outs. -/
import Derived.Test.YtaohgbkhmgfnhaaCirI12
namespace Go.Proofs.Ytaohgbkhmgfnhaa
open Go.RowKit Go.Shelf
set_option maxRecDepth 100000

/-- Where a wire of a circuit comes to lie: its inputs from a and from b on, its gates from e on. -/
def placeF (C : Ci) (a b e : Int) (i : Nat) : Int := if (i : Int) < C.in0 then a + (i : Int) else if (i : Int) < C.in0 + C.in1 then b + (i : Int) - C.in0 else e + (i : Int) - C.in0 - C.in1

set_option maxHeartbeats 2000000 in
theorem placeClosure_any (C : Ci) (a b e : Int) (i q0 q1 q2 q3 : Nat) (x y : Value) (w : World) (c0 : w.cell? ⟨q0, 0, none⟩ = some (.int .i64 C.in0)) (c1 : w.cell? ⟨q0, 1, none⟩ = some (.int .i64 C.in1))
    (ca : w.cell? ⟨q1, 0, none⟩ = some (.int .i64 a)) (cb : w.cell? ⟨q2, 0, none⟩ = some (.int .i64 b)) (ce : w.cell? ⟨q3, 0, none⟩ = some (.int .i64 e)) (_c2 : w.cell? ⟨q0, 2, none⟩ = some x) (_c3 : w.cell? ⟨q0, 3, none⟩ = some y)
    (i0 : 0 ≤ C.in0) (i1 : C.in0 ≤ 20) (j0 : 0 ≤ C.in1) (j1 : C.in1 ≤ 20) (a0 : 0 ≤ a) (a1 : a ≤ 1000) (b0 : 0 ≤ b) (b1 : b ≤ 1000) (e0 : 0 ≤ e) (e1 : e ≤ 1000) (hi : i ≤ 1000) :
    Calls Try.prog 110 #[.int .i64 (i : Int), .pointer (some ⟨q0, 0, none⟩), .pointer (some ⟨q1, 0, none⟩), .pointer (some ⟨q2, 0, none⟩), .pointer (some ⟨q3, 0, none⟩)] w fun r w' => r = .returned (.int .i64 (placeF C a b e i)) ∧ w = w' := by
  have p0 : (0 : Int) ≤ (i : Int) := by omega
  have p1 : (i : Int) ≤ 1000 := by omega
  by_cases h0 : (i : Int) < C.in0
  · have hv : placeF C a b e i = a + (i : Int) := if_pos h0
    rw [hv]
    clear hv
    go_enter Try.func110, Try.ntmps110
    go_wp2
    go_ret
    exact ⟨rfl, rfl⟩
  · by_cases h1 : (i : Int) < C.in0 + C.in1
    · have hv : placeF C a b e i = b + (i : Int) - C.in0 := by rw [placeF, if_neg h0, if_pos h1]
      rw [hv]
      clear hv
      go_enter Try.func110, Try.ntmps110
      go_wp2
      go_ret
      exact ⟨rfl, rfl⟩
    · have hv : placeF C a b e i = e + (i : Int) - C.in0 - C.in1 := by rw [placeF, if_neg h0, if_neg h1]
      rw [hv]
      clear hv
      go_enter Try.func110, Try.ntmps110
      go_wp2
      go_ret
      exact ⟨rfl, rfl⟩

set_option maxHeartbeats 2000000 in
theorem placesFrom_any (v : Value) (C : Ci) (a b e : Int) (pl : Nat → Int) (N : Nat) (w : World) (h : HasC w v C) (i0 : 0 ≤ C.in0) (i1 : C.in0 ≤ 20) (j0 : 0 ≤ C.in1) (j1 : C.in1 ≤ 20) (a0 : 0 ≤ a) (a1 : a ≤ 1000) (b0 : 0 ≤ b) (b1 : b ≤ 1000) (e0 : 0 ≤ e) (e1 : e ≤ 1000) (hN : N ≤ 1000)
    (hpl : ∀ i, i < N → placeF C a b e i = pl i) :
    Calls Try.prog 78 #[v, .int .i64 a, .int .i64 b, .int .i64 e] w fun r w' => ∃ lb, r = .returned (.func (.func 110) #[] lb) ∧ PlaceAt 110 lb pl N w' ∧ Below w.heap.size w w' := by
  obtain ⟨G, n, c, O, m, d, rfl, _, _, _, _, _, _⟩ := h
  obtain ⟨W1, hW1⟩ : ∃ W, W = w.alloc (.cells #[.int .i64 C.in0, .int .i64 C.in1, .slice G n c, .slice O m d] 30) := ⟨_, rfl⟩
  obtain ⟨W2, hW2⟩ : ∃ W, W = W1.alloc (.cells #[.int .i64 a] 3) := ⟨_, rfl⟩
  obtain ⟨W3, hW3⟩ : ∃ W, W = W2.alloc (.cells #[.int .i64 b] 3) := ⟨_, rfl⟩
  obtain ⟨W4, hW4⟩ : ∃ W, W = W3.alloc (.cells #[.int .i64 e] 3) := ⟨_, rfl⟩
  have s1 : W1.heap.size = w.heap.size + 1 := by rw [hW1]; simp
  have s2 : W2.heap.size = w.heap.size + 1 + 1 := by rw [hW2]; simp [s1]
  have s3 : W3.heap.size = w.heap.size + 1 + 1 + 1 := by rw [hW3]; simp [s2]
  have p0 : Blk W4 w.heap.size #[.int .i64 C.in0, .int .i64 C.in1, .slice G n c, .slice O m d] 30 := by rw [hW4, hW3, hW2, hW1]; exact (((Blk.new _ _ _).alloc _).alloc _).alloc _
  have p1 : Blk W4 (w.heap.size + 1) #[.int .i64 a] 3 := by rw [hW4, hW3, hW2]; exact ((Blk.newAt _ _ _ s1.symm).alloc _).alloc _
  have p2 : Blk W4 (w.heap.size + 1 + 1) #[.int .i64 b] 3 := by rw [hW4, hW3]; exact (Blk.newAt _ _ _ s2.symm).alloc _
  have p3 : Blk W4 (w.heap.size + 1 + 1 + 1) #[.int .i64 e] 3 := by rw [hW4]; exact Blk.newAt _ _ _ s3.symm
  have B4 : Below w.heap.size w W4 := by rw [hW4, hW3, hW2, hW1]; exact ((((Below.refl _ w).alloc (Nat.le_refl _) _).alloc (by simp) _).alloc (by simp; omega) _).alloc (by simp; omega) _
  have HPl : Hid (PlaceAt 110 #[.pointer (some ⟨w.heap.size, 0, none⟩), .pointer (some ⟨w.heap.size + 1, 0, none⟩), .pointer (some ⟨w.heap.size + 1 + 1, 0, none⟩), .pointer (some ⟨w.heap.size + 1 + 1 + 1, 0, none⟩)] pl N W4) := by
    intro W i hi hb
    have ea : (#[Value.int .i64 (i : Int)] ++ #[.pointer (some ⟨w.heap.size, 0, none⟩), .pointer (some ⟨w.heap.size + 1, 0, none⟩), .pointer (some ⟨w.heap.size + 1 + 1, 0, none⟩), .pointer (some ⟨w.heap.size + 1 + 1 + 1, 0, none⟩)] : Array Value) = #[.int .i64 (i : Int), .pointer (some ⟨w.heap.size, 0, none⟩), .pointer (some ⟨w.heap.size + 1, 0, none⟩), .pointer (some ⟨w.heap.size + 1 + 1, 0, none⟩), .pointer (some ⟨w.heap.size + 1 + 1 + 1, 0, none⟩)] := by simp
    rw [ea]
    obtain ⟨k0, k1, k2, k3⟩ := (p0.below' hb).four
    refine (placeClosure_any C a b e i w.heap.size (w.heap.size + 1) (w.heap.size + 1 + 1) (w.heap.size + 1 + 1 + 1) _ _ W k0 k1 ((p1.below' hb).cell (i := 0) rfl) ((p2.below' hb).cell (i := 0) rfl) ((p3.below' hb).cell (i := 0) rfl) k2 k3 i0 i1 j0 j1 a0 a1 b0 b1 e0 e1 (by omega)).mono ?_
    rintro r w' ⟨rfl, rfl⟩
    exact ⟨by rw [hpl i hi], Below.refl _ _⟩
  have HB := Lib.hid B4
  clear p0 p1 p2 p3 s1 s2 s3 B4 hpl
  go_enter Try.func78, Try.ntmps78
  go_wp2
  go_ret
  rw [← hW1, ← hW2, ← hW3, ← hW4]
  exact ⟨_, rfl, HPl.out, HB.out⟩

theorem left_place {C D : Ci} (hC : Good C) (_hD : Good D) {n i : Nat} (hn : (C.gs.length : Int) = (n : Int)) (hi : (i : Int) < C.wires) :
    placeF C 0 (C.in0 + D.in0) (C.in0 + D.in0 + (C.in1 + D.in1)) i = (wiresTo (mapTo (leftAt C D) C.ins.toNat) (C.ins + D.ins) n).getD i 0 := by
  have h1 := hC.a0
  have h2 := hC.b0
  have hl : (mapTo (leftAt C D) C.ins.toNat).length = C.ins.toNat := mapTo_length _ _
  have hins : ((C.ins.toNat : Nat) : Int) = C.in0 + C.in1 := by unfold Ci.ins; omega
  have hw : C.wires = C.in0 + C.in1 + (C.gs.length : Int) := rfl
  by_cases h : i < C.ins.toNat
  · rw [wires_low (by rw [hl]; exact h), mapTo_at _ h, placeF, leftAt]
    by_cases h0 : (i : Int) < C.in0
    · rw [if_pos h0, if_pos h0]; omega
    · rw [if_neg h0, if_neg h0, if_pos (by omega)]; omega
  · rw [wires_high (by rw [hl]; omega) (by rw [hl]; omega), hl, placeF, if_neg (by omega), if_neg (by omega)]
    unfold Ci.ins at h ⊢
    omega
theorem right_place {C D : Ci} (_hC : Good C) (hD : Good D) {n i : Nat} (hn : (D.gs.length : Int) = (n : Int)) (hi : (i : Int) < D.wires) :
    placeF D C.in0 (C.in0 + D.in0 + C.in1) (C.in0 + D.in0 + (C.in1 + D.in1) + (C.gs.length : Int)) i = (wiresTo (mapTo (rightAt C D) D.ins.toNat) (C.ins + D.ins + (C.gs.length : Int)) n).getD i 0 := by
  have h1 := hD.a0
  have h2 := hD.b0
  have hl : (mapTo (rightAt C D) D.ins.toNat).length = D.ins.toNat := mapTo_length _ _
  have hins : ((D.ins.toNat : Nat) : Int) = D.in0 + D.in1 := by unfold Ci.ins; omega
  have hw : D.wires = D.in0 + D.in1 + (D.gs.length : Int) := rfl
  by_cases h : i < D.ins.toNat
  · rw [wires_low (by rw [hl]; exact h), mapTo_at _ h, placeF, rightAt]
    by_cases h0 : (i : Int) < D.in0
    · rw [if_pos h0, if_pos h0]; omega
    · rw [if_neg h0, if_neg h0, if_pos (by omega)]; omega
  · rw [wires_high (by rw [hl]; omega) (by rw [hl]; omega), hl, placeF, if_neg (by omega), if_neg (by omega)]
    unfold Ci.ins at h ⊢
    omega

set_option maxHeartbeats 16000000 in
theorem impl_BesideCircuit (v : Value) (C : Ci) (v' : Value) (D : Ci) (RC : Ci) (rb : Bool) (w : World) (h : HasC w v C) (hf : Fit C) (h' : HasC w v' D) (hf' : Fit D) (hm : m_BesideCircuit C D = (RC, rb)) :
    Calls Try.prog 36 #[v, v'] w fun e w' => ∃ u, e = .returned (.tuple #[u, .bool rb]) ∧ OwnC w' w.heap.size u RC ∧ RC.gs.length ≤ 1048576 ∧ RC.os.length ≤ 1048576 ∧ Below w.heap.size w w' := by
  obtain ⟨G, n, c, O, q, d, rfl, hGs, hO, hnc, hqd, hGn, hOn⟩ := id h
  obtain ⟨G2, n2, c2, O2, q2, d2, rfl, hGs2, hO2, hnc2, hqd2, hGn2, hOn2⟩ := id h'
  have HM := Lib.hid hm
  have HQ0 : Hid (C.os.length = q) := hO.1
  have HN2 : Hid (D.gs.length = n2) := hGs2.1
  have HQ2 : Hid (D.os.length = q2) := hO2.1
  have HN0 : Hid (C.gs.length = n) := hGs.1
  have b1 := belowNew w (.cells #[.int .i64 C.in0, .int .i64 C.in1, .slice G n c, .slice O q d] 30)
  have p1 := Blk.new w #[.int .i64 C.in0, .int .i64 C.in1, .slice G n c, .slice O q d] 30
  obtain ⟨W1, hW1⟩ : ∃ W, W = w.alloc (.cells #[.int .i64 C.in0, .int .i64 C.in1, .slice G n c, .slice O q d] 30) := ⟨_, rfl⟩
  have s1 : W1.heap.size = w.heap.size + 1 := by rw [hW1]; simp
  rw [← hW1] at b1 p1
  have b2 := belowNew W1 (.cells #[.int .i64 D.in0, .int .i64 D.in1, .slice G2 n2 c2, .slice O2 q2 d2] 30)
  have d2' := Blk.newAt (k := w.heap.size + 1) W1 #[.int .i64 D.in0, .int .i64 D.in1, .slice G2 n2 c2, .slice O2 q2 d2] 30 s1.symm
  have p2 := p1.below' b2
  obtain ⟨W2, hW2⟩ : ∃ W, W = W1.alloc (.cells #[.int .i64 D.in0, .int .i64 D.in1, .slice G2 n2 c2, .slice O2 q2 d2] 30) := ⟨_, rfl⟩
  have s2 : W2.heap.size = w.heap.size + 1 + 1 := by rw [hW2]; simp [s1]
  rw [← hW2] at b2 d2' p2
  have b3 := belowNew W2 (.cells #[.int .i64 0, .int .i64 0, .slice none 0 0, .slice none 0 0] 30)
  have r3 := Blk.newAt (k := w.heap.size + 1 + 1) W2 #[.int .i64 0, .int .i64 0, .slice none 0 0, .slice none 0 0] 30 s2.symm
  have p3 := p2.below' b3
  have d3 := d2'.below' b3
  obtain ⟨W3, hW3⟩ : ∃ W, W = W2.alloc (.cells #[.int .i64 0, .int .i64 0, .slice none 0 0, .slice none 0 0] 30) := ⟨_, rfl⟩
  have s3 : W3.heap.size = w.heap.size + 1 + 1 + 1 := by rw [hW3]; simp [s2]
  rw [← hW3] at b3 r3 p3 d3
  have B3 := (b1.trans (b2.mono b1.size)).trans (b3.mono (Nat.le_trans b1.size b2.size))
  have h3 := h.below B3
  have h3' := h'.below B3
  have lt0 : w.heap.size < W3.heap.size := by omega
  have lt1 : w.heap.size + 1 < W3.heap.size := by omega
  have lt2 : w.heap.size + 1 + 1 < W3.heap.size := by omega
  have hG3 := hGs.below B3
  have hO3 := hO.below B3
  have hG3' := hGs2.below B3
  have hO3' := hO2.below B3
  clear h h' hm b1 p1 b2 d2' p2 b3 s1 s2 hGs hO hGs2 hO2
  have HGc := Lib.hid (isCircuit_any _ C (gd C) W3 h3 (fitLen hf) rfl)
  have HGd : Hid (∀ W', Below W3.heap.size W3 W' → Calls Try.prog 15 #[.agg #[.int .i64 D.in0, .int .i64 D.in1, .slice G2 n2 c2, .slice O2 q2 d2]] W' fun e w' => e = .returned (.bool (gd D)) ∧ Below W'.heap.size W' w') := fun W' hb => isCircuit_any _ D (gd D) W' (h3'.below hb) (fitLen hf') rfl
  obtain ⟨k0, k1, k2, k3⟩ := p3.four
  obtain ⟨l0, l1, l2, l3⟩ := d3.four
  go_enter Try.func36, Try.ntmps36
  go_upto_region 1 with fail
  rw [← hW1, ← hW2, ← hW3]
  clear hW1 hW2 hW3
  go_cut [19] (fun vq wx => vq = .bool (!decide (gd C = true ∧ gd D = true)) ∧ Below W3.heap.size W3 wx)
  case first =>
    cases eg : gd C with
    | false =>
      rw [eg] at HGc
      go_wp2_with fail
      refine (HGc.out).mono ?_
      rintro e w4 ⟨rfl, b4⟩
      go_wp2_with fail
      go_meet
      exact ⟨by simp [eg], b4⟩
    | true =>
      rw [eg] at HGc
      go_wp2_with fail
      refine (HGc.out).mono ?_
      rintro e w4 ⟨rfl, b4⟩
      obtain ⟨x0, x1, x2, x3⟩ := (d3.below b4 lt1).four
      clear l0 l1 l2 l3
      go_wp2_with fail
      refine (HGd.out _ b4).mono ?_
      rintro e w5 ⟨rfl, b5⟩
      go_wp2_with fail
      go_meet
      exact ⟨by cases ed : gd D <;> simp [eg], b4.trans (b5.mono b4.size)⟩
  case rest =>
    clear k0 k1 k2 k3 l0 l1 l2 l3 HGc HGd
    obtain ⟨rfl, B4⟩ := hcut
    obtain ⟨w4, rfl⟩ : ∃ x, x = wc := ⟨_, rfl⟩
    have r4 := r3.below B4 lt2
    have Bw := B3.trans (B4.mono B3.size)
    by_cases hok : gd C = true ∧ gd D = true
    · have hdec : decide (gd C = true ∧ gd D = true) = true := decide_eq_true hok
      have e := HM.out
      rw [m_BesideCircuit, if_pos hok] at e
      have HRC := Lib.hid e
      obtain ⟨gc, gd'⟩ := hok
      have gC := gd_yes gc
      have gD := gd_yes gd'
      have q40 : q ≤ 40 := by have := gC.o; have := HQ0.out; omega
      have n300 : n ≤ 300 := by have := gC.g; have := HN0.out; omega
      have n2300 : n2 ≤ 300 := by have := gD.g; have := HN2.out; omega
      have q240 : q2 ≤ 40 := by have := gD.o; have := HQ2.out; omega
      obtain ⟨i0, i1, j0, j1⟩ : 0 ≤ C.in0 ∧ C.in0 ≤ 20 ∧ 0 ≤ C.in1 ∧ C.in1 ≤ 20 := ⟨gC.a0, gC.a1, gC.b0, gC.b1⟩
      obtain ⟨s0, s1, t0, t1⟩ : 0 ≤ D.in0 ∧ D.in0 ≤ 20 ∧ 0 ≤ D.in1 ∧ D.in1 ≤ 20 := ⟨gD.a0, gD.a1, gD.b0, gD.b1⟩
      obtain ⟨p, hp⟩ : ∃ p, C.in0 + D.in0 = p := ⟨_, rfl⟩
      obtain ⟨r, hr⟩ : ∃ r, C.in1 + D.in1 = r := ⟨_, rfl⟩
      obtain ⟨s, hs⟩ : ∃ s, p + r = s := ⟨_, rfl⟩
      obtain ⟨t, ht⟩ : ∃ t, p + C.in1 = t := ⟨_, rfl⟩
      obtain ⟨u, hu⟩ : ∃ u, s + (n : Int) = u := ⟨_, rfl⟩
      have x1 : IntKind.i64.wrap (C.in0 + D.in0) = p := by rw [← hp]; exact wrapIn (by omega) (by omega)
      have x2 : IntKind.i64.wrap (C.in1 + D.in1) = r := by rw [← hr]; exact wrapIn (by omega) (by omega)
      have x3 : IntKind.i64.wrap (p + r) = s := by rw [← hs]; exact wrapIn (by omega) (by omega)
      have x4 : IntKind.i64.wrap (p + C.in1) = t := by rw [← ht]; exact wrapIn (by omega) (by omega)
      have x5 : IntKind.i64.wrap (s + (n : Int)) = u := by rw [← hu]; exact wrapIn (by omega) (by omega)
      obtain ⟨NC, hNC⟩ : ∃ NC : Nat, C.wires = (NC : Int) := ⟨C.wires.toNat, by unfold Ci.wires; omega⟩
      obtain ⟨ND, hND⟩ : ∃ ND : Nat, D.wires = (ND : Int) := ⟨D.wires.toNat, by unfold Ci.wires; omega⟩
      have wC : C.wires = C.in0 + C.in1 + (C.gs.length : Int) := rfl
      have wD : D.wires = D.in0 + D.in1 + (D.gs.length : Int) := rfl
      have hN0 := HN0.out
      have hN2 := HN2.out
      have hgC : ∀ k, k < C.gs.length → gateOk (NC : Int) (C.gs.getD k g0) = true := fun k hk => by
        obtain ⟨x, y, z, hx⟩ : ∃ x y z, C.gs.getD k g0 = (x, y, z) := ⟨_, _, _, rfl⟩
        have := gC.gate k hk
        rw [hx] at this ⊢
        exact gateOk_mono this (by unfold Ci.ins; omega)
      have hgD : ∀ k, k < D.gs.length → gateOk (ND : Int) (D.gs.getD k g0) = true := fun k hk => by
        obtain ⟨x, y, z, hx⟩ : ∃ x y z, D.gs.getD k g0 = (x, y, z) := ⟨_, _, _, rfl⟩
        have := gD.gate k hk
        rw [hx] at this ⊢
        exact gateOk_mono this (by unfold Ci.ins; omega)
      have hoC : ∀ j, j < C.os.length → 0 ≤ C.os.getD j 0 ∧ C.os.getD j 0 < (NC : Int) := fun k hk => by have h5 := gC.out k hk; omega
      have hoD : ∀ j, j < D.os.length → 0 ≤ D.os.getD j 0 ∧ D.os.getD j 0 < (ND : Int) := fun k hk => by have h5 := gD.out k hk; omega
      obtain ⟨lw, hlw⟩ : ∃ lw, mapTo (leftAt C D) C.ins.toNat = lw := ⟨_, rfl⟩
      obtain ⟨rw', hrw⟩ : ∃ l, mapTo (rightAt C D) D.ins.toNat = l := ⟨_, rfl⟩
      have hplC : ∀ i, i < NC → placeF C 0 p s i = (wiresTo lw (C.ins + D.ins) n).getD i 0 := fun i hi => by rw [← hs, ← hr, ← hp, ← hlw]; exact left_place gC gD (by rw [hN0]) (by omega)
      have hplD : ∀ i, i < ND → placeF D C.in0 t u i = (wiresTo rw' (C.ins + D.ins + (n : Int)) n2).getD i 0 := fun i hi => by rw [← hu, ← hs, ← ht, ← hr, ← hp, ← hrw, ← hN0]; exact right_place gC gD (by rw [hN2]) (by omega)
      have hmC : C.gs.map (mvG fun i => (wiresTo lw (C.ins + D.ins) n).getD i 0) = movTo C.gs lw (C.ins + D.ins) n := by
        rw [← hN0]
        exact moved_movTo (fun k hk => by rw [← hlw, mapTo_length]; have := gC.gate k hk; rwa [show ((C.ins.toNat : Nat) : Int) = C.ins by unfold Ci.ins; omega])
      have hmD : D.gs.map (mvG fun i => (wiresTo rw' (C.ins + D.ins + (n : Int)) n2).getD i 0) = movTo D.gs rw' (C.ins + D.ins + (n : Int)) n2 := by
        rw [← hN2]
        exact moved_movTo (fun k hk => by rw [← hrw, mapTo_length]; have := gD.gate k hk; rwa [show ((D.ins.toNat : Nat) : Int) = D.ins by unfold Ci.ins; omega])
      obtain ⟨ML, hML⟩ : ∃ M : Ci, M = ⟨0, 0, movTo C.gs lw (C.ins + D.ins) n, pickL (wiresTo lw (C.ins + D.ins) n) C.os⟩ := ⟨_, rfl⟩
      obtain ⟨MR, hMR⟩ : ∃ M : Ci, M = ⟨0, 0, movTo D.gs rw' (C.ins + D.ins + (n : Int)) n2, pickL (wiresTo rw' (C.ins + D.ins + (n : Int)) n2) D.os⟩ := ⟨_, rfl⟩
      have HPl : Hid (∀ W', Below w4.heap.size w4 W' → Calls Try.prog 78 #[.agg #[.int .i64 C.in0, .int .i64 C.in1, .slice G n c, .slice O q d], .int .i64 0, .int .i64 p, .int .i64 s] W' fun en w' => ∃ lb, en = .returned (.func (.func 110) #[] lb) ∧ PlaceAt 110 lb (fun i => (wiresTo lw (C.ins + D.ins) n).getD i 0) NC w' ∧ Below W'.heap.size W' w') := fun W' hb => placesFrom_any _ C 0 p s _ NC W' ((h3.below B4).below hb) i0 i1 j0 j1 (by omega) (by omega) (by omega) (by omega) (by omega) (by omega) (by omega) hplC
      have HMv : Hid (∀ lb W', Below w4.heap.size w4 W' → PlaceAt 110 lb (fun i => (wiresTo lw (C.ins + D.ins) n).getD i 0) NC W' → Calls Try.prog 74 #[.agg #[.int .i64 C.in0, .int .i64 C.in1, .slice G n c, .slice O q d], .func (.func 110) #[] lb] W' fun en w' => ∃ u, en = .returned u ∧ OwnC w' W'.heap.size u ML ∧ Below W'.heap.size W' w') := fun lb W' hb hpl => by
        rw [hML, ← hmC]
        exact movedCircuit_any 110 lb (enters_of Try.func110 (by kernel_rfl) rfl) _ NC _ C W' ((h3.below B4).below hb) hpl hf.1 hf.2.1 hgC hoC
      have HPl2 : Hid (∀ W', Below w4.heap.size w4 W' → Calls Try.prog 78 #[.agg #[.int .i64 D.in0, .int .i64 D.in1, .slice G2 n2 c2, .slice O2 q2 d2], .int .i64 C.in0, .int .i64 t, .int .i64 u] W' fun en w' => ∃ lb, en = .returned (.func (.func 110) #[] lb) ∧ PlaceAt 110 lb (fun i => (wiresTo rw' (C.ins + D.ins + (n : Int)) n2).getD i 0) ND w' ∧ Below W'.heap.size W' w') := fun W' hb => placesFrom_any _ D C.in0 t u _ ND W' ((h3'.below B4).below hb) s0 s1 t0 t1 (by omega) (by omega) (by omega) (by omega) (by omega) (by omega) (by omega) hplD
      have HMv2 : Hid (∀ lb W', Below w4.heap.size w4 W' → PlaceAt 110 lb (fun i => (wiresTo rw' (C.ins + D.ins + (n : Int)) n2).getD i 0) ND W' → Calls Try.prog 74 #[.agg #[.int .i64 D.in0, .int .i64 D.in1, .slice G2 n2 c2, .slice O2 q2 d2], .func (.func 110) #[] lb] W' fun en w' => ∃ u, en = .returned u ∧ OwnC w' W'.heap.size u MR ∧ Below W'.heap.size W' w') := fun lb W' hb hpl => by
        rw [hMR, ← hmD]
        exact movedCircuit_any 110 lb (enters_of Try.func110 (by kernel_rfl) rfl) _ ND _ D W' ((h3'.below B4).below hb) hpl hf'.1 hf'.2.1 hgD hoD
      obtain ⟨T, hT⟩ : ∃ T : Ci, T = ⟨p, r, ML.gs ++ MR.gs, ML.os ++ MR.os⟩ := ⟨_, rfl⟩
      have HTh : Hid (ifG T = (RC, rb)) := by
        have e : besideC C D = T := by rw [hT, hML, hMR, besideC, hlw, hrw, hN0, hN2, hp, hr]
        rw [← e]
        exact HRC.out
      have lML : ML.gs.length = n ∧ ML.os.length = q := by rw [hML]; exact ⟨movTo_length _ _ _ _, by simp only [pickL, List.length_map]; exact HQ0.out⟩
      have lMR : MR.gs.length = n2 ∧ MR.os.length = q2 := by rw [hMR]; exact ⟨movTo_length _ _ _ _, by simp only [pickL, List.length_map]; exact HQ2.out⟩
      have Tg : T.gs.length ≤ 1048576 ∧ T.os.length ≤ 1048576 := by
        rw [hT]
        constructor
        · show (ML.gs ++ MR.gs).length ≤ 1048576
          rw [List.length_append]; omega
        · show (ML.os ++ MR.os).length ≤ 1048576
          rw [List.length_append]; omega
      have hsz : RC.gs.length ≤ 1048576 ∧ RC.os.length ≤ 1048576 := by
        have e := HTh.out
        unfold ifG at e
        split at e
        · obtain ⟨rfl, _⟩ := Prod.mk.inj e; exact Tg
        · obtain ⟨rfl, _⟩ := Prod.mk.inj e; exact ⟨by simp, by simp⟩
      have HSz := Lib.hid hsz
      have HTI : Hid (∀ B v W', OwnC W' B v T → Calls Try.prog 75 #[v] W' fun e w' => ∃ u, e = .returned (.tuple #[u, .bool rb]) ∧ OwnC w' B u RC ∧ Below W'.heap.size W' w') := fun B v W' ho => (validCircuit_any v T B W' ho Tg).mono (by rintro e w' ⟨u, rfl, h1, h2⟩; rw [HTh.out] at h1 ⊢; exact ⟨u, rfl, h1, h2⟩)
      have HOT : Hid (∀ R nR cR P mP cP W' B, OwnG W' B R nR cR (ML.gs ++ MR.gs) → Own W' B P mP cP (ML.os ++ MR.os) → OwnC W' B (.agg #[.int .i64 p, .int .i64 r, .slice R nR cR, .slice P mP cP]) T) := fun R nR cR P mP cP W' B h1 h2 => by rw [hT]; exact ⟨R, nR, cR, P, mP, cP, rfl, h1, h2⟩
      have hKw4 : Hid (∀ W', Below w4.heap.size w4 W' → (W'.cell? ⟨w.heap.size, 0, none⟩ = some (.int .i64 C.in0) ∧ W'.cell? ⟨w.heap.size, 1, none⟩ = some (.int .i64 C.in1) ∧ W'.cell? ⟨w.heap.size, 2, none⟩ = some (.slice G n c) ∧ W'.cell? ⟨w.heap.size, 3, none⟩ = some (.slice O q d)) ∧ W'.cell? ⟨w.heap.size + 1, 0, none⟩ = some (.int .i64 D.in0) ∧ W'.cell? ⟨w.heap.size + 1, 1, none⟩ = some (.int .i64 D.in1) ∧ W'.cell? ⟨w.heap.size + 1, 2, none⟩ = some (.slice G2 n2 c2) ∧ W'.cell? ⟨w.heap.size + 1, 3, none⟩ = some (.slice O2 q2 d2)) := fun W' hb => ⟨(p3.below (B4.trans (hb.mono B4.size)) lt0).four, (d3.below (B4.trans (hb.mono B4.size)) lt1).four⟩
      have lt24 : w.heap.size + 1 + 1 < w4.heap.size := Nat.lt_of_lt_of_le lt2 B4.size
      obtain ⟨⟨k0, k1, k2, k3⟩, l0, l1, l2, l3⟩ := hKw4.out _ (Below.refl _ _)
      rw [hdec]
      clear hdec e gc gd' HM gC gD hsz HRC hp hr hs ht hu hNC hND wC wD hN0 hN2 hgC hgD hoC hoD hlw hrw hplC hplD hmC hmD hT hML hMR Tg
      go_wp2_with fail
      go_cut [6, 7] (fun va vb wx => va = .int .i64 p ∧ vb = .int .i64 r ∧ Below w4.heap.size w4 wx)
      case first =>
        go_quiet (fail)
        go_wp2_with fail
        go_meet
        exact ⟨rfl, rfl, below_drewN (Below.refl _ _) _⟩
      case rest =>
      clear k0 k1 k2 k3 l0 l1 l2 l3
      obtain ⟨rfl, rfl, B5⟩ := hcut
      obtain ⟨w5, rfl⟩ : ∃ x, x = wc := ⟨_, rfl⟩
      have HPlw5 : Hid (∀ W', Below w5.heap.size w5 W' → Calls Try.prog 78 #[.agg #[.int .i64 C.in0, .int .i64 C.in1, .slice G n c, .slice O q d], .int .i64 0, .int .i64 p, .int .i64 s] W' fun en w' => ∃ lb, en = .returned (.func (.func 110) #[] lb) ∧ PlaceAt 110 lb (fun i => (wiresTo lw (C.ins + D.ins) n).getD i 0) NC w' ∧ Below W'.heap.size W' w') := fun W' hb => HPl.out W' (B5.trans (hb.mono B5.size))
      have HMvw5 : Hid (∀ lb W', Below w5.heap.size w5 W' → PlaceAt 110 lb (fun i => (wiresTo lw (C.ins + D.ins) n).getD i 0) NC W' → Calls Try.prog 74 #[.agg #[.int .i64 C.in0, .int .i64 C.in1, .slice G n c, .slice O q d], .func (.func 110) #[] lb] W' fun en w' => ∃ u, en = .returned u ∧ OwnC w' W'.heap.size u ML ∧ Below W'.heap.size W' w') := fun lb W' hb hpl => HMv.out lb W' (B5.trans (hb.mono B5.size)) hpl
      have hKw5 : Hid (∀ W', Below w5.heap.size w5 W' → (W'.cell? ⟨w.heap.size, 0, none⟩ = some (.int .i64 C.in0) ∧ W'.cell? ⟨w.heap.size, 1, none⟩ = some (.int .i64 C.in1) ∧ W'.cell? ⟨w.heap.size, 2, none⟩ = some (.slice G n c) ∧ W'.cell? ⟨w.heap.size, 3, none⟩ = some (.slice O q d)) ∧ W'.cell? ⟨w.heap.size + 1, 0, none⟩ = some (.int .i64 D.in0) ∧ W'.cell? ⟨w.heap.size + 1, 1, none⟩ = some (.int .i64 D.in1) ∧ W'.cell? ⟨w.heap.size + 1, 2, none⟩ = some (.slice G2 n2 c2) ∧ W'.cell? ⟨w.heap.size + 1, 3, none⟩ = some (.slice O2 q2 d2)) := fun W' hb => hKw4.out W' (B5.trans (hb.mono B5.size))
      clear HPl HMv
      go_wp2_with fail
      go_cut [8] (fun v8 wx => ∃ (g : Nat) (Gx : Option Addr) (nx cx : Nat) (Ox : Option Addr) (mx dx : Nat), v8 = .pointer (some ⟨g, 0, none⟩) ∧ Blk wx g #[.int .i64 ML.in0, .int .i64 ML.in1, .slice Gx nx cx, .slice Ox mx dx] 30 ∧ OwnC wx w5.heap.size (.agg #[.int .i64 ML.in0, .int .i64 ML.in1, .slice Gx nx cx, .slice Ox mx dx]) ML ∧ w5.heap.size ≤ g ∧ Below w5.heap.size w5 wx)
      case first =>
        clear hf hf' hnc hqd hGn hOn hnc2 hqd2 hGn2 hOn2 HQ0 HN2 HQ2 HN0 d3 p3 r3 s3 B3 h3 h3' lt0 lt1 lt2 hG3 hO3 hG3' hO3' r4 Bw q40 n300 n2300 q240 i0 i1 j0 j1 s0 s1 t0 t1 x1 x2 x4 x5 HPl2 HMv2 HTh lML lMR HSz HTI HOT hKw4 lt24 B4 B5
        have DD : Below w5.heap.size w5 w5.drew := (Below.refl _ w5).drew
        have DA : Below w5.heap.size w5 (w5.alloc (.cells #[.int .i64 0, .int .i64 0, .slice none 0 0, .slice none 0 0] 30)).drew := (belowNew w5 (.cells #[.int .i64 0, .int .i64 0, .slice none 0 0, .slice none 0 0] 30)).drew
        have zA : Blk (w5.alloc (.cells #[.int .i64 0, .int .i64 0, .slice none 0 0, .slice none 0 0] 30)).drew w5.heap.size #[.int .i64 0, .int .i64 0, .slice none 0 0, .slice none 0 0] 30 := Blk.new w5 #[.int .i64 0, .int .i64 0, .slice none 0 0, .slice none 0 0] 30
        go_region_held3 (fun w' => (w'.cell? ⟨w.heap.size, 0, none⟩ = some (.int .i64 C.in0) ∧ w'.cell? ⟨w.heap.size, 1, none⟩ = some (.int .i64 C.in1) ∧ w'.cell? ⟨w.heap.size, 2, none⟩ = some (.slice G n c) ∧ w'.cell? ⟨w.heap.size, 3, none⟩ = some (.slice O q d)) ∧ w'.cell? ⟨w.heap.size + 1, 0, none⟩ = some (.int .i64 D.in0) ∧ w'.cell? ⟨w.heap.size + 1, 1, none⟩ = some (.int .i64 D.in1) ∧ w'.cell? ⟨w.heap.size + 1, 2, none⟩ = some (.slice G2 n2 c2) ∧ w'.cell? ⟨w.heap.size + 1, 3, none⟩ = some (.slice O2 q2 d2)) (first | exact hKw5.out _ DD | exact hKw5.out _ DA | exact hKw5.out _ Bp | exact hKw5.out _ (Bp.trans ((belowNew wp _).mono Bp.size)) | exact hKw5.out _ bn | exact hKw5.out _ (bn.trans ((belowNew wn _).mono bn.size)) | exact hKw5.out _ ((((bn.setCell Bp.size _).setCell Bp.size _).setCell Bp.size _).setCell Bp.size _) | exact hKw5.out _ ((((bn.setCell DD.size _).setCell DD.size _).setCell DD.size _).setCell DD.size _) | go_keep) (first | (go_at_call 74; ((with_reducible refine (HMvw5.out lb wp Bp hpl).mono ?_); rintro e wn ⟨un, rfl, on, bq⟩; have bn := Bp.trans (bq.mono Bp.size); have zn := z1.below' bq; obtain ⟨Gx, nx, cx, Ox, mx, dx, rfl, hx1, hx2⟩ := id on; have zc0 := zn.cell (i := 0) rfl; have zc1 := zn.cell (i := 1) rfl; have zc2 := zn.cell (i := 2) rfl; have zc3 := zn.cell (i := 3) rfl; have zf0 := zn.free 0; have zf1 := zn.free 1; have zf2 := zn.free 2; have zf3 := zn.free 3)) | (go_at_call 74; ((with_reducible refine (HMvw5.out lb (wp.alloc (.cells #[.int .i64 0, .int .i64 0, .slice none 0 0, .slice none 0 0] 30)) (Bp.trans ((belowNew wp (.cells #[.int .i64 0, .int .i64 0, .slice none 0 0, .slice none 0 0] 30)).mono Bp.size)) (hpl.below (belowNew wp (.cells #[.int .i64 0, .int .i64 0, .slice none 0 0, .slice none 0 0] 30)))).mono ?_); rintro e wn ⟨un, rfl, on, bq⟩; have bn := (Bp.trans ((belowNew wp (.cells #[.int .i64 0, .int .i64 0, .slice none 0 0, .slice none 0 0] 30)).mono Bp.size)).trans (bq.mono (Nat.le_trans Bp.size (belowNew wp (.cells #[.int .i64 0, .int .i64 0, .slice none 0 0, .slice none 0 0] 30)).size)); have zn := (Blk.new wp #[.int .i64 0, .int .i64 0, .slice none 0 0, .slice none 0 0] 30).below' bq; obtain ⟨Gx, nx, cx, Ox, mx, dx, rfl, hx1, hx2⟩ := id on; have zc0 := zn.cell (i := 0) rfl; have zc1 := zn.cell (i := 1) rfl; have zc2 := zn.cell (i := 2) rfl; have zc3 := zn.cell (i := 3) rfl; have zf0 := zn.free 0; have zf1 := zn.free 1; have zf2 := zn.free 2; have zf3 := zn.free 3)) | (go_at_call 74; ((with_reducible refine (HMvw5.out lb wp Bp hpl).mono ?_); rintro e wn ⟨un, rfl, on, bq⟩; have bn := Bp.trans (bq.mono Bp.size); obtain ⟨Gx, nx, cx, Ox, mx, dx, rfl, hx1, hx2⟩ := id on)) | (go_at_call 78; ((with_reducible refine (HPlw5.out ((w5.alloc (.cells #[.int .i64 0, .int .i64 0, .slice none 0 0, .slice none 0 0] 30)).drew) DA).mono ?_); rintro e wp ⟨lb, rfl, hpl, bp⟩; have Bp := DA.trans (bp.mono DA.size); have z1 := zA.below' bp)) | (go_at_call 78; ((with_reducible refine (HPlw5.out w5.drew DD).mono ?_); rintro e wp ⟨lb, rfl, hpl, bp⟩; have Bp := DD.trans (bp.mono DD.size))))
        all_goals go_wp2_with fail
        all_goals go_meet
        all_goals first
          | exact ⟨_, Gx, nx, cx, Ox, mx, dx, rfl, Blk.new wn _ _, (on.below (belowNew wn _)).mono Bp.size, bn.size, bn.trans ((belowNew wn _).mono bn.size)⟩
          | (obtain ⟨h1, h2, h3⟩ := fourSet (a := .int .i64 ML.in0) (b := .int .i64 ML.in1) (c := .slice Gx nx cx) (d := .slice Ox mx dx) on zn z1.lt bn DD.size; exact ⟨_, Gx, nx, cx, Ox, mx, dx, rfl, h1, h2.mono (by first | exact Bp.size | exact (Bp.trans ((belowNew wp _).mono Bp.size)).size), DD.size, h3⟩)
          | (obtain ⟨h1, h2, h3⟩ := fourSet (a := .int .i64 ML.in0) (b := .int .i64 ML.in1) (c := .slice Gx nx cx) (d := .slice Ox mx dx) on zn (by simp) bn Bp.size; exact ⟨_, Gx, nx, cx, Ox, mx, dx, rfl, h1, h2.mono (by first | exact Bp.size | exact (Bp.trans ((belowNew wp _).mono Bp.size)).size), Bp.size, h3⟩)
      case rest =>
      obtain ⟨ga, Gga, nga, cga, Oga, mga, dga, rfl, yga, oga, lega, bga⟩ := hcut
      obtain ⟨w6, rfl⟩ : ∃ x, x = wc := ⟨_, rfl⟩
      have B6 := B5.trans (bga.mono B5.size)
      have HPlw6 : Hid (∀ W', Below w6.heap.size w6 W' → Calls Try.prog 78 #[.agg #[.int .i64 D.in0, .int .i64 D.in1, .slice G2 n2 c2, .slice O2 q2 d2], .int .i64 C.in0, .int .i64 t, .int .i64 u] W' fun en w' => ∃ lb, en = .returned (.func (.func 110) #[] lb) ∧ PlaceAt 110 lb (fun i => (wiresTo rw' (C.ins + D.ins + (n : Int)) n2).getD i 0) ND w' ∧ Below W'.heap.size W' w') := fun W' hb => HPl2.out W' (B6.trans (hb.mono B6.size))
      have HMvw6 : Hid (∀ lb W', Below w6.heap.size w6 W' → PlaceAt 110 lb (fun i => (wiresTo rw' (C.ins + D.ins + (n : Int)) n2).getD i 0) ND W' → Calls Try.prog 74 #[.agg #[.int .i64 D.in0, .int .i64 D.in1, .slice G2 n2 c2, .slice O2 q2 d2], .func (.func 110) #[] lb] W' fun en w' => ∃ u, en = .returned u ∧ OwnC w' W'.heap.size u MR ∧ Below W'.heap.size W' w') := fun lb W' hb hpl => HMv2.out lb W' (B6.trans (hb.mono B6.size)) hpl
      have hKw6 : Hid (∀ W', Below w6.heap.size w6 W' → (W'.cell? ⟨w.heap.size, 0, none⟩ = some (.int .i64 C.in0) ∧ W'.cell? ⟨w.heap.size, 1, none⟩ = some (.int .i64 C.in1) ∧ W'.cell? ⟨w.heap.size, 2, none⟩ = some (.slice G n c) ∧ W'.cell? ⟨w.heap.size, 3, none⟩ = some (.slice O q d)) ∧ W'.cell? ⟨w.heap.size + 1, 0, none⟩ = some (.int .i64 D.in0) ∧ W'.cell? ⟨w.heap.size + 1, 1, none⟩ = some (.int .i64 D.in1) ∧ W'.cell? ⟨w.heap.size + 1, 2, none⟩ = some (.slice G2 n2 c2) ∧ W'.cell? ⟨w.heap.size + 1, 3, none⟩ = some (.slice O2 q2 d2)) := fun W' hb => hKw4.out W' (B6.trans (hb.mono B6.size))
      clear HPl2 HMv2 HPlw5 HMvw5 hKw5
      go_wp2_with fail
      go_cut [9] (fun v8 wx => ∃ (g : Nat) (Gx : Option Addr) (nx cx : Nat) (Ox : Option Addr) (mx dx : Nat), v8 = .pointer (some ⟨g, 0, none⟩) ∧ Blk wx g #[.int .i64 MR.in0, .int .i64 MR.in1, .slice Gx nx cx, .slice Ox mx dx] 30 ∧ OwnC wx w6.heap.size (.agg #[.int .i64 MR.in0, .int .i64 MR.in1, .slice Gx nx cx, .slice Ox mx dx]) MR ∧ w6.heap.size ≤ g ∧ Below w6.heap.size w6 wx)
      case first =>
        clear hf hf' hnc hqd hGn hOn hnc2 hqd2 hGn2 hOn2 HQ0 HN2 HQ2 HN0 d3 p3 r3 s3 B3 h3 h3' lt0 lt1 lt2 hG3 hO3 hG3' hO3' r4 Bw q40 n300 n2300 q240 i0 i1 j0 j1 s0 s1 t0 t1 x1 x2 HTh lML lMR HSz HTI HOT lt24 B4 B5 B6
        have DD : Below w6.heap.size w6 w6.drew := (Below.refl _ w6).drew
        have DA : Below w6.heap.size w6 (w6.alloc (.cells #[.int .i64 0, .int .i64 0, .slice none 0 0, .slice none 0 0] 30)).drew := (belowNew w6 (.cells #[.int .i64 0, .int .i64 0, .slice none 0 0, .slice none 0 0] 30)).drew
        have zA : Blk (w6.alloc (.cells #[.int .i64 0, .int .i64 0, .slice none 0 0, .slice none 0 0] 30)).drew w6.heap.size #[.int .i64 0, .int .i64 0, .slice none 0 0, .slice none 0 0] 30 := Blk.new w6 #[.int .i64 0, .int .i64 0, .slice none 0 0, .slice none 0 0] 30
        go_region_held3 (fun w' => (w'.cell? ⟨w.heap.size, 0, none⟩ = some (.int .i64 C.in0) ∧ w'.cell? ⟨w.heap.size, 1, none⟩ = some (.int .i64 C.in1) ∧ w'.cell? ⟨w.heap.size, 2, none⟩ = some (.slice G n c) ∧ w'.cell? ⟨w.heap.size, 3, none⟩ = some (.slice O q d)) ∧ w'.cell? ⟨w.heap.size + 1, 0, none⟩ = some (.int .i64 D.in0) ∧ w'.cell? ⟨w.heap.size + 1, 1, none⟩ = some (.int .i64 D.in1) ∧ w'.cell? ⟨w.heap.size + 1, 2, none⟩ = some (.slice G2 n2 c2) ∧ w'.cell? ⟨w.heap.size + 1, 3, none⟩ = some (.slice O2 q2 d2)) (first | exact hKw6.out _ DD | exact hKw6.out _ DA | exact hKw6.out _ Bp | exact hKw6.out _ (Bp.trans ((belowNew wp _).mono Bp.size)) | exact hKw6.out _ bn | exact hKw6.out _ (bn.trans ((belowNew wn _).mono bn.size)) | exact hKw6.out _ ((((bn.setCell Bp.size _).setCell Bp.size _).setCell Bp.size _).setCell Bp.size _) | exact hKw6.out _ ((((bn.setCell DD.size _).setCell DD.size _).setCell DD.size _).setCell DD.size _) | go_keep) (first | (go_at_call 74; ((with_reducible refine (HMvw6.out lb wp Bp hpl).mono ?_); rintro e wn ⟨un, rfl, on, bq⟩; have bn := Bp.trans (bq.mono Bp.size); have zn := z1.below' bq; obtain ⟨Gx, nx, cx, Ox, mx, dx, rfl, hx1, hx2⟩ := id on; have zc0 := zn.cell (i := 0) rfl; have zc1 := zn.cell (i := 1) rfl; have zc2 := zn.cell (i := 2) rfl; have zc3 := zn.cell (i := 3) rfl; have zf0 := zn.free 0; have zf1 := zn.free 1; have zf2 := zn.free 2; have zf3 := zn.free 3)) | (go_at_call 74; ((with_reducible refine (HMvw6.out lb (wp.alloc (.cells #[.int .i64 0, .int .i64 0, .slice none 0 0, .slice none 0 0] 30)) (Bp.trans ((belowNew wp (.cells #[.int .i64 0, .int .i64 0, .slice none 0 0, .slice none 0 0] 30)).mono Bp.size)) (hpl.below (belowNew wp (.cells #[.int .i64 0, .int .i64 0, .slice none 0 0, .slice none 0 0] 30)))).mono ?_); rintro e wn ⟨un, rfl, on, bq⟩; have bn := (Bp.trans ((belowNew wp (.cells #[.int .i64 0, .int .i64 0, .slice none 0 0, .slice none 0 0] 30)).mono Bp.size)).trans (bq.mono (Nat.le_trans Bp.size (belowNew wp (.cells #[.int .i64 0, .int .i64 0, .slice none 0 0, .slice none 0 0] 30)).size)); have zn := (Blk.new wp #[.int .i64 0, .int .i64 0, .slice none 0 0, .slice none 0 0] 30).below' bq; obtain ⟨Gx, nx, cx, Ox, mx, dx, rfl, hx1, hx2⟩ := id on; have zc0 := zn.cell (i := 0) rfl; have zc1 := zn.cell (i := 1) rfl; have zc2 := zn.cell (i := 2) rfl; have zc3 := zn.cell (i := 3) rfl; have zf0 := zn.free 0; have zf1 := zn.free 1; have zf2 := zn.free 2; have zf3 := zn.free 3)) | (go_at_call 74; ((with_reducible refine (HMvw6.out lb wp Bp hpl).mono ?_); rintro e wn ⟨un, rfl, on, bq⟩; have bn := Bp.trans (bq.mono Bp.size); obtain ⟨Gx, nx, cx, Ox, mx, dx, rfl, hx1, hx2⟩ := id on)) | (go_at_call 78; ((with_reducible refine (HPlw6.out ((w6.alloc (.cells #[.int .i64 0, .int .i64 0, .slice none 0 0, .slice none 0 0] 30)).drew) DA).mono ?_); rintro e wp ⟨lb, rfl, hpl, bp⟩; have Bp := DA.trans (bp.mono DA.size); have z1 := zA.below' bp)) | (go_at_call 78; ((with_reducible refine (HPlw6.out w6.drew DD).mono ?_); rintro e wp ⟨lb, rfl, hpl, bp⟩; have Bp := DD.trans (bp.mono DD.size))))
        all_goals go_wp2_with fail
        all_goals go_meet
        all_goals first
          | exact ⟨_, Gx, nx, cx, Ox, mx, dx, rfl, Blk.new wn _ _, (on.below (belowNew wn _)).mono Bp.size, bn.size, bn.trans ((belowNew wn _).mono bn.size)⟩
          | (obtain ⟨h1, h2, h3⟩ := fourSet (a := .int .i64 MR.in0) (b := .int .i64 MR.in1) (c := .slice Gx nx cx) (d := .slice Ox mx dx) on zn z1.lt bn DD.size; exact ⟨_, Gx, nx, cx, Ox, mx, dx, rfl, h1, h2.mono (by first | exact Bp.size | exact (Bp.trans ((belowNew wp _).mono Bp.size)).size), DD.size, h3⟩)
          | (obtain ⟨h1, h2, h3⟩ := fourSet (a := .int .i64 MR.in0) (b := .int .i64 MR.in1) (c := .slice Gx nx cx) (d := .slice Ox mx dx) on zn (by simp) bn Bp.size; exact ⟨_, Gx, nx, cx, Ox, mx, dx, rfl, h1, h2.mono (by first | exact Bp.size | exact (Bp.trans ((belowNew wp _).mono Bp.size)).size), Bp.size, h3⟩)
      case rest =>
      obtain ⟨gb, Ggb, ngb, cgb, Ogb, mgb, dgb, rfl, ygb, ogb, legb, bgb⟩ := hcut
      obtain ⟨w7, rfl⟩ : ∃ x, x = wc := ⟨_, rfl⟩
      have B7 := B6.trans (bgb.mono B6.size)
      have ya7 := yga.below' bgb
      have oa7 := oga.below bgb
      clear HPlw6 HMvw6 hKw6 hKw4 yga oga
      obtain ⟨Ga', na', ca', Oa', ma', da', ea, oGa, oOa⟩ := oa7
      injection ea with ea
      simp at ea
      obtain ⟨⟨rfl, rfl, rfl⟩, rfl, rfl, rfl⟩ := ea
      obtain ⟨Gb', nb', cb', Ob', mb', db', eb, oGb, oOb⟩ := ogb
      injection eb with eb
      simp at eb
      obtain ⟨⟨rfl, rfl, rfl⟩, rfl, rfl, rfl⟩ := eb
      obtain ⟨a0, a1, a2, a3⟩ := ya7.four
      obtain ⟨b0, b1, b2, b3⟩ := ygb.four
      have ba7 := lega
      have bb7 := legb
      have hna : ML.gs.length = nga := oGa.has.1
      have hnb : MR.gs.length = ngb := oGb.has.1
      have hma : ML.os.length = mga := oOa.has.1
      have hmb : MR.os.length = mgb := oOb.has.1
      have b8 := belowNew w7 (.cells #[.slice Gga nga cga, .slice Ggb ngb cgb] 28)
      have y8 := Blk.new w7 #[.slice Gga nga cga, .slice Ggb ngb cgb] 28
      obtain ⟨w8, hw8⟩ : ∃ W, W = w7.alloc (.cells #[.slice Gga nga cga, .slice Ggb ngb cgb] 28) := ⟨_, rfl⟩
      rw [← hw8] at b8 y8
      have B8 := B7.trans (b8.mono B7.size)
      have HJ := Lib.hid (concat2G_any w7.heap.size Gga nga cga ML.gs Ggb ngb cgb MR.gs w8 (y8.cell (i := 0) rfl) (y8.cell (i := 1) rfl) y8.lt (oGa.has.below b8) (by omega) oGa.nilOk (oGb.has.below b8) (by omega) oGb.nilOk)
      go_wp2_with fail
      rw [← hw8]
      clear hw8 a0 a1 a2 a3 b0 b1 b2 b3
      refine (HJ.out).mono ?_
      rintro e w9 ⟨R9, c9, rfl, o9, b9⟩
      have B9 := B8.trans (b9.mono B8.size)
      have ya9 := (ya7.below' b8).below' b9
      have yb9 := (ygb.below' b8).below' b9
      have oOa9 := (oOa.below b8).below b9
      have oOb9 := (oOb.below b8).below b9
      obtain ⟨a0, a1, a2, a3⟩ := ya9.four
      obtain ⟨b0, b1, b2, b3⟩ := yb9.four
      have b10 := belowNew w9 (.cells #[.slice Oga mga dga, .slice Ogb mgb dgb] 23)
      have y10 := Blk.new w9 #[.slice Oga mga dga, .slice Ogb mgb dgb] 23
      obtain ⟨w10, hw10⟩ : ∃ W, W = w9.alloc (.cells #[.slice Oga mga dga, .slice Ogb mgb dgb] 23) := ⟨_, rfl⟩
      rw [← hw10] at b10 y10
      have B10 := B9.trans (b10.mono B9.size)
      have HK := Lib.hid (concat2_any w9.heap.size Oga mga dga ML.os Ogb mgb dgb MR.os w10 (y10.cell (i := 0) rfl) (y10.cell (i := 1) rfl) y10.lt (oOa9.has.below b10) (by omega) (own_nilOk oOa9) (oOb9.has.below b10) (by omega) (own_nilOk oOb9))
      clear HJ y8 oGa oGb oOa oOb oOa9 oOb9 ya7 ygb ya9 yb9
      go_wp2_with fail
      rw [← hw10]
      clear hw10 a0 a1 a2 a3 b0 b1 b2 b3
      refine (HK.out).mono ?_
      rintro e w11 ⟨R11, c11, rfl, o11, b11⟩
      have B11 := B10.trans (b11.mono B10.size)
      have o9' := ((o9.below b10).below b11).mono B8.size
      have o11' := o11.mono B10.size
      have HV := Lib.hid (HTI.out w4.heap.size _ w11 (HOT.out R9 (nga + ngb) c9 R11 (mga + mgb) c11 w11 w4.heap.size o9' o11'))
      clear HK y10 o9 o11 o9' o11' HTI HOT
      go_wp2_with fail
      refine (HV.out).mono ?_
      rintro e w12 ⟨uv, rfl, ou, b12⟩
      have B12 := B11.trans (b12.mono B11.size)
      obtain ⟨Gx, nx, cx, Ox, mx, dx, rfl, hx1, hx2⟩ := id ou
      have r12 := r4.below' B12
      obtain ⟨z0, z1, z2, z3⟩ := r12.four
      have zf0 := r12.free 0
      have zf1 := r12.free 1
      have zf2 := r12.free 2
      have zf3 := r12.free 3
      go_wp2_with fail
      have r13 := (((r12.set 0 (.int .i64 RC.in0)).set 1 (.int .i64 RC.in1)).set 2 (.slice Gx nx cx)).set 3 (.slice Ox mx dx)
      obtain ⟨e0, e1, e2, e3⟩ := (show Blk _ (w.heap.size + 1 + 1) #[.int .i64 RC.in0, .int .i64 RC.in1, .slice Gx nx cx, .slice Ox mx dx] 30 from r13).four
      have g13 := grown_setCell (grown_setCell (grown_setCell (grown_setCell (World.grownBy.refl w12 (some (w.heap.size + 1 + 1))) 0 (.int .i64 RC.in0)) 1 (.int .i64 RC.in1)) 2 (.slice Gx nx cx)) 3 (.slice Ox mx dx)
      have Bz : Below w.heap.size w w12 := Bw.trans (B12.mono Bw.size)
      refine bodyPost_ret (v := .tuple #[.agg #[.int .i64 RC.in0, .int .i64 RC.in1, .slice Gx nx cx, .slice Ox mx dx], .bool rb]) (by simp [results, Try.results36, go_sem, e0, e1, e2, e3]) rfl ⟨_, rfl, (ou.kept g13 lt24).mono (by omega), HSz.out.1, HSz.out.2, ?_⟩
      exact (((Bz.setCell (by show w.heap.size ≤ w.heap.size + 1 + 1; omega) _).setCell (by show w.heap.size ≤ w.heap.size + 1 + 1; omega) _).setCell (by show w.heap.size ≤ w.heap.size + 1 + 1; omega) _).setCell (by show w.heap.size ≤ w.heap.size + 1 + 1; omega) _
    · have hdec : decide (gd C = true ∧ gd D = true) = false := decide_eq_false hok
      have e := HM.out
      rw [m_BesideCircuit, if_neg hok] at e
      obtain ⟨rfl, rfl⟩ := Prod.mk.inj e
      obtain ⟨z0, z1, z2, z3⟩ := r4.four
      have f0 := r4.free 0
      have f1 := r4.free 1
      have f2 := r4.free 2
      have f3 := r4.free 3
      rw [hdec]
      clear hdec hok e HM
      go_wp2_with fail
      have r5 := (((r4.set 0 (.int .i64 0)).set 1 (.int .i64 0)).set 2 (.slice none 0 0)).set 3 (.slice none 0 0)
      obtain ⟨e0, e1, e2, e3⟩ := (show Blk _ (w.heap.size + 1 + 1) #[.int .i64 0, .int .i64 0, .slice none 0 0, .slice none 0 0] 30 from r5).four
      refine bodyPost_ret (v := .tuple #[.agg #[.int .i64 0, .int .i64 0, .slice none 0 0, .slice none 0 0], .bool false]) (by simp [results, Try.results36, go_sem, e0, e1, e2, e3]) rfl ⟨_, rfl, zeroOwnC _ _, ?_⟩
      exact (((Bw.setCell (by show w.heap.size ≤ w.heap.size + 1 + 1; omega) _).setCell (by show w.heap.size ≤ w.heap.size + 1 + 1; omega) _).setCell (by show w.heap.size ≤ w.heap.size + 1 + 1; omega) _).setCell (by show w.heap.size ≤ w.heap.size + 1 + 1; omega) _

end Go.Proofs.Ytaohgbkhmgfnhaa
