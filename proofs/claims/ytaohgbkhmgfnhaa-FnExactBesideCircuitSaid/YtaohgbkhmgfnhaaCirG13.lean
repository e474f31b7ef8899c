/- The model's circuit after another. For every two circuits of at most 1048576 gates and outs. -/
import Derived.Test.YtaohgbkhmgfnhaaCirG11
import Derived.Test.YtaohgbkhmgfnhaaCirG12
import Derived.Test.YtaohgbkhmgfnhaaCirG2
import Derived.Test.YtaohgbkhmgfnhaaCirA2
import Derived.Deep.RegionLaw
import Derived.Deep.RegionWith
namespace Go.Proofs.Ytaohgbkhmgfnhaa
open Go.RowKit
set_option maxRecDepth 100000

/-- A step that its guard passes over. -/
theorem skipStep {o : Oper} {ys : Nat → Option Bool} {X E : Prop} (h : Region.wanted o ys = false) (hE : E) : if Region.wanted o ys = true then X else E := by
  rw [if_neg (by rw [h]; exact Bool.false_ne_true)]
  exact hE

set_option maxRecDepth 100000 in
set_option maxHeartbeats 8000000 in
theorem spec_ThenCircuit (v : Value) (C : Ci) (v' : Value) (D : Ci) (RC : Ci) (rb : Bool) (w : World) (h : HasC w v C) (hf : Fit C) (h' : HasC w v' D) (hf' : Fit D) (hm : m_ThenCircuit C D = (RC, rb)) :
    Calls Try.prog 32 #[v, v'] w fun e w' => ∃ u, e = .returned (.tuple #[u, .bool rb]) ∧ OwnC w' w.heap.size u RC ∧ RC.gs.length ≤ 1048576 ∧ RC.os.length ≤ 1048576 ∧ Below w.heap.size w w' := by
  obtain ⟨G, n, c, O, q, d, rfl, hGs, hO, hnc, hqd, hGn, hOn⟩ := id h
  obtain ⟨G2, n2, c2, O2, q2, d2, rfl, hGs2, hO2, hnc2, hqd2, hGn2, hOn2⟩ := id h'
  have HM := Lib.hid hm
  have HQ0 : Hid (C.os.length = q) := hO.1
  have HN2 : Hid (D.gs.length = n2) := hGs2.1
  have HQ2 : Hid (D.os.length = q2) := hO2.1
  have HN0 : Hid (C.gs.length = n) := hGs.1
  have b1 := belowNew w (.cells #[.int .i64 C.in0, .int .i64 C.in1, .slice G n c, .slice O q d] 30)
  have p1 := Blk.new w #[.int .i64 C.in0, .int .i64 C.in1, .slice G n c, .slice O q d] 30
  obtain ⟨W1, hW1⟩ : ∃ W, W = w.alloc (.cells #[.int .i64 C.in0, .int .i64 C.in1, .slice G n c, .slice O q d] 30) := ⟨_, rfl⟩
  have s1 : W1.heap.size = w.heap.size + 1 := by rw [hW1]; simp
  rw [← hW1] at b1 p1
  have b2 := belowNew W1 (.cells #[.int .i64 D.in0, .int .i64 D.in1, .slice G2 n2 c2, .slice O2 q2 d2] 30)
  have d2' := Blk.newAt (k := w.heap.size + 1) W1 #[.int .i64 D.in0, .int .i64 D.in1, .slice G2 n2 c2, .slice O2 q2 d2] 30 s1.symm
  have p2 := p1.below' b2
  obtain ⟨W2, hW2⟩ : ∃ W, W = W1.alloc (.cells #[.int .i64 D.in0, .int .i64 D.in1, .slice G2 n2 c2, .slice O2 q2 d2] 30) := ⟨_, rfl⟩
  have s2 : W2.heap.size = w.heap.size + 1 + 1 := by rw [hW2]; simp [s1]
  rw [← hW2] at b2 d2' p2
  have b3 := belowNew W2 (.cells #[.int .i64 0, .int .i64 0, .slice none 0 0, .slice none 0 0] 30)
  have r3 := Blk.newAt (k := w.heap.size + 1 + 1) W2 #[.int .i64 0, .int .i64 0, .slice none 0 0, .slice none 0 0] 30 s2.symm
  have p3 := p2.below' b3
  have d3 := d2'.below' b3
  obtain ⟨W3, hW3⟩ : ∃ W, W = W2.alloc (.cells #[.int .i64 0, .int .i64 0, .slice none 0 0, .slice none 0 0] 30) := ⟨_, rfl⟩
  have s3 : W3.heap.size = w.heap.size + 1 + 1 + 1 := by rw [hW3]; simp [s2]
  rw [← hW3] at b3 r3 p3 d3
  have B3 := (b1.trans (b2.mono b1.size)).trans (b3.mono (Nat.le_trans b1.size b2.size))
  have h3 := h.below B3
  have h3' := h'.below B3
  have lt0 : w.heap.size < W3.heap.size := by omega
  have lt1 : w.heap.size + 1 < W3.heap.size := by omega
  have lt2 : w.heap.size + 1 + 1 < W3.heap.size := by omega
  have hG3 := hGs.below B3
  have hO3 := hO.below B3
  have hG3' := hGs2.below B3
  have hO3' := hO2.below B3
  clear h h' hm b1 p1 b2 d2' p2 b3 s1 s2 hGs hO hGs2 hO2
  have hK : Hid (∀ W', Below W3.heap.size W3 W' → (W'.cell? ⟨w.heap.size, 0, none⟩ = some (.int .i64 C.in0) ∧ W'.cell? ⟨w.heap.size, 1, none⟩ = some (.int .i64 C.in1) ∧ W'.cell? ⟨w.heap.size, 2, none⟩ = some (.slice G n c) ∧ W'.cell? ⟨w.heap.size, 3, none⟩ = some (.slice O q d)) ∧ W'.cell? ⟨w.heap.size + 1, 0, none⟩ = some (.int .i64 D.in0) ∧ W'.cell? ⟨w.heap.size + 1, 1, none⟩ = some (.int .i64 D.in1) ∧ W'.cell? ⟨w.heap.size + 1, 2, none⟩ = some (.slice G2 n2 c2) ∧ W'.cell? ⟨w.heap.size + 1, 3, none⟩ = some (.slice O2 q2 d2)) := fun W' hb => ⟨(p3.below hb lt0).four, (d3.below hb lt1).four⟩
  have D0 : Below W3.heap.size W3 W3.drew := (Below.refl _ W3).drew
  have HGc := Lib.hid (ciGood_any _ C (gd C) W3.drew (h3.below D0) (fitLen hf) rfl)
  have HGd : Hid (∀ W', Below W3.heap.size W3 W' → Calls Try.prog 41 #[.agg #[.int .i64 D.in0, .int .i64 D.in1, .slice G2 n2 c2, .slice O2 q2 d2]] W' fun e w' => e = .returned (.bool (gd D)) ∧ Below W'.heap.size W' w') := fun W' hb => ciGood_any _ D (gd D) W' (h3'.below hb) (fitLen hf') rfl
  go_enter Try.func32, Try.ntmps32
  go_wp2_with fail
  rw [← hW1, ← hW2, ← hW3]
  clear hW1 hW2 hW3
  go_cut [23] (fun vq wx => vq = .bool (!decide (gd C = true ∧ gd D = true ∧ (C.os.length : Int) = D.ins)) ∧ Below W3.heap.size W3 wx)
  case first =>
    cases eg : gd C with
    | false =>
      rw [eg] at HGc
      obtain ⟨⟨i0, i1, i2, i3⟩, j0, j1, j2, j3⟩ := hK.out _ D0
      first | (go_region_with (first | (go_at_call 41; refine (HGc.out).mono ?_; rintro e w4 ⟨rfl, b4⟩; have Bq := D0.trans (b4.mono D0.size); obtain ⟨⟨a0, a1, a2, a3⟩, x0, x1, x2, x3⟩ := hK.out _ Bq))) | fail
      all_goals go_wp2_with fail
      all_goals go_meet
      all_goals exact ⟨by simp [eg], Bq⟩
    | true =>
      rw [eg] at HGc
      cases ed : gd D with
      | false =>
        rw [ed] at HGd
        obtain ⟨⟨i0, i1, i2, i3⟩, j0, j1, j2, j3⟩ := hK.out _ D0
        first | (go_region_with (first | (go_at_call 41; refine (HGd.out w4 Bq).mono ?_; rintro e w5 ⟨rfl, b5⟩; have Br := Bq.trans (b5.mono Bq.size); obtain ⟨⟨e0, e1, e2, e3⟩, y0, y1, y2, y3⟩ := hK.out _ Br) | (go_at_call 41; refine (HGc.out).mono ?_; rintro e w4 ⟨rfl, b4⟩; have Bq := D0.trans (b4.mono D0.size); obtain ⟨⟨a0, a1, a2, a3⟩, x0, x1, x2, x3⟩ := hK.out _ Bq))) | fail
        all_goals go_wp2_with fail
        all_goals go_meet
        all_goals exact ⟨by simp [ed], Br⟩
      | true =>
        rw [ed] at HGd
        have gD := gd_yes ed
        have HIn : Hid (∀ W', Below W3.heap.size W3 W' → Calls Try.prog 68 #[.agg #[.int .i64 D.in0, .int .i64 D.in1, .slice G2 n2 c2, .slice O2 q2 d2]] W' fun e w' => e = .returned (.int .i64 D.ins) ∧ Below W'.heap.size W' w') := fun W' hb => ciInputs_any _ D W' (h3'.below hb) gD.a0 (by have := gD.a1; omega) gD.b0 (by have := gD.b1; omega)
        have hql := HQ0.out
        obtain ⟨bq, hbq⟩ : ∃ bq : Bool, ((q : Int) != D.ins) = bq := ⟨_, rfl⟩
        have HQ : Hid ((!decide ((q : Int) = D.ins)) = bq) := by show _ = _; rw [← hbq]; rfl
        have HQL := Lib.hid hql
        clear hql gD
        first | (go_region_held3 (fun w' => (w'.cell? ⟨w.heap.size, 0, none⟩ = some (.int .i64 C.in0) ∧ w'.cell? ⟨w.heap.size, 1, none⟩ = some (.int .i64 C.in1) ∧ w'.cell? ⟨w.heap.size, 2, none⟩ = some (.slice G n c) ∧ w'.cell? ⟨w.heap.size, 3, none⟩ = some (.slice O q d)) ∧ w'.cell? ⟨w.heap.size + 1, 0, none⟩ = some (.int .i64 D.in0) ∧ w'.cell? ⟨w.heap.size + 1, 1, none⟩ = some (.int .i64 D.in1) ∧ w'.cell? ⟨w.heap.size + 1, 2, none⟩ = some (.slice G2 n2 c2) ∧ w'.cell? ⟨w.heap.size + 1, 3, none⟩ = some (.slice O2 q2 d2)) (first | exact hK.out _ D0 | exact hK.out _ Bq | exact hK.out _ Br | exact hK.out _ Bs | go_keep) (first | (go_at_call 68; refine (HIn.out w5 Br).mono ?_; rintro e w6 ⟨rfl, b6⟩; have Bs := Br.trans (b6.mono Br.size)) | (go_at_call 41; refine (HGd.out w4 Bq).mono ?_; rintro e w5 ⟨rfl, b5⟩; have Br := Bq.trans (b5.mono Bq.size)) | (go_at_call 41; refine (HGc.out).mono ?_; rintro e w4 ⟨rfl, b4⟩; have Bq := D0.trans (b4.mono D0.size)))) | fail
        go_wp2_with fail
        go_meet
        exact ⟨by rw [← HQ.out, HQL.out]; simp [eg, ed], Bs⟩
  case rest =>
    obtain ⟨rfl, B4⟩ := hcut
    obtain ⟨w4, rfl⟩ : ∃ x, x = wc := ⟨_, rfl⟩
    have r4 := r3.below B4 lt2
    have Bw := B3.trans (B4.mono B3.size)
    by_cases hok : gd C = true ∧ gd D = true ∧ (C.os.length : Int) = D.ins
    · have hdec : decide (gd C = true ∧ gd D = true ∧ (C.os.length : Int) = D.ins) = true := decide_eq_true hok
      have e := HM.out
      rw [m_ThenCircuit, if_pos hok] at e
      have HRC := Lib.hid e
      obtain ⟨gc, gd', hq⟩ := hok
      have gC := gd_yes gc
      have gD := gd_yes gd'
      have q40 : q ≤ 40 := by have := gC.o; have := HQ0.out; omega
      have n300 : n ≤ 300 := by have := gC.g; have := HN0.out; omega
      have n2300 : n2 ≤ 300 := by have := gD.g; have := HN2.out; omega
      have q240 : q2 ≤ 40 := by have := gD.o; have := HQ2.out; omega
      have hqi : (q : Int) = D.ins := by rw [← hq, HQ0.out]
      have hcw : 0 ≤ C.wires ∧ C.wires ≤ 1000 := by have := gC.a0; have := gC.a1; have := gC.b0; have := gC.b1; have := HN0.out; unfold Ci.wires; omega
      have HWi : Hid (∀ W', Below W3.heap.size W3 W' → Calls Try.prog 70 #[.agg #[.int .i64 C.in0, .int .i64 C.in1, .slice G n c, .slice O q d]] W' fun e w' => e = .returned (.int .i64 C.wires) ∧ Below W'.heap.size W' w') := fun W' hb => ciWires_any _ C W' (h3.below hb) gC.a0 (by have := gC.a1; omega) gC.b0 (by have := gC.b1; omega) hf.1
      have HMv : Hid (∀ W', Below W3.heap.size W3 W' → Calls Try.prog 69 #[.slice G2 n2 c2, .slice O q d, .int .i64 C.wires] W' fun e w' => ∃ R c1 R2 c2, e = .returned (.tuple #[.slice R n2 c1, .slice R2 (q + n2) c2]) ∧ OwnG w' W'.heap.size R n2 c1 (movTo D.gs C.os C.wires n2) ∧ Own w' W'.heap.size R2 (q + n2) c2 (wiresTo C.os C.wires n2) ∧ Below W'.heap.size W' w') := fun W' hb => ciMoved_any G2 n2 c2 D.gs O q d C.os C.wires W' (hG3'.below hb) n2300 (hO3.below hb) (by omega) hOn (fun k hk => by rw [hqi]; exact gD.gate k (by rw [HN2.out]; exact hk)) hcw.1 (by omega)
      have HIdx : Hid (∀ k, k < D.os.length → 0 ≤ D.os.getD k 0 ∧ D.os.getD k 0 < ((q + n2 : Nat) : Int)) := fun k hk => by
        have h5 := gD.out k hk
        have e5 : D.wires = D.ins + (D.gs.length : Int) := rfl
        have := HN2.out
        push_cast
        omega
      have D4 : Below W3.heap.size W3 w4.drew := B4.trans ((Below.refl _ w4).drew.mono B4.size)
      have D4' : Below w4.heap.size w4 w4.drew := (Below.refl _ w4).drew
      rw [hdec]
      clear hdec e gc gd' hq hqi hcw HM
      go_wp2_with fail
      first | (go_region_held3 (fun w' => (w'.cell? ⟨w.heap.size, 0, none⟩ = some (.int .i64 C.in0) ∧ w'.cell? ⟨w.heap.size, 1, none⟩ = some (.int .i64 C.in1) ∧ w'.cell? ⟨w.heap.size, 2, none⟩ = some (.slice G n c) ∧ w'.cell? ⟨w.heap.size, 3, none⟩ = some (.slice O q d)) ∧ w'.cell? ⟨w.heap.size + 1, 0, none⟩ = some (.int .i64 D.in0) ∧ w'.cell? ⟨w.heap.size + 1, 1, none⟩ = some (.int .i64 D.in1) ∧ w'.cell? ⟨w.heap.size + 1, 2, none⟩ = some (.slice G2 n2 c2) ∧ w'.cell? ⟨w.heap.size + 1, 3, none⟩ = some (.slice O2 q2 d2)) (first | exact hK.out _ D4 | exact hK.out _ Bq | exact hK.out _ Br | go_keep) (first | (go_at_call 69; refine (HMv.out w5 Bq).mono ?_; rintro e w6 ⟨Rm, cm, Rw, cw, rfl, oM, oW, b6⟩; have Br := Bq.trans (b6.mono Bq.size)) | (go_at_call 70; refine (HWi.out _ D4).mono ?_; rintro e w5 ⟨rfl, b5⟩; have Bq := D4.trans (b5.mono D4.size)))) | fail
      clear b5 b6 Bq
      obtain ⟨T, hT⟩ : ∃ T : Ci, T = ⟨C.in0, C.in1, C.gs ++ movTo D.gs C.os C.wires n2, pickL (wiresTo C.os C.wires n2) D.os⟩ := ⟨_, rfl⟩
      have HTh : Hid (ifG T = (RC, rb)) := by
        have e : thenC C D = T := by rw [hT, thenC, HN2.out]
        rw [← e]
        exact HRC.out
      have Tg : T.gs.length ≤ 1048576 ∧ T.os.length ≤ 1048576 := by
        have := HN0.out
        have := HQ2.out
        rw [hT]
        constructor
        · show (C.gs ++ movTo D.gs C.os C.wires n2).length ≤ 1048576
          rw [List.length_append, movTo_length]; omega
        · show (pickL (wiresTo C.os C.wires n2) D.os).length ≤ 1048576
          simp only [pickL, List.length_map]; omega
      have hsz : RC.gs.length ≤ 1048576 ∧ RC.os.length ≤ 1048576 := by
        have e := HTh.out
        unfold ifG at e
        split at e
        · obtain ⟨rfl, _⟩ := Prod.mk.inj e; exact Tg
        · obtain ⟨rfl, _⟩ := Prod.mk.inj e; exact ⟨by simp, by simp⟩
      have HSz := Lib.hid hsz
      have HTI : Hid (∀ B v W', OwnC W' B v T → Calls Try.prog 71 #[v] W' fun e w' => ∃ u, e = .returned (.tuple #[u, .bool rb]) ∧ OwnC w' B u RC ∧ Below W'.heap.size W' w') := fun B v W' ho => (ciIf_any v T B W' ho Tg).mono (by rintro e w' ⟨u, rfl, h1, h2⟩; rw [HTh.out] at h1 ⊢; exact ⟨u, rfl, h1, h2⟩)
      have HOT : Hid (∀ R cR P cP W' B, OwnG W' B R (n + n2) cR (C.gs ++ movTo D.gs C.os C.wires n2) → Own W' B P q2 cP (pickL (wiresTo C.os C.wires n2) D.os) → OwnC W' B (.agg #[.int .i64 C.in0, .int .i64 C.in1, .slice R (n + n2) cR, .slice P q2 cP]) T) := fun R cR P cP W' B h1 h2 => by rw [hT]; exact ⟨R, n + n2, cR, P, q2, cP, rfl, h1, h2⟩
      have D6 : Below w6.heap.size w6 w6.drew := (Below.refl _ w6).drew
      have L6 : Below w6.heap.size w6 (w6.alloc (.cells #[] 51)).drew := (belowNew w6 (.cells #[] 51)).drew
      have hK6 : Hid (∀ W', Below w6.heap.size w6 W' → (W'.cell? ⟨w.heap.size, 0, none⟩ = some (.int .i64 C.in0) ∧ W'.cell? ⟨w.heap.size, 1, none⟩ = some (.int .i64 C.in1) ∧ W'.cell? ⟨w.heap.size, 2, none⟩ = some (.slice G n c) ∧ W'.cell? ⟨w.heap.size, 3, none⟩ = some (.slice O q d)) ∧ W'.cell? ⟨w.heap.size + 1, 0, none⟩ = some (.int .i64 D.in0) ∧ W'.cell? ⟨w.heap.size + 1, 1, none⟩ = some (.int .i64 D.in1) ∧ W'.cell? ⟨w.heap.size + 1, 2, none⟩ = some (.slice G2 n2 c2) ∧ W'.cell? ⟨w.heap.size + 1, 3, none⟩ = some (.slice O2 q2 d2)) := fun W' hb => hK.out W' (Br.trans (hb.mono Br.size))
      have oMh := oM.has
      have oMn := oM.nilOk
      have oWh := oW.has
      have lt26 : w.heap.size + 1 + 1 < w6.heap.size := Nat.lt_of_lt_of_le lt2 Br.size
      have hR9 : Hid (∀ W', Below w6.heap.size w6 W' → Blk W' (w.heap.size + 1 + 1) #[.int .i64 0, .int .i64 0, .slice none 0 0, .slice none 0 0] 30) := fun W' hb => r3.below (Br.trans (hb.mono Br.size)) lt2
      have hS9 : Hid (∀ W' a b c' d', Below w6.heap.size w6 W' → (((((W'.setCell ⟨w.heap.size + 1 + 1, 0, none⟩ a).setCell ⟨w.heap.size + 1 + 1, 1, none⟩ b).setCell ⟨w.heap.size + 1 + 1, 2, none⟩ c').setCell ⟨w.heap.size + 1 + 1, 3, none⟩ d').cell? ⟨w.heap.size, 0, none⟩ = some (.int .i64 C.in0) ∧ ((((W'.setCell ⟨w.heap.size + 1 + 1, 0, none⟩ a).setCell ⟨w.heap.size + 1 + 1, 1, none⟩ b).setCell ⟨w.heap.size + 1 + 1, 2, none⟩ c').setCell ⟨w.heap.size + 1 + 1, 3, none⟩ d').cell? ⟨w.heap.size, 1, none⟩ = some (.int .i64 C.in1) ∧ ((((W'.setCell ⟨w.heap.size + 1 + 1, 0, none⟩ a).setCell ⟨w.heap.size + 1 + 1, 1, none⟩ b).setCell ⟨w.heap.size + 1 + 1, 2, none⟩ c').setCell ⟨w.heap.size + 1 + 1, 3, none⟩ d').cell? ⟨w.heap.size, 2, none⟩ = some (.slice G n c) ∧ ((((W'.setCell ⟨w.heap.size + 1 + 1, 0, none⟩ a).setCell ⟨w.heap.size + 1 + 1, 1, none⟩ b).setCell ⟨w.heap.size + 1 + 1, 2, none⟩ c').setCell ⟨w.heap.size + 1 + 1, 3, none⟩ d').cell? ⟨w.heap.size, 3, none⟩ = some (.slice O q d)) ∧ ((((W'.setCell ⟨w.heap.size + 1 + 1, 0, none⟩ a).setCell ⟨w.heap.size + 1 + 1, 1, none⟩ b).setCell ⟨w.heap.size + 1 + 1, 2, none⟩ c').setCell ⟨w.heap.size + 1 + 1, 3, none⟩ d').cell? ⟨w.heap.size + 1, 0, none⟩ = some (.int .i64 D.in0) ∧ ((((W'.setCell ⟨w.heap.size + 1 + 1, 0, none⟩ a).setCell ⟨w.heap.size + 1 + 1, 1, none⟩ b).setCell ⟨w.heap.size + 1 + 1, 2, none⟩ c').setCell ⟨w.heap.size + 1 + 1, 3, none⟩ d').cell? ⟨w.heap.size + 1, 1, none⟩ = some (.int .i64 D.in1) ∧ ((((W'.setCell ⟨w.heap.size + 1 + 1, 0, none⟩ a).setCell ⟨w.heap.size + 1 + 1, 1, none⟩ b).setCell ⟨w.heap.size + 1 + 1, 2, none⟩ c').setCell ⟨w.heap.size + 1 + 1, 3, none⟩ d').cell? ⟨w.heap.size + 1, 2, none⟩ = some (.slice G2 n2 c2) ∧ ((((W'.setCell ⟨w.heap.size + 1 + 1, 0, none⟩ a).setCell ⟨w.heap.size + 1 + 1, 1, none⟩ b).setCell ⟨w.heap.size + 1 + 1, 2, none⟩ c').setCell ⟨w.heap.size + 1 + 1, 3, none⟩ d').cell? ⟨w.heap.size + 1, 3, none⟩ = some (.slice O2 q2 d2)) := fun W' a b c' d' hb =>
        ⟨(((((p3.below (Br.trans (hb.mono Br.size)) lt0).other (b := w.heap.size + 1 + 1) (by omega) 0 a).other (b := w.heap.size + 1 + 1) (by omega) 1 b).other (b := w.heap.size + 1 + 1) (by omega) 2 c').other (b := w.heap.size + 1 + 1) (by omega) 3 d').four, (((((d3.below (Br.trans (hb.mono Br.size)) lt1).other (b := w.heap.size + 1 + 1) (by omega) 0 a).other (b := w.heap.size + 1 + 1) (by omega) 1 b).other (b := w.heap.size + 1 + 1) (by omega) 2 c').other (b := w.heap.size + 1 + 1) (by omega) 3 d').four⟩
      clear hT hsz hK HGc HGd HWi HMv D4 D4' r4 oM oW HRC
      go_wp2_with fail
      first | (go_region_held3 (fun w' => (w'.cell? ⟨w.heap.size, 0, none⟩ = some (.int .i64 C.in0) ∧ w'.cell? ⟨w.heap.size, 1, none⟩ = some (.int .i64 C.in1) ∧ w'.cell? ⟨w.heap.size, 2, none⟩ = some (.slice G n c) ∧ w'.cell? ⟨w.heap.size, 3, none⟩ = some (.slice O q d)) ∧ w'.cell? ⟨w.heap.size + 1, 0, none⟩ = some (.int .i64 D.in0) ∧ w'.cell? ⟨w.heap.size + 1, 1, none⟩ = some (.int .i64 D.in1) ∧ w'.cell? ⟨w.heap.size + 1, 2, none⟩ = some (.slice G2 n2 c2) ∧ w'.cell? ⟨w.heap.size + 1, 3, none⟩ = some (.slice O2 q2 d2)) (first | exact hK6.out _ D6 | exact hK6.out _ L6 | exact hK6.out _ Ba | exact hK6.out _ Bb | exact hK6.out _ Bp | exact hK6.out _ B9 | exact hS9.out _ _ _ _ _ B9 | go_keep) (first
        | (refine stepGates wa rfl (.tmp 42) (.tmp 43) rfl w6.heap.size Ra Rm n ca n2 cm C.gs (movTo D.gs C.os C.wires n2) (by simp [Act.eval]) oa (by simp [Act.eval]) oMn (oMh.below Ba) (by omega) (by omega) Ba.size ?_; intro Rb cb wb ob bb; have Bb := Ba.trans bb)
        | (refine stepGates (w6.alloc (.cells #[] 51)).drew rfl (.tmp 39) (.tmp 41) rfl w6.heap.size (some ⟨w6.heap.size, 0, none⟩) G 0 0 n c [] C.gs (by simp [Act.eval]) (litG w6) (by simp [Act.eval]) hGn (hG3.below (Br.trans (L6.mono Br.size))) (by omega) (by omega) (belowNew w6 _).size ?_; intro Ra ca wa oa ba; rw [Nat.zero_add, List.nil_append] at oa; rw [Nat.zero_add]; have Ba := L6.trans ba)
        | (go_at_call 71; refine (HTI.out w6.heap.size _ wp (HOT.out Rb cb Rp cp wp w6.heap.size (ob.below bp) (op.mono Bb.size))).mono ?_; rintro e w9 ⟨u, rfl, ou, b9⟩; have B9 := Bp.trans (b9.mono Bp.size); obtain ⟨Gx, nx, cx, Ox, mx, dx, rfl, hx1, hx2⟩ := id ou; obtain ⟨z0, z1, z2, z3⟩ := (hR9.out _ B9).four; have zf0 := (hR9.out _ B9).free 0; have zf1 := (hR9.out _ B9).free 1; have zf2 := (hR9.out _ B9).free 2; have zf3 := (hR9.out _ B9).free 3)
        | (go_at_call 72; refine (ciPick_any Rw (q + n2) cw _ O2 q2 d2 D.os wb (oWh.below Bb) (by omega) (hO3'.below (Br.trans (Bb.mono Br.size))) (by omega) HIdx.out).mono ?_; rintro e wp ⟨Rp, cp, rfl, op, bp⟩; have Bp := Bb.trans (bp.mono Bb.size)))) | fail
      go_wp2_with fail
      have r10 := ((((hR9.out _ B9).set 0 (.int .i64 RC.in0)).set 1 (.int .i64 RC.in1)).set 2 (.slice Gx nx cx)).set 3 (.slice Ox mx dx)
      obtain ⟨e0, e1, e2, e3⟩ := (show Blk _ (w.heap.size + 1 + 1) #[.int .i64 RC.in0, .int .i64 RC.in1, .slice Gx nx cx, .slice Ox mx dx] 30 from r10).four
      have g10 := grown_setCell (grown_setCell (grown_setCell (grown_setCell (World.grownBy.refl w9 (some (w.heap.size + 1 + 1))) 0 (.int .i64 RC.in0)) 1 (.int .i64 RC.in1)) 2 (.slice Gx nx cx)) 3 (.slice Ox mx dx)
      have Bz : Below w.heap.size w w9 := B3.trans ((Br.trans (B9.mono Br.size)).mono B3.size)
      refine bodyPost_ret (v := .tuple #[.agg #[.int .i64 RC.in0, .int .i64 RC.in1, .slice Gx nx cx, .slice Ox mx dx], .bool rb]) (by simp [results, Try.results32, go_sem, e0, e1, e2, e3]) rfl ⟨_, rfl, (ou.kept g10 lt26).mono (by omega), HSz.out.1, HSz.out.2, ?_⟩
      exact (((Bz.setCell (by show w.heap.size ≤ w.heap.size + 1 + 1; omega) _).setCell (by show w.heap.size ≤ w.heap.size + 1 + 1; omega) _).setCell (by show w.heap.size ≤ w.heap.size + 1 + 1; omega) _).setCell (by show w.heap.size ≤ w.heap.size + 1 + 1; omega) _
    · have hdec : decide (gd C = true ∧ gd D = true ∧ (C.os.length : Int) = D.ins) = false := decide_eq_false hok
      have e := HM.out
      rw [m_ThenCircuit, if_neg hok] at e
      obtain ⟨rfl, rfl⟩ := Prod.mk.inj e
      obtain ⟨c0, c1, c2', c3⟩ := r4.four
      have f0 := r4.free 0
      have f1 := r4.free 1
      have f2 := r4.free 2
      have f3 := r4.free 3
      rw [hdec]
      clear hdec hok e hK HGc HGd HM
      go_wp2_with fail
      have r5 := (((r4.set 0 (.int .i64 0)).set 1 (.int .i64 0)).set 2 (.slice none 0 0)).set 3 (.slice none 0 0)
      obtain ⟨e0, e1, e2, e3⟩ := (show Blk _ (w.heap.size + 1 + 1) #[.int .i64 0, .int .i64 0, .slice none 0 0, .slice none 0 0] 30 from r5).four
      refine bodyPost_ret (v := .tuple #[.agg #[.int .i64 0, .int .i64 0, .slice none 0 0, .slice none 0 0], .bool false]) (by simp [results, Try.results32, go_sem, e0, e1, e2, e3]) rfl ⟨_, rfl, zeroOwnC _ _, ?_⟩
      exact (((Bw.setCell (by show w.heap.size ≤ w.heap.size + 1 + 1; omega) _).setCell (by show w.heap.size ≤ w.heap.size + 1 + 1; omega) _).setCell (by show w.heap.size ≤ w.heap.size + 1 + 1; omega) _).setCell (by show w.heap.size ≤ w.heap.size + 1 + 1; omega) _

end Go.Proofs.Ytaohgbkhmgfnhaa
