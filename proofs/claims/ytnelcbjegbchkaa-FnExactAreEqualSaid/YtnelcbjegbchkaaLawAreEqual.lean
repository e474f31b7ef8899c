/- The exact law of AreEqual: for every two circuits that the row allows, the program and the model answer the same, and the arguments are left as they were. -/
import Derived.Test.YtnelcbjegbchkaaHelp
import Derived.Test.YtnelcbjegbchkaaClose
import Derived.Test.YtnelcbjegbchkaaCirAll
import Derived.Test.YtnelcbjegbchkaaSiG4
import Derived.Test.YtnelcbjegbchkaaSiI2
import Derived.Deep.RegionHeld3
namespace Go.Proofs.Ytnelcbjegbchkaa.lawAreEqual
open Go.ChangeShapes Go.WideShapes Go.ChangeAt Go.RowKit
set_option maxRecDepth 100000

set_option maxRecDepth 100000 in
set_option maxHeartbeats 2000000 in
theorem walk (v0 : Value) (C0 : Ci) (v1 : Value) (C1 : Ci) (W : World) (a0_0 : HasC W v0 C0) (fa0 : C0.gs.length ≤ maxLen) (fb0 : C0.os.length ≤ maxLen) (wz0 : C64 C0) (a1_0 : HasC W v1 C1) (fa1 : C1.gs.length ≤ maxLen) (fb1 : C1.os.length ≤ maxLen) (wz1 : C64 C1) :
    Calls Try.prog 9 #[v0, v1] W fun e W' => e = .returned (.bool true) ∧ Below W.heap.size W W' := by
  obtain ⟨Gz0, nz0, cz0, Oz0, mz0, dz0, rfl, hgz0, hoz0, _, _, _, _⟩ := id a0_0
  have hgl0 := hgz0.1
  have hol0 := hoz0.1
  have ob_a0 := a0_0
  clear hgz0 hoz0
  obtain ⟨Gz1, nz1, cz1, Oz1, mz1, dz1, rfl, hgz1, hoz1, _, _, _, _⟩ := id a1_0
  have hgl1 := hgz1.1
  have hol1 := hoz1.1
  have ob_a1 := a1_0
  clear hgz1 hoz1
  have B0 : Below W.heap.size W W := Below.refl _ _
  have s0 : W.heap.size ≤ W.heap.size := Nat.le_refl _
  have b1 := belowNew W (.cells #[.int .i64 C0.in0, .int .i64 C0.in1, .slice Gz0 nz0 cz0, .slice Oz0 mz0 dz0] 28)
  have s1 := b1.size
  have t1 : (W.alloc (.cells #[.int .i64 C0.in0, .int .i64 C0.in1, .slice Gz0 nz0 cz0, .slice Oz0 mz0 dz0] 28)).heap.size = W.heap.size + 1 := by simp
  have box0_1 := Blk.new W #[.int .i64 C0.in0, .int .i64 C0.in1, .slice Gz0 nz0 cz0, .slice Oz0 mz0 dz0] 28
  have B1 := B0.trans (b1.mono (by omega))
  have a0_1 := a0_0.below b1
  have a1_1 := a1_0.below b1
  clear b1 B0 a0_0 a1_0
  generalize hw1 : W.alloc (.cells #[.int .i64 C0.in0, .int .i64 C0.in1, .slice Gz0 nz0 cz0, .slice Oz0 mz0 dz0] 28) = w1 at *
  have b2 := belowNew w1 (.cells #[.int .i64 C1.in0, .int .i64 C1.in1, .slice Gz1 nz1 cz1, .slice Oz1 mz1 dz1] 28)
  have s2 := b2.size
  have t2 : (w1.alloc (.cells #[.int .i64 C1.in0, .int .i64 C1.in1, .slice Gz1 nz1 cz1, .slice Oz1 mz1 dz1] 28)).heap.size = w1.heap.size + 1 := by simp
  have box1_2 := Blk.newAt (k := W.heap.size + 1) w1 #[.int .i64 C1.in0, .int .i64 C1.in1, .slice Gz1 nz1 cz1, .slice Oz1 mz1 dz1] 28 (by omega)
  have B2 := B1.trans (b2.mono (by omega))
  have a0_2 := a0_1.below b2
  have a1_2 := a1_1.below b2
  have box0_2 := box0_1.below' b2
  clear b2 B1 a0_1 a1_1 box0_1
  generalize hw2 : w1.alloc (.cells #[.int .i64 C1.in0, .int .i64 C1.in1, .slice Gz1 nz1 cz1, .slice Oz1 mz1 dz1] 28) = w2 at *
  obtain ⟨r, hm⟩ : ∃ r, m_AreEqual C0 C1 = r := ⟨_, rfl⟩
  obtain ⟨rb0, rb1⟩ := r
  have HM := Lib.hid hm
  clear hm
  go_enter Try.func9, Try.ntmps9
  have box0_c0 := box0_2.cell (i := 0) rfl
  have box0_c1 := box0_2.cell (i := 1) rfl
  have box0_c2 := box0_2.cell (i := 2) rfl
  have box0_c3 := box0_2.cell (i := 3) rfl
  go_wp2_with fail
  try rw [hw1]
  try rw [hw2]
  clear hw1
  clear hw2
  clear box0_c0 box0_c1 box0_c2 box0_c3
  refine (szCircuit_any C0.in0 C0.in1 Gz0 nz0 cz0 Oz0 mz0 dz0 C0 1048576 w2 hgl0 hol0 (by omega) (by omega) (by omega) (by omega)).mono ?_
  rintro e w3 ⟨rfl, b3⟩
  have s3 := b3.size
  have B3 := B2.trans (b3.mono (by omega))
  have a0_3 := a0_2.below b3
  have a1_3 := a1_2.below b3
  have box0_3 := box0_2.below' b3
  have box1_3 := box1_2.below' b3
  clear b3 B2 a0_2 a1_2 box0_2 box1_2
  generalize hlf0 : leftOf C0 1048576 = lf0
  by_cases hneg0 : lf0 < 0
  · go_wp2_with fail
    go_ret
    exact ⟨rfl, B3⟩
  obtain ⟨l0a, l0b, l0c⟩ := leftFit hlf0 hneg0 (by omega)
  have fit0 : Fit C0 := ⟨l0a, l0b, wz0⟩
  clear hlf0
  have box1_c0 := box1_3.cell (i := 0) rfl
  have box1_c1 := box1_3.cell (i := 1) rfl
  have box1_c2 := box1_3.cell (i := 2) rfl
  have box1_c3 := box1_3.cell (i := 3) rfl
  go_wp2_with fail
  clear box1_c0 box1_c1 box1_c2 box1_c3
  refine (szCircuit_any C1.in0 C1.in1 Gz1 nz1 cz1 Oz1 mz1 dz1 C1 lf0 w3 hgl1 hol1 (by omega) (by omega) (by omega) (by omega)).mono ?_
  rintro e w4 ⟨rfl, b4⟩
  have s4 := b4.size
  have B4 := B3.trans (b4.mono (by omega))
  have a0_4 := a0_3.below b4
  have a1_4 := a1_3.below b4
  have box0_4 := box0_3.below' b4
  have box1_4 := box1_3.below' b4
  clear b4 B3 a0_3 a1_3 box0_3 box1_3
  generalize hlf1 : leftOf C1 lf0 = lf1
  by_cases hneg1 : lf1 < 0
  · go_wp2_with fail
    go_ret
    exact ⟨rfl, B4⟩
  obtain ⟨l1a, l1b, l1c⟩ := leftFit hlf1 hneg1 (by omega)
  have fit1 : Fit C1 := ⟨l1a, l1b, wz1⟩
  clear hlf1
  have box0_c0 := box0_4.cell (i := 0) rfl
  have box0_c1 := box0_4.cell (i := 1) rfl
  have box0_c2 := box0_4.cell (i := 2) rfl
  have box0_c3 := box0_4.cell (i := 3) rfl
  have box1_c0 := box1_4.cell (i := 0) rfl
  have box1_c1 := box1_4.cell (i := 1) rfl
  have box1_c2 := box1_4.cell (i := 2) rfl
  have box1_c3 := box1_4.cell (i := 3) rfl
  go_wp2_with fail
  clear box0_c0 box0_c1 box0_c2 box0_c3 box1_c0 box1_c1 box1_c2 box1_c3
  have hK : Hid (∀ W', Below w4.heap.size w4 W' → W'.cell? ⟨W.heap.size, 0, none⟩ = some (.int .i64 C0.in0) ∧ W'.cell? ⟨W.heap.size, 1, none⟩ = some (.int .i64 C0.in1) ∧ W'.cell? ⟨W.heap.size, 2, none⟩ = some (.slice Gz0 nz0 cz0) ∧ W'.cell? ⟨W.heap.size, 3, none⟩ = some (.slice Oz0 mz0 dz0) ∧ W'.cell? ⟨W.heap.size + 1, 0, none⟩ = some (.int .i64 C1.in0) ∧ W'.cell? ⟨W.heap.size + 1, 1, none⟩ = some (.int .i64 C1.in1) ∧ W'.cell? ⟨W.heap.size + 1, 2, none⟩ = some (.slice Gz1 nz1 cz1) ∧ W'.cell? ⟨W.heap.size + 1, 3, none⟩ = some (.slice Oz1 mz1 dz1)) := fun W' hb =>
    ⟨(box0_4.below' hb).cell (i := 0) rfl, (box0_4.below' hb).cell (i := 1) rfl, (box0_4.below' hb).cell (i := 2) rfl, (box0_4.below' hb).cell (i := 3) rfl, (box1_4.below' hb).cell (i := 0) rfl, (box1_4.below' hb).cell (i := 1) rfl, (box1_4.below' hb).cell (i := 2) rfl, (box1_4.below' hb).cell (i := 3) rfl⟩
  have D : Below w4.heap.size w4 w4.drew := (Below.refl _ w4).drew
  have sD := D.size
  have HT0 : Hid (∀ W', Below w4.heap.size w4 W' → Calls Try.prog 19 #[(.agg #[.int .i64 C0.in0, .int .i64 C0.in1, .slice Gz0 nz0 cz0, .slice Oz0 mz0 dz0])] W' fun e w' => ∃ v', e = .returned v' ∧ OwnC w' W'.heap.size v' C0 ∧ Below W'.heap.size W' w') := fun W' hb => toCircuit_any _ C0 W' (a0_4.below hb) l0a l0b
  have HT1 : Hid (∀ W', Below w4.heap.size w4 W' → Calls Try.prog 19 #[(.agg #[.int .i64 C1.in0, .int .i64 C1.in1, .slice Gz1 nz1 cz1, .slice Oz1 mz1 dz1])] W' fun e w' => ∃ v', e = .returned v' ∧ OwnC w' W'.heap.size v' C1 ∧ Below W'.heap.size W' w') := fun W' hb => toCircuit_any _ C1 W' (a1_4.below hb) l1a l1b
  go_region_held3 (fun w' => w'.cell? ⟨W.heap.size, 0, none⟩ = some (.int .i64 C0.in0) ∧ w'.cell? ⟨W.heap.size, 1, none⟩ = some (.int .i64 C0.in1) ∧ w'.cell? ⟨W.heap.size, 2, none⟩ = some (.slice Gz0 nz0 cz0) ∧ w'.cell? ⟨W.heap.size, 3, none⟩ = some (.slice Oz0 mz0 dz0) ∧ w'.cell? ⟨W.heap.size + 1, 0, none⟩ = some (.int .i64 C1.in0) ∧ w'.cell? ⟨W.heap.size + 1, 1, none⟩ = some (.int .i64 C1.in1) ∧ w'.cell? ⟨W.heap.size + 1, 2, none⟩ = some (.slice Gz1 nz1 cz1) ∧ w'.cell? ⟨W.heap.size + 1, 3, none⟩ = some (.slice Oz1 mz1 dz1)) (first | exact hK.out _ D | exact hK.out _ Bq0 | exact hK.out _ Bq1 | exact hK.out _ b5 | go_keep) (first | (go_at_call 35; refine (spec_AreEqual uq0 C0 uq1 C1 rb0 rb1 wq1 (oq0_1.has) fit0 (oq1_1.has) fit1 HM.out).mono ?_; rintro e w5 ⟨rfl, bq⟩; have b5 := Bq1.trans (bq.mono Bq1.size)) | (go_at_call 19; refine (HT1.out wq0 Bq0).mono ?_; rintro e wq1 ⟨uq1, rfl, oq1_1, bq1⟩; have Bq1 := Bq0.trans (bq1.mono Bq0.size); have oq0_1 := oq0_0.below bq1) | (go_at_call 19; refine (HT0.out w4.drew D).mono ?_; rintro e wq0 ⟨uq0, rfl, oq0_0, bq0⟩; have Bq0 := D.trans (bq0.mono D.size)))
  clear hK D sD bq HT0 HT1 bq0 Bq0 bq1 Bq1 oq0_1 oq1_1
  have s5 := b5.size
  have B5 := B4.trans (b5.mono (by omega))
  have a0_5 := a0_4.below b5
  have a1_5 := a1_4.below b5
  have box0_5 := box0_4.below' b5
  have box1_5 := box1_4.below' b5
  clear b5 B4 a0_4 a1_4 box0_4 box1_4
  have box0_c0 := box0_5.cell (i := 0) rfl
  have box0_c1 := box0_5.cell (i := 1) rfl
  have box0_c2 := box0_5.cell (i := 2) rfl
  have box0_c3 := box0_5.cell (i := 3) rfl
  go_wp2_with fail
  clear box0_c0 box0_c1 box0_c2 box0_c3
  refine (toCircuit_any _ C0 w5 a0_5 l0a l0b).mono ?_
  rintro e w6 ⟨u_v0, rfl, v0_6, b6⟩
  have s6 := b6.size
  have B6 := B5.trans (b6.mono (by omega))
  have a0_6 := a0_5.below b6
  have a1_6 := a1_5.below b6
  have box0_6 := box0_5.below' b6
  have box1_6 := box1_5.below' b6
  clear b6 B5 a0_5 a1_5 box0_5 box1_5
  have ob_v0 := v0_6
  obtain ⟨Gp0, np0, cp0, Op0, mp0, dp0, rfl, _, _⟩ := id v0_6
  have b7 := belowNew w6 (.cells #[.int .i64 C0.in0, .int .i64 C0.in1, .slice Gp0 np0 cp0, .slice Op0 mp0 dp0] 34)
  have s7 := b7.size
  have t7 : (w6.alloc (.cells #[.int .i64 C0.in0, .int .i64 C0.in1, .slice Gp0 np0 cp0, .slice Op0 mp0 dp0] 34)).heap.size = w6.heap.size + 1 := by simp
  have var_v0_7 := Blk.new w6 #[.int .i64 C0.in0, .int .i64 C0.in1, .slice Gp0 np0 cp0, .slice Op0 mp0 dp0] 34
  have B7 := B6.trans (b7.mono (by omega))
  have a0_7 := a0_6.below b7
  have a1_7 := a1_6.below b7
  have box0_7 := box0_6.below' b7
  have box1_7 := box1_6.below' b7
  have v0_7 := v0_6.below b7
  clear b7 B6 a0_6 a1_6 box0_6 box1_6 v0_6
  generalize hw7 : w6.alloc (.cells #[.int .i64 C0.in0, .int .i64 C0.in1, .slice Gp0 np0 cp0, .slice Op0 mp0 dp0] 34) = w7 at *
  have box1_c0 := box1_7.cell (i := 0) rfl
  have box1_c1 := box1_7.cell (i := 1) rfl
  have box1_c2 := box1_7.cell (i := 2) rfl
  have box1_c3 := box1_7.cell (i := 3) rfl
  go_wp2_with fail
  try rw [hw7]
  clear hw7
  clear box1_c0 box1_c1 box1_c2 box1_c3
  refine (toCircuit_any _ C1 w7 a1_7 l1a l1b).mono ?_
  rintro e w8 ⟨u_v1, rfl, v1_8, b8⟩
  have s8 := b8.size
  have B8 := B7.trans (b8.mono (by omega))
  have a0_8 := a0_7.below b8
  have a1_8 := a1_7.below b8
  have box0_8 := box0_7.below' b8
  have box1_8 := box1_7.below' b8
  have v0_8 := v0_7.below b8
  have var_v0_8 := var_v0_7.below' b8
  clear b8 B7 a0_7 a1_7 box0_7 box1_7 v0_7 var_v0_7
  have ob_v1 := v1_8
  obtain ⟨Gp1, np1, cp1, Op1, mp1, dp1, rfl, _, _⟩ := id v1_8
  have b9 := belowNew w8 (.cells #[.int .i64 C1.in0, .int .i64 C1.in1, .slice Gp1 np1 cp1, .slice Op1 mp1 dp1] 34)
  have s9 := b9.size
  have t9 : (w8.alloc (.cells #[.int .i64 C1.in0, .int .i64 C1.in1, .slice Gp1 np1 cp1, .slice Op1 mp1 dp1] 34)).heap.size = w8.heap.size + 1 := by simp
  have var_v1_9 := Blk.new w8 #[.int .i64 C1.in0, .int .i64 C1.in1, .slice Gp1 np1 cp1, .slice Op1 mp1 dp1] 34
  have B9 := B8.trans (b9.mono (by omega))
  have a0_9 := a0_8.below b9
  have a1_9 := a1_8.below b9
  have box0_9 := box0_8.below' b9
  have box1_9 := box1_8.below' b9
  have v0_9 := v0_8.below b9
  have var_v0_9 := var_v0_8.below' b9
  have v1_9 := v1_8.below b9
  clear b9 B8 a0_8 a1_8 box0_8 box1_8 v0_8 var_v0_8 v1_8
  generalize hw9 : w8.alloc (.cells #[.int .i64 C1.in0, .int .i64 C1.in1, .slice Gp1 np1 cp1, .slice Op1 mp1 dp1] 34) = w9 at *
  have var_v0_c0 := var_v0_9.cell (i := 0) rfl
  have var_v0_c1 := var_v0_9.cell (i := 1) rfl
  have var_v0_c2 := var_v0_9.cell (i := 2) rfl
  have var_v0_c3 := var_v0_9.cell (i := 3) rfl
  have var_v1_c0 := var_v1_9.cell (i := 0) rfl
  have var_v1_c1 := var_v1_9.cell (i := 1) rfl
  have var_v1_c2 := var_v1_9.cell (i := 2) rfl
  have var_v1_c3 := var_v1_9.cell (i := 3) rfl
  go_wp2_with fail
  try rw [hw9]
  clear hw9
  clear var_v0_c0 var_v0_c1 var_v0_c2 var_v0_c3 var_v1_c0 var_v1_c1 var_v1_c2 var_v1_c3
  refine (impl_AreEqual (.agg #[.int .i64 C0.in0, .int .i64 C0.in1, .slice Gp0 np0 cp0, .slice Op0 mp0 dp0]) C0 (.agg #[.int .i64 C1.in0, .int .i64 C1.in1, .slice Gp1 np1 cp1, .slice Op1 mp1 dp1]) C1 rb0 rb1 w9 v0_9.has fit0 v1_9.has fit1 HM.out).mono ?_
  rintro e w10 ⟨rfl, b10⟩
  have s10 := b10.size
  have B10 := B9.trans (b10.mono (by omega))
  have a0_10 := a0_9.below b10
  have a1_10 := a1_9.below b10
  have box0_10 := box0_9.below' b10
  have box1_10 := box1_9.below' b10
  have v0_10 := v0_9.below b10
  have var_v0_10 := var_v0_9.below' b10
  have v1_10 := v1_9.below b10
  have var_v1_10 := var_v1_9.below' b10
  clear b10 B9 a0_9 a1_9 box0_9 box1_9 v0_9 var_v0_9 v1_9 var_v1_9
  have box0_c0 := box0_10.cell (i := 0) rfl
  have box0_c1 := box0_10.cell (i := 1) rfl
  have box0_c2 := box0_10.cell (i := 2) rfl
  have box0_c3 := box0_10.cell (i := 3) rfl
  have var_v0_c0 := var_v0_10.cell (i := 0) rfl
  have var_v0_c1 := var_v0_10.cell (i := 1) rfl
  have var_v0_c2 := var_v0_10.cell (i := 2) rfl
  have var_v0_c3 := var_v0_10.cell (i := 3) rfl
  go_wp2_with fail
  clear box0_c0 box0_c1 box0_c2 box0_c3 var_v0_c0 var_v0_c1 var_v0_c2 var_v0_c3
  have hK : Hid (∀ W', Below w10.heap.size w10 W' → W'.cell? ⟨w6.heap.size, 0, none⟩ = some (.int .i64 C0.in0) ∧ W'.cell? ⟨w6.heap.size, 1, none⟩ = some (.int .i64 C0.in1) ∧ W'.cell? ⟨w6.heap.size, 2, none⟩ = some (.slice Gp0 np0 cp0) ∧ W'.cell? ⟨w6.heap.size, 3, none⟩ = some (.slice Op0 mp0 dp0) ∧ W'.cell? ⟨W.heap.size, 0, none⟩ = some (.int .i64 C0.in0) ∧ W'.cell? ⟨W.heap.size, 1, none⟩ = some (.int .i64 C0.in1) ∧ W'.cell? ⟨W.heap.size, 2, none⟩ = some (.slice Gz0 nz0 cz0) ∧ W'.cell? ⟨W.heap.size, 3, none⟩ = some (.slice Oz0 mz0 dz0)) := fun W' hb =>
    ⟨(var_v0_10.below' hb).cell (i := 0) rfl, (var_v0_10.below' hb).cell (i := 1) rfl, (var_v0_10.below' hb).cell (i := 2) rfl, (var_v0_10.below' hb).cell (i := 3) rfl, (box0_10.below' hb).cell (i := 0) rfl, (box0_10.below' hb).cell (i := 1) rfl, (box0_10.below' hb).cell (i := 2) rfl, (box0_10.below' hb).cell (i := 3) rfl⟩
  have D : Below w10.heap.size w10 w10.drew := (Below.refl _ w10).drew
  have sD := D.size
  have HT := Lib.hid (toCircuit_any (.agg #[.int .i64 C0.in0, .int .i64 C0.in1, .slice Gz0 nz0 cz0, .slice Oz0 mz0 dz0]) C0 w10.drew (a0_10.below D) l0a l0b)
  have hE : Hid (∀ u W', Below w10.heap.size w10 W' → HasC W' u C0 → Calls Try.prog 22 #[(.agg #[.int .i64 C0.in0, .int .i64 C0.in1, .slice Gp0 np0 cp0, .slice Op0 mp0 dp0]), u] W' fun e w' => e = .returned (.bool true) ∧ Below W'.heap.size W' w') := fun u W' hb hu => eqCircuit_same _ u C0 W' (v0_10.has.below hb) hu l0a l0b
  go_region_held3 (fun w' => w'.cell? ⟨w6.heap.size, 0, none⟩ = some (.int .i64 C0.in0) ∧ w'.cell? ⟨w6.heap.size, 1, none⟩ = some (.int .i64 C0.in1) ∧ w'.cell? ⟨w6.heap.size, 2, none⟩ = some (.slice Gp0 np0 cp0) ∧ w'.cell? ⟨w6.heap.size, 3, none⟩ = some (.slice Op0 mp0 dp0) ∧ w'.cell? ⟨W.heap.size, 0, none⟩ = some (.int .i64 C0.in0) ∧ w'.cell? ⟨W.heap.size, 1, none⟩ = some (.int .i64 C0.in1) ∧ w'.cell? ⟨W.heap.size, 2, none⟩ = some (.slice Gz0 nz0 cz0) ∧ w'.cell? ⟨W.heap.size, 3, none⟩ = some (.slice Oz0 mz0 dz0)) (first | exact hK.out _ D | exact hK.out _ Bq1 | exact hK.out _ b11 | go_keep) (first | (go_at_call 22; refine (hE.out uq1 wq1 Bq1 oq1.has).mono ?_; rintro e w11 ⟨rfl, bq2⟩; have b11 := Bq1.trans (bq2.mono Bq1.size)) | (go_at_call 19; refine (HT.out).mono ?_; rintro e wq1 ⟨uq1, rfl, oq1, bq1⟩; have Bq1 := D.trans (bq1.mono D.size)))
  clear hK HT hE oq1 bq1 Bq1 bq2 D sD
  have s11 := b11.size
  have B11 := B10.trans (b11.mono (by omega))
  have a0_11 := a0_10.below b11
  have a1_11 := a1_10.below b11
  have box0_11 := box0_10.below' b11
  have box1_11 := box1_10.below' b11
  have v0_11 := v0_10.below b11
  have var_v0_11 := var_v0_10.below' b11
  have v1_11 := v1_10.below b11
  have var_v1_11 := var_v1_10.below' b11
  clear b11 B10 a0_10 a1_10 box0_10 box1_10 v0_10 var_v0_10 v1_10 var_v1_10
  have box1_c0 := box1_11.cell (i := 0) rfl
  have box1_c1 := box1_11.cell (i := 1) rfl
  have box1_c2 := box1_11.cell (i := 2) rfl
  have box1_c3 := box1_11.cell (i := 3) rfl
  have var_v1_c0 := var_v1_11.cell (i := 0) rfl
  have var_v1_c1 := var_v1_11.cell (i := 1) rfl
  have var_v1_c2 := var_v1_11.cell (i := 2) rfl
  have var_v1_c3 := var_v1_11.cell (i := 3) rfl
  go_wp2_with fail
  clear box1_c0 box1_c1 box1_c2 box1_c3 var_v1_c0 var_v1_c1 var_v1_c2 var_v1_c3
  have hK : Hid (∀ W', Below w11.heap.size w11 W' → W'.cell? ⟨w8.heap.size, 0, none⟩ = some (.int .i64 C1.in0) ∧ W'.cell? ⟨w8.heap.size, 1, none⟩ = some (.int .i64 C1.in1) ∧ W'.cell? ⟨w8.heap.size, 2, none⟩ = some (.slice Gp1 np1 cp1) ∧ W'.cell? ⟨w8.heap.size, 3, none⟩ = some (.slice Op1 mp1 dp1) ∧ W'.cell? ⟨W.heap.size + 1, 0, none⟩ = some (.int .i64 C1.in0) ∧ W'.cell? ⟨W.heap.size + 1, 1, none⟩ = some (.int .i64 C1.in1) ∧ W'.cell? ⟨W.heap.size + 1, 2, none⟩ = some (.slice Gz1 nz1 cz1) ∧ W'.cell? ⟨W.heap.size + 1, 3, none⟩ = some (.slice Oz1 mz1 dz1)) := fun W' hb =>
    ⟨(var_v1_11.below' hb).cell (i := 0) rfl, (var_v1_11.below' hb).cell (i := 1) rfl, (var_v1_11.below' hb).cell (i := 2) rfl, (var_v1_11.below' hb).cell (i := 3) rfl, (box1_11.below' hb).cell (i := 0) rfl, (box1_11.below' hb).cell (i := 1) rfl, (box1_11.below' hb).cell (i := 2) rfl, (box1_11.below' hb).cell (i := 3) rfl⟩
  have D : Below w11.heap.size w11 w11.drew := (Below.refl _ w11).drew
  have sD := D.size
  have HT := Lib.hid (toCircuit_any (.agg #[.int .i64 C1.in0, .int .i64 C1.in1, .slice Gz1 nz1 cz1, .slice Oz1 mz1 dz1]) C1 w11.drew (a1_11.below D) l1a l1b)
  have hE : Hid (∀ u W', Below w11.heap.size w11 W' → HasC W' u C1 → Calls Try.prog 22 #[(.agg #[.int .i64 C1.in0, .int .i64 C1.in1, .slice Gp1 np1 cp1, .slice Op1 mp1 dp1]), u] W' fun e w' => e = .returned (.bool true) ∧ Below W'.heap.size W' w') := fun u W' hb hu => eqCircuit_same _ u C1 W' (v1_11.has.below hb) hu l1a l1b
  go_region_held3 (fun w' => w'.cell? ⟨w8.heap.size, 0, none⟩ = some (.int .i64 C1.in0) ∧ w'.cell? ⟨w8.heap.size, 1, none⟩ = some (.int .i64 C1.in1) ∧ w'.cell? ⟨w8.heap.size, 2, none⟩ = some (.slice Gp1 np1 cp1) ∧ w'.cell? ⟨w8.heap.size, 3, none⟩ = some (.slice Op1 mp1 dp1) ∧ w'.cell? ⟨W.heap.size + 1, 0, none⟩ = some (.int .i64 C1.in0) ∧ w'.cell? ⟨W.heap.size + 1, 1, none⟩ = some (.int .i64 C1.in1) ∧ w'.cell? ⟨W.heap.size + 1, 2, none⟩ = some (.slice Gz1 nz1 cz1) ∧ w'.cell? ⟨W.heap.size + 1, 3, none⟩ = some (.slice Oz1 mz1 dz1)) (first | exact hK.out _ D | exact hK.out _ Bq1 | exact hK.out _ b12 | go_keep) (first | (go_at_call 22; refine (hE.out uq1 wq1 Bq1 oq1.has).mono ?_; rintro e w12 ⟨rfl, bq2⟩; have b12 := Bq1.trans (bq2.mono Bq1.size)) | (go_at_call 19; refine (HT.out).mono ?_; rintro e wq1 ⟨uq1, rfl, oq1, bq1⟩; have Bq1 := D.trans (bq1.mono D.size)))
  clear hK HT hE oq1 bq1 Bq1 bq2 D sD
  have s12 := b12.size
  have B12 := B11.trans (b12.mono (by omega))
  have a0_12 := a0_11.below b12
  have a1_12 := a1_11.below b12
  have box0_12 := box0_11.below' b12
  have box1_12 := box1_11.below' b12
  have v0_12 := v0_11.below b12
  have var_v0_12 := var_v0_11.below' b12
  have v1_12 := v1_11.below b12
  have var_v1_12 := var_v1_11.below' b12
  clear b12 B11 a0_11 a1_11 box0_11 box1_11 v0_11 var_v0_11 v1_11 var_v1_11
  go_wp2_with fail
  go_ret
  exact ⟨rfl, B12⟩

set_option maxRecDepth 100000 in
theorem lifted (os : Os) (started : os.Started) (H : Type) (enc : TypeId × Value → H) :
    ReturnsInHanded {} Try.checked os 9 .any (Rows.fnExactAreEqualSpec.pre6 enc Try.prog Try.f9 Rows.fnExactAreEqualRow.domain false) (Rows.fnExactAreEqualSpec.post enc Try.prog Try.f9 false true false false) := by
  refine returnsInHanded_of_change (C := Try.checked) own started (by kernel_rfl) Try.func9
    (ChangeSpec.witness6 (enc := enc) (C := Try.checked) false ⟨#[], #[.agg #[.int .i64 0, .int .i64 0, .slice none 0 0, .slice none 0 0], .agg #[.int .i64 0, .int .i64 0, .slice none 0 0, .slice none 0 0]], []⟩ 8 (by kernel_rfl) (by kernel_rfl) (by kernel_rfl) (by kernel_rfl)) ?_
  intro W base args ds gs before hval0 hW hcnd _
  have hval : ∀ (j : Nat) t v, Try.f9.params[j]? = some t → args[j]? = some v → Value.okWide Try.prog W .any base t v := hval0
  have hW' := hW
  obtain ⟨p, q, hA0, hV, rfl, hfz, hnd⟩ := hW
  have hA : DataW.TrodAll enc Try.prog W 0 (fun _ => true) true Try.f9.params.toList args.toList ds p := hA0
  rw [Try.params9] at hA hval
  obtain ⟨v0, vs0, d0, ds0, p0, q0, hargs, rfl, rfl, h0, r0⟩ := trodAll_cons hA
  obtain ⟨v1, vs1, d1, ds1, p1, q1, hargs1, rfl, rfl, h1, r1⟩ := trodAll_cons r0
  obtain ⟨rfl, rfl, rfl⟩ := trodAll_nil r1
  obtain rfl : args = #[v0, v1] := by cases args; simp_all
  obtain ⟨rfl, rfl⟩ := trodVars_none hV
  clear hA0 hval0
  have hlt0 : ∀ x ∈ p0, x.block < W.heap.size := fun x hx => by simpa using hW'.lt x (by simp [hx])
  obtain ⟨C0, g0, fa0, fb0, wf0⟩ := openC (hval 0 _ v0 rfl rfl) h0
  have hlt1 : ∀ x ∈ p1, x.block < W.heap.size := fun x hx => by simpa using hW'.lt x (by simp [hx])
  obtain ⟨C1, g1, fa1, fb1, wf1⟩ := openC (hval 1 _ v1 rfl rfl) h1
  simp only [List.append_nil] at hW'
  refine (walk v0 C0 v1 C1 W g0 fa0 fb0 wf0 g1 fa1 fb1 wf1).mono fun e W' ⟨he, hb⟩ => ?_
  subst he
  exact ⟨_, rfl, lawPost (pa := p0 ++ (p1)) (pv := []) hW' (fun _ _ _ => trodAll_mk1 (shut_bool Try.underlying4 _)) (trodAll_mk2 (Below.trod laidOut (by kernel_rfl) (of_decide_eq_true (by kernel_rfl)) h0 hb hlt0) (Below.trod laidOut (by kernel_rfl) (of_decide_eq_true (by kernel_rfl)) h1 hb hlt1)) rfl (by simp) hb⟩

theorem proved : Rows.FnExactAreEqualSaid :=
  OpenClaim.holds_of_wide 9 Try.f9 rfl rfl rfl rfl rfl rfl rfl ⟨rfl, rfl, rfl, rfl, rfl⟩ rfl rfl rfl rfl rfl (by kernel_rfl) Try.func9 (by kernel_rfl)
    (of_decide_eq_true (by kernel_rfl)) (by unfold Func.isWrapper; first | (rw [if_pos (by decide +kernel)]; kernel_rfl) | (rw [if_neg (by decide +kernel)]; exact ⟨rfl, rfl⟩))
    (fun os started H enc _ => lifted os started H enc)

end Go.Proofs.Ytnelcbjegbchkaa.lawAreEqual
