/- The exact law of EvalCircuit: for every circuit and inputs that the row allows, the program and the model answer the same, the arguments are left as they were, and the answer owns its memory. -/
import Derived.Test.YtaohgbkhmgfnhaaHelp
import Derived.Test.YtaohgbkhmgfnhaaClose
import Derived.Test.YtaohgbkhmgfnhaaCir5
import Derived.Test.YtaohgbkhmgfnhaaCirG4
import Derived.Test.YtaohgbkhmgfnhaaCirI6
import Derived.Deep.RegionHeld3
namespace Go.Proofs.Ytaohgbkhmgfnhaa.lawEvalCircuit
open Go.ChangeShapes Go.WideShapes Go.ChangeAt Go.RowKit
set_option maxRecDepth 100000

set_option maxRecDepth 100000 in
set_option maxHeartbeats 2000000 in
theorem walk (v0 : Value) (C0 : Ci) (A1 : Option Addr) (n1 c1 : Nat) (zs1 : List Int) (A2 : Option Addr) (n2 c2 : Nat) (zs2 : List Int) (W : World) (a0_0 : HasC W v0 C0) (fa0 : C0.gs.length ≤ maxLen) (fb0 : C0.os.length ≤ maxLen) (wz0 : C64 C0) (a1_0 : Has W A1 n1 zs1) (a2_0 : Has W A2 n2 zs2) :
    Calls Try.prog 5 #[v0, .slice A1 n1 c1, .slice A2 n2 c2] W fun e W' => e = .returned (.bool true) ∧ Below W.heap.size W W' := by
  obtain ⟨Gz0, nz0, cz0, Oz0, mz0, dz0, rfl, hgz0, hoz0, _, _, _, _⟩ := id a0_0
  have hgl0 := hgz0.1
  have hol0 := hoz0.1
  have ob_a0 := a0_0
  clear hgz0 hoz0
  have old_a1 := a1_0.old
  have old_a2 := a2_0.old
  have B0 : Below W.heap.size W W := Below.refl _ _
  have s0 : W.heap.size ≤ W.heap.size := Nat.le_refl _
  have b1 := belowNew W (.cells #[.int .i64 C0.in0, .int .i64 C0.in1, .slice Gz0 nz0 cz0, .slice Oz0 mz0 dz0] 25)
  have s1 := b1.size
  have t1 : (W.alloc (.cells #[.int .i64 C0.in0, .int .i64 C0.in1, .slice Gz0 nz0 cz0, .slice Oz0 mz0 dz0] 25)).heap.size = W.heap.size + 1 := by simp
  have box0_1 := Blk.new W #[.int .i64 C0.in0, .int .i64 C0.in1, .slice Gz0 nz0 cz0, .slice Oz0 mz0 dz0] 25
  have B1 := B0.trans (b1.mono (by omega))
  have a0_1 := a0_0.below b1
  have a1_1 := a1_0.below b1
  have a2_1 := a2_0.below b1
  clear b1 B0 a0_0 a1_0 a2_0
  generalize hw1 : W.alloc (.cells #[.int .i64 C0.in0, .int .i64 C0.in1, .slice Gz0 nz0 cz0, .slice Oz0 mz0 dz0] 25) = w1 at *
  by_cases hn1 : 1048576 < n1
  · go_enter Try.func5, Try.ntmps5
    go_wp2_with fail
    go_ret
    try rw [hw1]
    exact ⟨rfl, B1⟩
  by_cases hn2 : 1048576 < n2
  · go_enter Try.func5, Try.ntmps5
    go_wp2_with fail
    go_ret
    try rw [hw1]
    exact ⟨rfl, B1⟩
  obtain ⟨r, hm⟩ : ∃ r, m_EvalCircuit C0 zs1 zs2 = r := ⟨_, rfl⟩
  obtain ⟨rs0, rb1⟩ := r
  have HM := Lib.hid hm
  clear hm
  go_enter Try.func5, Try.ntmps5
  have box0_c0 := box0_1.cell (i := 0) rfl
  have box0_c1 := box0_1.cell (i := 1) rfl
  have box0_c2 := box0_1.cell (i := 2) rfl
  have box0_c3 := box0_1.cell (i := 3) rfl
  go_wp2_with fail
  try rw [hw1]
  clear hw1
  clear box0_c0 box0_c1 box0_c2 box0_c3
  refine (szCircuit_any C0.in0 C0.in1 Gz0 nz0 cz0 Oz0 mz0 dz0 C0 1048576 w1 hgl0 hol0 (by omega) (by omega) (by omega) (by omega)).mono ?_
  rintro e w2 ⟨rfl, b2⟩
  have s2 := b2.size
  have B2 := B1.trans (b2.mono (by omega))
  have a0_2 := a0_1.below b2
  have a1_2 := a1_1.below b2
  have a2_2 := a2_1.below b2
  have box0_2 := box0_1.below' b2
  clear b2 B1 a0_1 a1_1 a2_1 box0_1
  generalize hlf0 : leftOf C0 1048576 = lf0
  by_cases hneg0 : lf0 < 0
  · go_wp2_with fail
    go_ret
    exact ⟨rfl, B2⟩
  obtain ⟨l0a, l0b, l0c⟩ := leftFit hlf0 hneg0 (by omega)
  have fit0 : Fit C0 := ⟨l0a, l0b, wz0⟩
  clear hlf0
  have box0_c0 := box0_2.cell (i := 0) rfl
  have box0_c1 := box0_2.cell (i := 1) rfl
  have box0_c2 := box0_2.cell (i := 2) rfl
  have box0_c3 := box0_2.cell (i := 3) rfl
  go_wp2_with fail
  clear box0_c0 box0_c1 box0_c2 box0_c3
  refine (toCircuit_any _ C0 w2 a0_2 l0a l0b).mono ?_
  rintro e w3 ⟨u_sp_u0, rfl, sp_u0_3, b3⟩
  have s3 := b3.size
  have B3 := B2.trans (b3.mono (by omega))
  have a0_3 := a0_2.below b3
  have a1_3 := a1_2.below b3
  have a2_3 := a2_2.below b3
  have box0_3 := box0_2.below' b3
  clear b3 B2 a0_2 a1_2 a2_2 box0_2
  have ob_sp_u0 := sp_u0_3
  go_wp2_with fail
  refine (toIntS_any A1 n1 c1 zs1 _ a1_3 (by omega)).mono ?_
  rintro e w4 ⟨X_sp_u1, rfl, sp_u1_4, b4⟩
  have s4 := b4.size
  have B4 := B3.trans (b4.mono (by omega))
  have a0_4 := a0_3.below b4
  have a1_4 := a1_3.below b4
  have a2_4 := a2_3.below b4
  have box0_4 := box0_3.below' b4
  have sp_u0_4 := sp_u0_3.below b4
  clear b4 B3 a0_3 a1_3 a2_3 box0_3 sp_u0_3
  have ob_sp_u1 := sp_u1_4
  go_wp2_with fail
  refine (toIntS_any A2 n2 c2 zs2 _ a2_4 (by omega)).mono ?_
  rintro e w5 ⟨X_sp_u2, rfl, sp_u2_5, b5⟩
  have s5 := b5.size
  have B5 := B4.trans (b5.mono (by omega))
  have a0_5 := a0_4.below b5
  have a1_5 := a1_4.below b5
  have a2_5 := a2_4.below b5
  have box0_5 := box0_4.below' b5
  have sp_u0_5 := sp_u0_4.below b5
  have sp_u1_5 := sp_u1_4.below b5
  clear b5 B4 a0_4 a1_4 a2_4 box0_4 sp_u0_4 sp_u1_4
  have ob_sp_u2 := sp_u2_5
  go_wp2_with fail
  refine (spec_EvalCircuit u_sp_u0 C0 X_sp_u1 n1 n1 zs1 X_sp_u2 n2 n2 zs2 rs0 rb1 w5 sp_u0_5.has fit0 sp_u1_5.has (by omega) (own_nilOk sp_u1_5) sp_u2_5.has (by omega) (own_nilOk sp_u2_5) HM.out).mono ?_
  rintro e w6 ⟨R_sp0, m_sp0, c_sp0, rfl, sp0_6, l_sp0, b6⟩
  have s6 := b6.size
  have B6 := B5.trans (b6.mono (by omega))
  have a0_6 := a0_5.below b6
  have a1_6 := a1_5.below b6
  have a2_6 := a2_5.below b6
  have box0_6 := box0_5.below' b6
  have sp_u0_6 := sp_u0_5.below b6
  have sp_u1_6 := sp_u1_5.below b6
  have sp_u2_6 := sp_u2_5.below b6
  clear b6 B5 a0_5 a1_5 a2_5 box0_5 sp_u0_5 sp_u1_5 sp_u2_5
  have old_sp0 := sp0_6.old
  have box0_c0 := box0_6.cell (i := 0) rfl
  have box0_c1 := box0_6.cell (i := 1) rfl
  have box0_c2 := box0_6.cell (i := 2) rfl
  have box0_c3 := box0_6.cell (i := 3) rfl
  go_wp2_with fail
  clear box0_c0 box0_c1 box0_c2 box0_c3
  refine (toCircuit_any _ C0 w6 a0_6 l0a l0b).mono ?_
  rintro e w7 ⟨u_v0, rfl, v0_7, b7⟩
  have s7 := b7.size
  have B7 := B6.trans (b7.mono (by omega))
  have a0_7 := a0_6.below b7
  have a1_7 := a1_6.below b7
  have a2_7 := a2_6.below b7
  have box0_7 := box0_6.below' b7
  have sp0_7 := sp0_6.below b7
  clear b7 B6 a0_6 a1_6 a2_6 box0_6 sp0_6
  have ob_v0 := v0_7
  obtain ⟨Gp0, np0, cp0, Op0, mp0, dp0, rfl, _, _⟩ := id v0_7
  have b8 := belowNew w7 (.cells #[.int .i64 C0.in0, .int .i64 C0.in1, .slice Gp0 np0 cp0, .slice Op0 mp0 dp0] 30)
  have s8 := b8.size
  have t8 : (w7.alloc (.cells #[.int .i64 C0.in0, .int .i64 C0.in1, .slice Gp0 np0 cp0, .slice Op0 mp0 dp0] 30)).heap.size = w7.heap.size + 1 := by simp
  have var_v0_8 := Blk.new w7 #[.int .i64 C0.in0, .int .i64 C0.in1, .slice Gp0 np0 cp0, .slice Op0 mp0 dp0] 30
  have B8 := B7.trans (b8.mono (by omega))
  have a0_8 := a0_7.below b8
  have a1_8 := a1_7.below b8
  have a2_8 := a2_7.below b8
  have box0_8 := box0_7.below' b8
  have sp0_8 := sp0_7.below b8
  have v0_8 := v0_7.below b8
  clear b8 B7 a0_7 a1_7 a2_7 box0_7 sp0_7 v0_7
  generalize hw8 : w7.alloc (.cells #[.int .i64 C0.in0, .int .i64 C0.in1, .slice Gp0 np0 cp0, .slice Op0 mp0 dp0] 30) = w8 at *
  go_wp2_with fail
  try rw [hw8]
  clear hw8
  refine (toIntS_any A1 n1 c1 zs1 _ a1_8 (by omega)).mono ?_
  rintro e w9 ⟨X_v1, rfl, v1_9, b9⟩
  have s9 := b9.size
  have B9 := B8.trans (b9.mono (by omega))
  have a0_9 := a0_8.below b9
  have a1_9 := a1_8.below b9
  have a2_9 := a2_8.below b9
  have box0_9 := box0_8.below' b9
  have sp0_9 := sp0_8.below b9
  have v0_9 := v0_8.below b9
  have var_v0_9 := var_v0_8.below' b9
  clear b9 B8 a0_8 a1_8 a2_8 box0_8 sp0_8 v0_8 var_v0_8
  have ob_v1 := v1_9
  go_wp2_with fail
  refine (toIntS_any A2 n2 c2 zs2 _ a2_9 (by omega)).mono ?_
  rintro e w10 ⟨X_v2, rfl, v2_10, b10⟩
  have s10 := b10.size
  have B10 := B9.trans (b10.mono (by omega))
  have a0_10 := a0_9.below b10
  have a1_10 := a1_9.below b10
  have a2_10 := a2_9.below b10
  have box0_10 := box0_9.below' b10
  have sp0_10 := sp0_9.below b10
  have v0_10 := v0_9.below b10
  have var_v0_10 := var_v0_9.below' b10
  have v1_10 := v1_9.below b10
  clear b10 B9 a0_9 a1_9 a2_9 box0_9 sp0_9 v0_9 var_v0_9 v1_9
  have ob_v2 := v2_10
  have var_v0_c0 := var_v0_10.cell (i := 0) rfl
  have var_v0_c1 := var_v0_10.cell (i := 1) rfl
  have var_v0_c2 := var_v0_10.cell (i := 2) rfl
  have var_v0_c3 := var_v0_10.cell (i := 3) rfl
  go_wp2_with fail
  clear var_v0_c0 var_v0_c1 var_v0_c2 var_v0_c3
  refine (impl_EvalCircuit (.agg #[.int .i64 C0.in0, .int .i64 C0.in1, .slice Gp0 np0 cp0, .slice Op0 mp0 dp0]) C0 X_v1 n1 n1 zs1 X_v2 n2 n2 zs2 rs0 rb1 w10 v0_10.has fit0 v1_10.has (by omega) (own_nilOk v1_10) v2_10.has (by omega) (own_nilOk v2_10) HM.out).mono ?_
  rintro e w11 ⟨R_im0, m_im0, c_im0, rfl, im0_11, l_im0, b11⟩
  have s11 := b11.size
  have B11 := B10.trans (b11.mono (by omega))
  have a0_11 := a0_10.below b11
  have a1_11 := a1_10.below b11
  have a2_11 := a2_10.below b11
  have box0_11 := box0_10.below' b11
  have sp0_11 := sp0_10.below b11
  have v0_11 := v0_10.below b11
  have var_v0_11 := var_v0_10.below' b11
  have v1_11 := v1_10.below b11
  have v2_11 := v2_10.below b11
  clear b11 B10 a0_10 a1_10 a2_10 box0_10 sp0_10 v0_10 var_v0_10 v1_10 v2_10
  have ob_im0 := im0_11
  go_wp2_with fail
  refine (eqIntS_same _ _ m_im0 m_sp0 _ _ _ _ im0_11.has sp0_11 (by omega)).mono ?_
  rintro e w12 ⟨rfl, b12⟩
  have s12 := b12.size
  have B12 := B11.trans (b12.mono (by omega))
  have a0_12 := a0_11.below b12
  have a1_12 := a1_11.below b12
  have a2_12 := a2_11.below b12
  have box0_12 := box0_11.below' b12
  have sp0_12 := sp0_11.below b12
  have v0_12 := v0_11.below b12
  have var_v0_12 := var_v0_11.below' b12
  have v1_12 := v1_11.below b12
  have v2_12 := v2_11.below b12
  have im0_12 := im0_11.below b12
  clear b12 B11 a0_11 a1_11 a2_11 box0_11 sp0_11 v0_11 var_v0_11 v1_11 v2_11 im0_11
  have box0_c0 := box0_12.cell (i := 0) rfl
  have box0_c1 := box0_12.cell (i := 1) rfl
  have box0_c2 := box0_12.cell (i := 2) rfl
  have box0_c3 := box0_12.cell (i := 3) rfl
  have var_v0_c0 := var_v0_12.cell (i := 0) rfl
  have var_v0_c1 := var_v0_12.cell (i := 1) rfl
  have var_v0_c2 := var_v0_12.cell (i := 2) rfl
  have var_v0_c3 := var_v0_12.cell (i := 3) rfl
  go_wp2_with fail
  clear box0_c0 box0_c1 box0_c2 box0_c3 var_v0_c0 var_v0_c1 var_v0_c2 var_v0_c3
  have hK : Hid (∀ W', Below w12.heap.size w12 W' → W'.cell? ⟨w7.heap.size, 0, none⟩ = some (.int .i64 C0.in0) ∧ W'.cell? ⟨w7.heap.size, 1, none⟩ = some (.int .i64 C0.in1) ∧ W'.cell? ⟨w7.heap.size, 2, none⟩ = some (.slice Gp0 np0 cp0) ∧ W'.cell? ⟨w7.heap.size, 3, none⟩ = some (.slice Op0 mp0 dp0) ∧ W'.cell? ⟨W.heap.size, 0, none⟩ = some (.int .i64 C0.in0) ∧ W'.cell? ⟨W.heap.size, 1, none⟩ = some (.int .i64 C0.in1) ∧ W'.cell? ⟨W.heap.size, 2, none⟩ = some (.slice Gz0 nz0 cz0) ∧ W'.cell? ⟨W.heap.size, 3, none⟩ = some (.slice Oz0 mz0 dz0)) := fun W' hb =>
    ⟨(var_v0_12.below' hb).cell (i := 0) rfl, (var_v0_12.below' hb).cell (i := 1) rfl, (var_v0_12.below' hb).cell (i := 2) rfl, (var_v0_12.below' hb).cell (i := 3) rfl, (box0_12.below' hb).cell (i := 0) rfl, (box0_12.below' hb).cell (i := 1) rfl, (box0_12.below' hb).cell (i := 2) rfl, (box0_12.below' hb).cell (i := 3) rfl⟩
  have D : Below w12.heap.size w12 w12.drew := (Below.refl _ w12).drew
  have sD := D.size
  have HT := Lib.hid (toCircuit_any (.agg #[.int .i64 C0.in0, .int .i64 C0.in1, .slice Gz0 nz0 cz0, .slice Oz0 mz0 dz0]) C0 w12.drew (a0_12.below D) l0a l0b)
  have hE : Hid (∀ u W', Below w12.heap.size w12 W' → HasC W' u C0 → Calls Try.prog 16 #[(.agg #[.int .i64 C0.in0, .int .i64 C0.in1, .slice Gp0 np0 cp0, .slice Op0 mp0 dp0]), u] W' fun e w' => e = .returned (.bool true) ∧ Below W'.heap.size W' w') := fun u W' hb hu => eqCircuit_same _ u C0 W' (v0_12.has.below hb) hu l0a l0b
  go_region_held3 (fun w' => w'.cell? ⟨w7.heap.size, 0, none⟩ = some (.int .i64 C0.in0) ∧ w'.cell? ⟨w7.heap.size, 1, none⟩ = some (.int .i64 C0.in1) ∧ w'.cell? ⟨w7.heap.size, 2, none⟩ = some (.slice Gp0 np0 cp0) ∧ w'.cell? ⟨w7.heap.size, 3, none⟩ = some (.slice Op0 mp0 dp0) ∧ w'.cell? ⟨W.heap.size, 0, none⟩ = some (.int .i64 C0.in0) ∧ w'.cell? ⟨W.heap.size, 1, none⟩ = some (.int .i64 C0.in1) ∧ w'.cell? ⟨W.heap.size, 2, none⟩ = some (.slice Gz0 nz0 cz0) ∧ w'.cell? ⟨W.heap.size, 3, none⟩ = some (.slice Oz0 mz0 dz0)) (first | exact hK.out _ D | exact hK.out _ Bq1 | exact hK.out _ b13 | go_keep) (first | (go_at_call 16; refine (hE.out uq1 wq1 Bq1 oq1.has).mono ?_; rintro e w13 ⟨rfl, bq2⟩; have b13 := Bq1.trans (bq2.mono Bq1.size)) | (go_at_call 14; refine (HT.out).mono ?_; rintro e wq1 ⟨uq1, rfl, oq1, bq1⟩; have Bq1 := D.trans (bq1.mono D.size)))
  clear hK HT hE oq1 bq1 Bq1 bq2 D sD
  have s13 := b13.size
  have B13 := B12.trans (b13.mono (by omega))
  have a0_13 := a0_12.below b13
  have a1_13 := a1_12.below b13
  have a2_13 := a2_12.below b13
  have box0_13 := box0_12.below' b13
  have sp0_13 := sp0_12.below b13
  have v0_13 := v0_12.below b13
  have var_v0_13 := var_v0_12.below' b13
  have v1_13 := v1_12.below b13
  have v2_13 := v2_12.below b13
  have im0_13 := im0_12.below b13
  clear b13 B12 a0_12 a1_12 a2_12 box0_12 sp0_12 v0_12 var_v0_12 v1_12 v2_12 im0_12
  go_wp2_with fail
  refine (toIntS_any A1 n1 c1 zs1 _ a1_13 (by omega)).mono ?_
  rintro e w14 ⟨X_y1, rfl, y1_14, b14⟩
  have s14 := b14.size
  have B14 := B13.trans (b14.mono (by omega))
  have a0_14 := a0_13.below b14
  have a1_14 := a1_13.below b14
  have a2_14 := a2_13.below b14
  have box0_14 := box0_13.below' b14
  have sp0_14 := sp0_13.below b14
  have v0_14 := v0_13.below b14
  have var_v0_14 := var_v0_13.below' b14
  have v1_14 := v1_13.below b14
  have v2_14 := v2_13.below b14
  have im0_14 := im0_13.below b14
  clear b14 B13 a0_13 a1_13 a2_13 box0_13 sp0_13 v0_13 var_v0_13 v1_13 v2_13 im0_13
  have ob_y1 := y1_14
  go_wp2_with fail
  refine (eqIntS_same _ _ n1 n1 _ _ _ _ v1_14.has y1_14.has (by omega)).mono ?_
  rintro e w15 ⟨rfl, b15⟩
  have s15 := b15.size
  have B15 := B14.trans (b15.mono (by omega))
  have a0_15 := a0_14.below b15
  have a1_15 := a1_14.below b15
  have a2_15 := a2_14.below b15
  have box0_15 := box0_14.below' b15
  have sp0_15 := sp0_14.below b15
  have v0_15 := v0_14.below b15
  have var_v0_15 := var_v0_14.below' b15
  have v1_15 := v1_14.below b15
  have v2_15 := v2_14.below b15
  have im0_15 := im0_14.below b15
  have y1_15 := y1_14.below b15
  clear b15 B14 a0_14 a1_14 a2_14 box0_14 sp0_14 v0_14 var_v0_14 v1_14 v2_14 im0_14 y1_14
  go_wp2_with fail
  refine (toIntS_any A2 n2 c2 zs2 _ a2_15 (by omega)).mono ?_
  rintro e w16 ⟨X_y2, rfl, y2_16, b16⟩
  have s16 := b16.size
  have B16 := B15.trans (b16.mono (by omega))
  have a0_16 := a0_15.below b16
  have a1_16 := a1_15.below b16
  have a2_16 := a2_15.below b16
  have box0_16 := box0_15.below' b16
  have sp0_16 := sp0_15.below b16
  have v0_16 := v0_15.below b16
  have var_v0_16 := var_v0_15.below' b16
  have v1_16 := v1_15.below b16
  have v2_16 := v2_15.below b16
  have im0_16 := im0_15.below b16
  clear b16 B15 a0_15 a1_15 a2_15 box0_15 sp0_15 v0_15 var_v0_15 v1_15 v2_15 im0_15
  have ob_y2 := y2_16
  go_wp2_with fail
  refine (eqIntS_same _ _ n2 n2 _ _ _ _ v2_16.has y2_16.has (by omega)).mono ?_
  rintro e w17 ⟨rfl, b17⟩
  have s17 := b17.size
  have B17 := B16.trans (b17.mono (by omega))
  have a0_17 := a0_16.below b17
  have a1_17 := a1_16.below b17
  have a2_17 := a2_16.below b17
  have box0_17 := box0_16.below' b17
  have sp0_17 := sp0_16.below b17
  have v0_17 := v0_16.below b17
  have var_v0_17 := var_v0_16.below' b17
  have v1_17 := v1_16.below b17
  have v2_17 := v2_16.below b17
  have im0_17 := im0_16.below b17
  have y2_17 := y2_16.below b17
  clear b17 B16 a0_16 a1_16 a2_16 box0_16 sp0_16 v0_16 var_v0_16 v1_16 v2_16 im0_16 y2_16
  have hs0 : 0 ≤ sizeC C0 ∧ sizeC C0 ≤ 4194304 := by unfold sizeC; omega
  have var_v0_c0 := var_v0_17.cell (i := 0) rfl
  have var_v0_c1 := var_v0_17.cell (i := 1) rfl
  have var_v0_c2 := var_v0_17.cell (i := 2) rfl
  have var_v0_c3 := var_v0_17.cell (i := 3) rfl
  go_wp2_with fail
  clear var_v0_c0 var_v0_c1 var_v0_c2 var_v0_c3
  refine (markCircuit_any _ C0 C0 _ _ w17 _ v0_17 ob_v0 (by omega) l0a l0b (by omega) (by omega)).mono ?_
  rintro e w18 ⟨rfl, v0_18, g18⟩
  have s18 := g18.size
  have B18 := belowSpan B17 g18 (by omega) (by omega)
  have a0_18 := a0_17.span g18 ob_a0 (by omega)
  have a1_18 := a1_17.span g18 (fun h0 ad e => Nat.lt_of_lt_of_le (old_a1 h0 ad e) (by omega))
  have a2_18 := a2_17.span g18 (fun h0 ad e => Nat.lt_of_lt_of_le (old_a2 h0 ad e) (by omega))
  have box0_18 : Blk w18 (W.heap.size) #[.int .i64 C0.in0, .int .i64 C0.in1, .slice Gz0 nz0 cz0, .slice Oz0 mz0 dz0] 25 := by first | exact box0_17.span g18 (by omega) | exact box0_17.spanHi g18 (by omega)
  have sp0_18 := sp0_17.span g18 (fun h0 ad e => Nat.lt_of_lt_of_le (old_sp0 h0 ad e) (by omega))
  have var_v0_18 : Blk w18 (w7.heap.size) #[.int .i64 C0.in0, .int .i64 C0.in1, .slice Gp0 np0 cp0, .slice Op0 mp0 dp0] 30 := by first | exact var_v0_17.span g18 (by omega) | exact var_v0_17.spanHi g18 (by omega)
  have v1_18 := v1_17.span g18 (by omega)
  have v2_18 := v2_17.span g18 (by omega)
  have im0_18 := im0_17.span g18 (by omega)
  clear g18 B17 a0_17 a1_17 a2_17 box0_17 sp0_17 v0_17 var_v0_17 v1_17 v2_17 im0_17
  go_wp2_with fail
  refine (markIntS_any _ _ _ _ _ _ _ v1_18 (by omega) (by omega) (by omega)).mono ?_
  rintro e w19 ⟨rfl, v1_19, h19⟩
  have g19 := spanOf h19 ob_v1
  have s19 := g19.size
  have B19 := belowSpan B18 g19 (by omega) (by omega)
  have a0_19 := a0_18.span g19 ob_a0 (by omega)
  have a1_19 := a1_18.span g19 (fun h0 ad e => Nat.lt_of_lt_of_le (old_a1 h0 ad e) (by omega))
  have a2_19 := a2_18.span g19 (fun h0 ad e => Nat.lt_of_lt_of_le (old_a2 h0 ad e) (by omega))
  have box0_19 : Blk w19 (W.heap.size) #[.int .i64 C0.in0, .int .i64 C0.in1, .slice Gz0 nz0 cz0, .slice Oz0 mz0 dz0] 25 := by first | exact box0_18.span g19 (by omega) | exact box0_18.spanHi g19 (by omega)
  have sp0_19 := sp0_18.span g19 (fun h0 ad e => Nat.lt_of_lt_of_le (old_sp0 h0 ad e) (by omega))
  have v2_19 := v2_18.span g19 (by omega)
  have im0_19 := im0_18.span g19 (by omega)
  clear g19 B18 h19 a0_18 a1_18 a2_18 box0_18 sp0_18 v1_18 v2_18 im0_18
  go_wp2_with fail
  refine (markIntS_any _ _ _ _ _ _ _ v2_19 (by omega) (by omega) (by omega)).mono ?_
  rintro e w20 ⟨rfl, v2_20, h20⟩
  have g20 := spanOf h20 ob_v2
  have s20 := g20.size
  have B20 := belowSpan B19 g20 (by omega) (by omega)
  have a0_20 := a0_19.span g20 ob_a0 (by omega)
  have a1_20 := a1_19.span g20 (fun h0 ad e => Nat.lt_of_lt_of_le (old_a1 h0 ad e) (by omega))
  have a2_20 := a2_19.span g20 (fun h0 ad e => Nat.lt_of_lt_of_le (old_a2 h0 ad e) (by omega))
  have box0_20 : Blk w20 (W.heap.size) #[.int .i64 C0.in0, .int .i64 C0.in1, .slice Gz0 nz0 cz0, .slice Oz0 mz0 dz0] 25 := by first | exact box0_19.span g20 (by omega) | exact box0_19.spanHi g20 (by omega)
  have sp0_20 := sp0_19.span g20 (fun h0 ad e => Nat.lt_of_lt_of_le (old_sp0 h0 ad e) (by omega))
  have im0_20 := im0_19.span g20 (by omega)
  clear g20 B19 h20 a0_19 a1_19 a2_19 box0_19 sp0_19 v2_19 im0_19
  go_wp2_with fail
  refine (eqIntS_same _ _ m_im0 m_sp0 _ _ _ _ im0_20.has sp0_20 (by omega)).mono ?_
  rintro e w21 ⟨rfl, b21⟩
  have s21 := b21.size
  have B21 := B20.trans (b21.mono (by omega))
  have a0_21 := a0_20.below b21
  have a1_21 := a1_20.below b21
  have a2_21 := a2_20.below b21
  have box0_21 := box0_20.below' b21
  have sp0_21 := sp0_20.below b21
  have im0_21 := im0_20.below b21
  clear b21 B20 a0_20 a1_20 a2_20 box0_20 sp0_20 im0_20
  go_wp2_with fail
  refine (markIntS_any _ _ _ _ _ _ _ im0_21 (by omega) (by omega) (by omega)).mono ?_
  rintro e w22 ⟨rfl, im0_22, h22⟩
  have g22 := spanOf h22 ob_im0
  have s22 := g22.size
  have B22 := belowSpan B21 g22 (by omega) (by omega)
  have a0_22 := a0_21.span g22 ob_a0 (by omega)
  have a1_22 := a1_21.span g22 (fun h0 ad e => Nat.lt_of_lt_of_le (old_a1 h0 ad e) (by omega))
  have a2_22 := a2_21.span g22 (fun h0 ad e => Nat.lt_of_lt_of_le (old_a2 h0 ad e) (by omega))
  have box0_22 : Blk w22 (W.heap.size) #[.int .i64 C0.in0, .int .i64 C0.in1, .slice Gz0 nz0 cz0, .slice Oz0 mz0 dz0] 25 := by first | exact box0_21.span g22 (by omega) | exact box0_21.spanHi g22 (by omega)
  have sp0_22 := sp0_21.span g22 (fun h0 ad e => Nat.lt_of_lt_of_le (old_sp0 h0 ad e) (by omega))
  clear g22 B21 h22 a0_21 a1_21 a2_21 box0_21 sp0_21 im0_21
  go_wp2_with fail
  refine (heldIntS_any _ _ _ _ _ im0_22.has (by omega) (by omega) (by omega)).mono ?_
  rintro e w23 ⟨rfl, b23⟩
  have s23 := b23.size
  have B23 := B22.trans (b23.mono (by omega))
  have a0_23 := a0_22.below b23
  have a1_23 := a1_22.below b23
  have a2_23 := a2_22.below b23
  have box0_23 := box0_22.below' b23
  have sp0_23 := sp0_22.below b23
  have im0_23 := im0_22.below b23
  clear b23 B22 a0_22 a1_22 a2_22 box0_22 sp0_22 im0_22
  have box0_c0 := box0_23.cell (i := 0) rfl
  have box0_c1 := box0_23.cell (i := 1) rfl
  have box0_c2 := box0_23.cell (i := 2) rfl
  have box0_c3 := box0_23.cell (i := 3) rfl
  go_wp2_with fail
  clear box0_c0 box0_c1 box0_c2 box0_c3
  refine (toCircuit_any _ C0 w23 a0_23 l0a l0b).mono ?_
  rintro e w24 ⟨u_ag_u0, rfl, ag_u0_24, b24⟩
  have s24 := b24.size
  have B24 := B23.trans (b24.mono (by omega))
  have a0_24 := a0_23.below b24
  have a1_24 := a1_23.below b24
  have a2_24 := a2_23.below b24
  have box0_24 := box0_23.below' b24
  have sp0_24 := sp0_23.below b24
  have im0_24 := im0_23.below b24
  clear b24 B23 a0_23 a1_23 a2_23 box0_23 sp0_23 im0_23
  have ob_ag_u0 := ag_u0_24
  go_wp2_with fail
  refine (toIntS_any A1 n1 c1 zs1 _ a1_24 (by omega)).mono ?_
  rintro e w25 ⟨X_ag_u1, rfl, ag_u1_25, b25⟩
  have s25 := b25.size
  have B25 := B24.trans (b25.mono (by omega))
  have a0_25 := a0_24.below b25
  have a1_25 := a1_24.below b25
  have a2_25 := a2_24.below b25
  have box0_25 := box0_24.below' b25
  have sp0_25 := sp0_24.below b25
  have im0_25 := im0_24.below b25
  have ag_u0_25 := ag_u0_24.below b25
  clear b25 B24 a0_24 a1_24 a2_24 box0_24 sp0_24 im0_24 ag_u0_24
  have ob_ag_u1 := ag_u1_25
  go_wp2_with fail
  refine (toIntS_any A2 n2 c2 zs2 _ a2_25 (by omega)).mono ?_
  rintro e w26 ⟨X_ag_u2, rfl, ag_u2_26, b26⟩
  have s26 := b26.size
  have B26 := B25.trans (b26.mono (by omega))
  have a0_26 := a0_25.below b26
  have a1_26 := a1_25.below b26
  have a2_26 := a2_25.below b26
  have box0_26 := box0_25.below' b26
  have sp0_26 := sp0_25.below b26
  have im0_26 := im0_25.below b26
  have ag_u0_26 := ag_u0_25.below b26
  have ag_u1_26 := ag_u1_25.below b26
  clear b26 B25 a0_25 a1_25 a2_25 box0_25 sp0_25 im0_25 ag_u0_25 ag_u1_25
  have ob_ag_u2 := ag_u2_26
  go_wp2_with fail
  refine (impl_EvalCircuit u_ag_u0 C0 X_ag_u1 n1 n1 zs1 X_ag_u2 n2 n2 zs2 rs0 rb1 w26 ag_u0_26.has fit0 ag_u1_26.has (by omega) (own_nilOk ag_u1_26) ag_u2_26.has (by omega) (own_nilOk ag_u2_26) HM.out).mono ?_
  rintro e w27 ⟨R_ag0, m_ag0, c_ag0, rfl, ag0_27, l_ag0, b27⟩
  have s27 := b27.size
  have B27 := B26.trans (b27.mono (by omega))
  have a0_27 := a0_26.below b27
  have a1_27 := a1_26.below b27
  have a2_27 := a2_26.below b27
  have box0_27 := box0_26.below' b27
  have sp0_27 := sp0_26.below b27
  have im0_27 := im0_26.below b27
  have ag_u0_27 := ag_u0_26.below b27
  have ag_u1_27 := ag_u1_26.below b27
  have ag_u2_27 := ag_u2_26.below b27
  clear b27 B26 a0_26 a1_26 a2_26 box0_26 sp0_26 im0_26 ag_u0_26 ag_u1_26 ag_u2_26
  have ob_ag0 := ag0_27
  go_wp2_with fail
  refine (eqIntS_same _ _ m_ag0 m_sp0 _ _ _ _ ag0_27.has sp0_27 (by omega)).mono ?_
  rintro e w28 ⟨rfl, b28⟩
  have s28 := b28.size
  have B28 := B27.trans (b28.mono (by omega))
  have a0_28 := a0_27.below b28
  have a1_28 := a1_27.below b28
  have a2_28 := a2_27.below b28
  have box0_28 := box0_27.below' b28
  have sp0_28 := sp0_27.below b28
  have im0_28 := im0_27.below b28
  have ag0_28 := ag0_27.below b28
  clear b28 B27 a0_27 a1_27 a2_27 box0_27 sp0_27 im0_27 ag0_27
  go_wp2_with fail
  refine (heldIntS_any _ _ _ _ _ im0_28.has (by omega) (by omega) (by omega)).mono ?_
  rintro e w29 ⟨rfl, b29⟩
  have s29 := b29.size
  have B29 := B28.trans (b29.mono (by omega))
  have a0_29 := a0_28.below b29
  have a1_29 := a1_28.below b29
  have a2_29 := a2_28.below b29
  have box0_29 := box0_28.below' b29
  have sp0_29 := sp0_28.below b29
  have im0_29 := im0_28.below b29
  have ag0_29 := ag0_28.below b29
  clear b29 B28 a0_28 a1_28 a2_28 box0_28 sp0_28 im0_28 ag0_28
  go_wp2_with fail
  go_ret
  exact ⟨rfl, B29⟩

set_option maxRecDepth 100000 in
theorem lifted (os : Os) (started : os.Started) (H : Type) (enc : TypeId × Value → H) :
    ReturnsInHanded {} Try.checked os 5 .any (Rows.fnExactEvalCircuitSpec.pre6 enc Try.prog Try.f5 Rows.fnExactEvalCircuitRow.domain false) (Rows.fnExactEvalCircuitSpec.post enc Try.prog Try.f5 false true false false) := by
  refine returnsInHanded_of_change (C := Try.checked) own started (by kernel_rfl) Try.func5
    (ChangeSpec.witness6 (enc := enc) (C := Try.checked) false ⟨#[], #[.agg #[.int .i64 0, .int .i64 0, .slice none 0 0, .slice none 0 0], .slice none 0 0, .slice none 0 0], []⟩ 8 (by kernel_rfl) (by kernel_rfl) (by kernel_rfl) (by kernel_rfl)) ?_
  intro W base args ds gs before hval0 hW hcnd _
  have hval : ∀ (j : Nat) t v, Try.f5.params[j]? = some t → args[j]? = some v → Value.okWide Try.prog W .any base t v := hval0
  have hW' := hW
  obtain ⟨p, q, hA0, hV, rfl, hfz, hnd⟩ := hW
  have hA : DataW.TrodAll enc Try.prog W 0 (fun _ => true) true Try.f5.params.toList args.toList ds p := hA0
  rw [Try.params5] at hA hval
  obtain ⟨v0, vs0, d0, ds0, p0, q0, hargs, rfl, rfl, h0, r0⟩ := trodAll_cons hA
  obtain ⟨v1, vs1, d1, ds1, p1, q1, hargs1, rfl, rfl, h1, r1⟩ := trodAll_cons r0
  obtain ⟨v2, vs2, d2, ds2, p2, q2, hargs2, rfl, rfl, h2, r2⟩ := trodAll_cons r1
  obtain ⟨rfl, rfl, rfl⟩ := trodAll_nil r2
  obtain rfl : args = #[v0, v1, v2] := by cases args; simp_all
  obtain ⟨rfl, rfl⟩ := trodVars_none hV
  clear hA0 hval0
  have hlt0 : ∀ x ∈ p0, x.block < W.heap.size := fun x hx => by simpa using hW'.lt x (by simp [hx])
  obtain ⟨C0, g0, fa0, fb0, wf0⟩ := openC (hval 0 _ v0 rfl rfl) h0
  have hlt1 : ∀ x ∈ p1, x.block < W.heap.size := fun x hx => by simpa using hW'.lt x (by simp [hx])
  obtain ⟨a1, n1, c1, zs1, rfl, g1, wf1⟩ := openInts (hval 1 _ v1 rfl rfl) h1
  have hlt2 : ∀ x ∈ p2, x.block < W.heap.size := fun x hx => by simpa using hW'.lt x (by simp [hx])
  obtain ⟨a2, n2, c2, zs2, rfl, g2, wf2⟩ := openInts (hval 2 _ v2 rfl rfl) h2
  simp only [List.append_nil] at hW'
  refine (walk v0 C0 a1 n1 c1 zs1 a2 n2 c2 zs2 W g0 fa0 fb0 wf0 g1 g2).mono fun e W' ⟨he, hb⟩ => ?_
  subst he
  exact ⟨_, rfl, lawPost (pa := p0 ++ (p1 ++ (p2))) (pv := []) hW' (fun _ _ _ => trodAll_mk1 (shut_bool Try.underlying4 _)) (trodAll_mk3 (Below.trod laidOut (by kernel_rfl) (of_decide_eq_true (by kernel_rfl)) h0 hb hlt0) (Below.trod laidOut (by kernel_rfl) (of_decide_eq_true (by kernel_rfl)) h1 hb hlt1) (Below.trod laidOut (by kernel_rfl) (of_decide_eq_true (by kernel_rfl)) h2 hb hlt2)) rfl (by simp) hb⟩

theorem proved : Rows.FnExactEvalCircuitSaid :=
  OpenClaim.holds_of_wide 5 Try.f5 rfl rfl rfl rfl rfl rfl rfl ⟨rfl, rfl, rfl, rfl, rfl⟩ rfl rfl rfl rfl rfl (by kernel_rfl) Try.func5 (by kernel_rfl)
    (of_decide_eq_true (by kernel_rfl)) (by unfold Func.isWrapper; first | (rw [if_pos (by decide +kernel)]; kernel_rfl) | (rw [if_neg (by decide +kernel)]; exact ⟨rfl, rfl⟩))
    (fun os started H enc _ => lifted os started H enc)

end Go.Proofs.Ytaohgbkhmgfnhaa.lawEvalCircuit
