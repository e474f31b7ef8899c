/- The exact law of MergeGates: for every circuit that the row allows, the program and the model answer the same, the argument is left as it was, and the answer owns its memory. -/
import Derived.Test.YteiibneaihdmbaaHelp
import Derived.Test.YteiibneaihdmbaaClose
import Derived.Test.YteiibneaihdmbaaCirAll
import Derived.Test.YteiibneaihdmbaaSiG9
import Derived.Test.YteiibneaihdmbaaSiI8
import Derived.Deep.RegionHeld3
namespace Go.Proofs.Yteiibneaihdmbaa.lawMergeGates
open Go.ChangeShapes Go.WideShapes Go.ChangeAt Go.RowKit
set_option maxRecDepth 100000

set_option maxRecDepth 100000 in
set_option maxHeartbeats 2000000 in
theorem walk (v0 : Value) (C0 : Ci) (W : World) (a0_0 : HasC W v0 C0) (fa0 : C0.gs.length ≤ maxLen) (fb0 : C0.os.length ≤ maxLen) (wz0 : C64 C0) :
    Calls Try.prog 3 #[v0] W fun e W' => e = .returned (.bool true) ∧ Below W.heap.size W W' := by
  obtain ⟨Gz0, nz0, cz0, Oz0, mz0, dz0, rfl, hgz0, hoz0, _, _, _, _⟩ := id a0_0
  have hgl0 := hgz0.1
  have hol0 := hoz0.1
  have ob_a0 := a0_0
  clear hgz0 hoz0
  have B0 : Below W.heap.size W W := Below.refl _ _
  have s0 : W.heap.size ≤ W.heap.size := Nat.le_refl _
  have b1 := belowNew W (.cells #[.int .i64 C0.in0, .int .i64 C0.in1, .slice Gz0 nz0 cz0, .slice Oz0 mz0 dz0] 25)
  have s1 := b1.size
  have t1 : (W.alloc (.cells #[.int .i64 C0.in0, .int .i64 C0.in1, .slice Gz0 nz0 cz0, .slice Oz0 mz0 dz0] 25)).heap.size = W.heap.size + 1 := by simp
  have box0_1 := Blk.new W #[.int .i64 C0.in0, .int .i64 C0.in1, .slice Gz0 nz0 cz0, .slice Oz0 mz0 dz0] 25
  have B1 := B0.trans (b1.mono (by omega))
  have a0_1 := a0_0.below b1
  clear b1 B0 a0_0
  generalize hw1 : W.alloc (.cells #[.int .i64 C0.in0, .int .i64 C0.in1, .slice Gz0 nz0 cz0, .slice Oz0 mz0 dz0] 25) = w1 at *
  obtain ⟨r, hm⟩ : ∃ r, m_MergeGates C0 = r := ⟨_, rfl⟩
  obtain ⟨RC0, rb1⟩ := r
  have HM := Lib.hid hm
  clear hm
  go_enter Try.func3, Try.ntmps3
  have box0_c0 := box0_1.cell (i := 0) rfl
  have box0_c1 := box0_1.cell (i := 1) rfl
  have box0_c2 := box0_1.cell (i := 2) rfl
  have box0_c3 := box0_1.cell (i := 3) rfl
  go_wp2_with fail
  try rw [hw1]
  clear hw1
  clear box0_c0 box0_c1 box0_c2 box0_c3
  refine (szCircuit_any C0.in0 C0.in1 Gz0 nz0 cz0 Oz0 mz0 dz0 C0 1048576 w1 hgl0 hol0 (by omega) (by omega) (by omega) (by omega)).mono ?_
  rintro e w2 ⟨rfl, b2⟩
  have s2 := b2.size
  have B2 := B1.trans (b2.mono (by omega))
  have a0_2 := a0_1.below b2
  have box0_2 := box0_1.below' b2
  clear b2 B1 a0_1 box0_1
  generalize hlf0 : leftOf C0 1048576 = lf0
  by_cases hneg0 : lf0 < 0
  · go_wp2_with fail
    go_ret
    exact ⟨rfl, B2⟩
  obtain ⟨l0a, l0b, l0c⟩ := leftFit hlf0 hneg0 (by omega)
  have fit0 : Fit C0 := ⟨l0a, l0b, wz0⟩
  clear hlf0
  have box0_c0 := box0_2.cell (i := 0) rfl
  have box0_c1 := box0_2.cell (i := 1) rfl
  have box0_c2 := box0_2.cell (i := 2) rfl
  have box0_c3 := box0_2.cell (i := 3) rfl
  go_wp2_with fail
  clear box0_c0 box0_c1 box0_c2 box0_c3
  refine (toCircuit_any _ C0 w2 a0_2 l0a l0b).mono ?_
  rintro e w3 ⟨u_sp_u0, rfl, sp_u0_3, b3⟩
  have s3 := b3.size
  have B3 := B2.trans (b3.mono (by omega))
  have a0_3 := a0_2.below b3
  have box0_3 := box0_2.below' b3
  clear b3 B2 a0_2 box0_2
  have ob_sp_u0 := sp_u0_3
  go_wp2_with fail
  refine (spec_MergeGates u_sp_u0 C0 RC0 rb1 w3 sp_u0_3.has fit0 HM.out).mono ?_
  rintro e w4 ⟨u_sp0, rfl, sp0_4, la_sp0, lb_sp0, b4⟩
  have s4 := b4.size
  have B4 := B3.trans (b4.mono (by omega))
  have a0_4 := a0_3.below b4
  have box0_4 := box0_3.below' b4
  have sp_u0_4 := sp_u0_3.below b4
  clear b4 B3 a0_3 box0_3 sp_u0_3
  have ob_sp0 := sp0_4
  obtain ⟨Gsp0, nsp0, csp0, Osp0, msp0, dsp0, rfl, _, _, _, _, _, _⟩ := id sp0_4
  have b5 := belowNew w4 (.cells #[.int .i64 RC0.in0, .int .i64 RC0.in1, .slice Gsp0 nsp0 csp0, .slice Osp0 msp0 dsp0] 29)
  have s5 := b5.size
  have t5 : (w4.alloc (.cells #[.int .i64 RC0.in0, .int .i64 RC0.in1, .slice Gsp0 nsp0 csp0, .slice Osp0 msp0 dsp0] 29)).heap.size = w4.heap.size + 1 := by simp
  have var_sp0_5 := Blk.new w4 #[.int .i64 RC0.in0, .int .i64 RC0.in1, .slice Gsp0 nsp0 csp0, .slice Osp0 msp0 dsp0] 29
  have B5 := B4.trans (b5.mono (by omega))
  have a0_5 := a0_4.below b5
  have box0_5 := box0_4.below' b5
  have sp_u0_5 := sp_u0_4.below b5
  have sp0_5 := sp0_4.below b5
  clear b5 B4 a0_4 box0_4 sp_u0_4 sp0_4
  generalize hw5 : w4.alloc (.cells #[.int .i64 RC0.in0, .int .i64 RC0.in1, .slice Gsp0 nsp0 csp0, .slice Osp0 msp0 dsp0] 29) = w5 at *
  have box0_c0 := box0_5.cell (i := 0) rfl
  have box0_c1 := box0_5.cell (i := 1) rfl
  have box0_c2 := box0_5.cell (i := 2) rfl
  have box0_c3 := box0_5.cell (i := 3) rfl
  go_wp2_with fail
  try rw [hw5]
  clear hw5
  clear box0_c0 box0_c1 box0_c2 box0_c3
  refine (toCircuit_any _ C0 w5 a0_5 l0a l0b).mono ?_
  rintro e w6 ⟨u_v0, rfl, v0_6, b6⟩
  have s6 := b6.size
  have B6 := B5.trans (b6.mono (by omega))
  have a0_6 := a0_5.below b6
  have box0_6 := box0_5.below' b6
  have sp0_6 := sp0_5.below b6
  have var_sp0_6 := var_sp0_5.below' b6
  clear b6 B5 a0_5 box0_5 sp0_5 var_sp0_5
  have ob_v0 := v0_6
  obtain ⟨Gp0, np0, cp0, Op0, mp0, dp0, rfl, _, _⟩ := id v0_6
  have b7 := belowNew w6 (.cells #[.int .i64 C0.in0, .int .i64 C0.in1, .slice Gp0 np0 cp0, .slice Op0 mp0 dp0] 29)
  have s7 := b7.size
  have t7 : (w6.alloc (.cells #[.int .i64 C0.in0, .int .i64 C0.in1, .slice Gp0 np0 cp0, .slice Op0 mp0 dp0] 29)).heap.size = w6.heap.size + 1 := by simp
  have var_v0_7 := Blk.new w6 #[.int .i64 C0.in0, .int .i64 C0.in1, .slice Gp0 np0 cp0, .slice Op0 mp0 dp0] 29
  have B7 := B6.trans (b7.mono (by omega))
  have a0_7 := a0_6.below b7
  have box0_7 := box0_6.below' b7
  have sp0_7 := sp0_6.below b7
  have var_sp0_7 := var_sp0_6.below' b7
  have v0_7 := v0_6.below b7
  clear b7 B6 a0_6 box0_6 sp0_6 var_sp0_6 v0_6
  generalize hw7 : w6.alloc (.cells #[.int .i64 C0.in0, .int .i64 C0.in1, .slice Gp0 np0 cp0, .slice Op0 mp0 dp0] 29) = w7 at *
  have var_v0_c0 := var_v0_7.cell (i := 0) rfl
  have var_v0_c1 := var_v0_7.cell (i := 1) rfl
  have var_v0_c2 := var_v0_7.cell (i := 2) rfl
  have var_v0_c3 := var_v0_7.cell (i := 3) rfl
  go_wp2_with fail
  try rw [hw7]
  clear hw7
  clear var_v0_c0 var_v0_c1 var_v0_c2 var_v0_c3
  refine (impl_MergeGates (.agg #[.int .i64 C0.in0, .int .i64 C0.in1, .slice Gp0 np0 cp0, .slice Op0 mp0 dp0]) C0 RC0 rb1 w7 v0_7.has fit0 HM.out).mono ?_
  rintro e w8 ⟨u_im0, rfl, im0_8, la_im0, lb_im0, b8⟩
  have s8 := b8.size
  have B8 := B7.trans (b8.mono (by omega))
  have a0_8 := a0_7.below b8
  have box0_8 := box0_7.below' b8
  have sp0_8 := sp0_7.below b8
  have var_sp0_8 := var_sp0_7.below' b8
  have v0_8 := v0_7.below b8
  have var_v0_8 := var_v0_7.below' b8
  clear b8 B7 a0_7 box0_7 sp0_7 var_sp0_7 v0_7 var_v0_7
  have ob_im0 := im0_8
  obtain ⟨Gim0, nim0, cim0, Oim0, mim0, dim0, rfl, _, _⟩ := id im0_8
  have b9 := belowNew w8 (.cells #[.int .i64 RC0.in0, .int .i64 RC0.in1, .slice Gim0 nim0 cim0, .slice Oim0 mim0 dim0] 29)
  have s9 := b9.size
  have t9 : (w8.alloc (.cells #[.int .i64 RC0.in0, .int .i64 RC0.in1, .slice Gim0 nim0 cim0, .slice Oim0 mim0 dim0] 29)).heap.size = w8.heap.size + 1 := by simp
  have var_im0_9 := Blk.new w8 #[.int .i64 RC0.in0, .int .i64 RC0.in1, .slice Gim0 nim0 cim0, .slice Oim0 mim0 dim0] 29
  have B9 := B8.trans (b9.mono (by omega))
  have a0_9 := a0_8.below b9
  have box0_9 := box0_8.below' b9
  have sp0_9 := sp0_8.below b9
  have var_sp0_9 := var_sp0_8.below' b9
  have v0_9 := v0_8.below b9
  have var_v0_9 := var_v0_8.below' b9
  have im0_9 := im0_8.below b9
  clear b9 B8 a0_8 box0_8 sp0_8 var_sp0_8 v0_8 var_v0_8 im0_8
  generalize hw9 : w8.alloc (.cells #[.int .i64 RC0.in0, .int .i64 RC0.in1, .slice Gim0 nim0 cim0, .slice Oim0 mim0 dim0] 29) = w9 at *
  have var_im0_c0 := var_im0_9.cell (i := 0) rfl
  have var_im0_c1 := var_im0_9.cell (i := 1) rfl
  have var_im0_c2 := var_im0_9.cell (i := 2) rfl
  have var_im0_c3 := var_im0_9.cell (i := 3) rfl
  have var_sp0_c0 := var_sp0_9.cell (i := 0) rfl
  have var_sp0_c1 := var_sp0_9.cell (i := 1) rfl
  have var_sp0_c2 := var_sp0_9.cell (i := 2) rfl
  have var_sp0_c3 := var_sp0_9.cell (i := 3) rfl
  go_wp2_with fail
  try rw [hw9]
  clear hw9
  clear var_im0_c0 var_im0_c1 var_im0_c2 var_im0_c3 var_sp0_c0 var_sp0_c1 var_sp0_c2 var_sp0_c3
  refine (eqCircuit_same _ _ RC0 w9 im0_9.has sp0_9 la_sp0 lb_sp0).mono ?_
  rintro e w10 ⟨rfl, b10⟩
  have s10 := b10.size
  have B10 := B9.trans (b10.mono (by omega))
  have a0_10 := a0_9.below b10
  have box0_10 := box0_9.below' b10
  have sp0_10 := sp0_9.below b10
  have var_sp0_10 := var_sp0_9.below' b10
  have v0_10 := v0_9.below b10
  have var_v0_10 := var_v0_9.below' b10
  have im0_10 := im0_9.below b10
  have var_im0_10 := var_im0_9.below' b10
  clear b10 B9 a0_9 box0_9 sp0_9 var_sp0_9 v0_9 var_v0_9 im0_9 var_im0_9
  have box0_c0 := box0_10.cell (i := 0) rfl
  have box0_c1 := box0_10.cell (i := 1) rfl
  have box0_c2 := box0_10.cell (i := 2) rfl
  have box0_c3 := box0_10.cell (i := 3) rfl
  have var_v0_c0 := var_v0_10.cell (i := 0) rfl
  have var_v0_c1 := var_v0_10.cell (i := 1) rfl
  have var_v0_c2 := var_v0_10.cell (i := 2) rfl
  have var_v0_c3 := var_v0_10.cell (i := 3) rfl
  go_wp2_with fail
  clear box0_c0 box0_c1 box0_c2 box0_c3 var_v0_c0 var_v0_c1 var_v0_c2 var_v0_c3
  have hK : Hid (∀ W', Below w10.heap.size w10 W' → W'.cell? ⟨w6.heap.size, 0, none⟩ = some (.int .i64 C0.in0) ∧ W'.cell? ⟨w6.heap.size, 1, none⟩ = some (.int .i64 C0.in1) ∧ W'.cell? ⟨w6.heap.size, 2, none⟩ = some (.slice Gp0 np0 cp0) ∧ W'.cell? ⟨w6.heap.size, 3, none⟩ = some (.slice Op0 mp0 dp0) ∧ W'.cell? ⟨W.heap.size, 0, none⟩ = some (.int .i64 C0.in0) ∧ W'.cell? ⟨W.heap.size, 1, none⟩ = some (.int .i64 C0.in1) ∧ W'.cell? ⟨W.heap.size, 2, none⟩ = some (.slice Gz0 nz0 cz0) ∧ W'.cell? ⟨W.heap.size, 3, none⟩ = some (.slice Oz0 mz0 dz0)) := fun W' hb =>
    ⟨(var_v0_10.below' hb).cell (i := 0) rfl, (var_v0_10.below' hb).cell (i := 1) rfl, (var_v0_10.below' hb).cell (i := 2) rfl, (var_v0_10.below' hb).cell (i := 3) rfl, (box0_10.below' hb).cell (i := 0) rfl, (box0_10.below' hb).cell (i := 1) rfl, (box0_10.below' hb).cell (i := 2) rfl, (box0_10.below' hb).cell (i := 3) rfl⟩
  have D : Below w10.heap.size w10 w10.drew := (Below.refl _ w10).drew
  have sD := D.size
  have HT := Lib.hid (toCircuit_any (.agg #[.int .i64 C0.in0, .int .i64 C0.in1, .slice Gz0 nz0 cz0, .slice Oz0 mz0 dz0]) C0 w10.drew (a0_10.below D) l0a l0b)
  have hE : Hid (∀ u W', Below w10.heap.size w10 W' → HasC W' u C0 → Calls Try.prog 19 #[(.agg #[.int .i64 C0.in0, .int .i64 C0.in1, .slice Gp0 np0 cp0, .slice Op0 mp0 dp0]), u] W' fun e w' => e = .returned (.bool true) ∧ Below W'.heap.size W' w') := fun u W' hb hu => eqCircuit_same _ u C0 W' (v0_10.has.below hb) hu l0a l0b
  go_region_held3 (fun w' => w'.cell? ⟨w6.heap.size, 0, none⟩ = some (.int .i64 C0.in0) ∧ w'.cell? ⟨w6.heap.size, 1, none⟩ = some (.int .i64 C0.in1) ∧ w'.cell? ⟨w6.heap.size, 2, none⟩ = some (.slice Gp0 np0 cp0) ∧ w'.cell? ⟨w6.heap.size, 3, none⟩ = some (.slice Op0 mp0 dp0) ∧ w'.cell? ⟨W.heap.size, 0, none⟩ = some (.int .i64 C0.in0) ∧ w'.cell? ⟨W.heap.size, 1, none⟩ = some (.int .i64 C0.in1) ∧ w'.cell? ⟨W.heap.size, 2, none⟩ = some (.slice Gz0 nz0 cz0) ∧ w'.cell? ⟨W.heap.size, 3, none⟩ = some (.slice Oz0 mz0 dz0)) (first | exact hK.out _ D | exact hK.out _ Bq1 | exact hK.out _ b11 | go_keep) (first | (go_at_call 19; refine (hE.out uq1 wq1 Bq1 oq1.has).mono ?_; rintro e w11 ⟨rfl, bq2⟩; have b11 := Bq1.trans (bq2.mono Bq1.size)) | (go_at_call 17; refine (HT.out).mono ?_; rintro e wq1 ⟨uq1, rfl, oq1, bq1⟩; have Bq1 := D.trans (bq1.mono D.size)))
  clear hK HT hE oq1 bq1 Bq1 bq2 D sD
  have s11 := b11.size
  have B11 := B10.trans (b11.mono (by omega))
  have a0_11 := a0_10.below b11
  have box0_11 := box0_10.below' b11
  have sp0_11 := sp0_10.below b11
  have var_sp0_11 := var_sp0_10.below' b11
  have v0_11 := v0_10.below b11
  have var_v0_11 := var_v0_10.below' b11
  have im0_11 := im0_10.below b11
  have var_im0_11 := var_im0_10.below' b11
  clear b11 B10 a0_10 box0_10 sp0_10 var_sp0_10 v0_10 var_v0_10 im0_10 var_im0_10
  have hs0 : 0 ≤ sizeC C0 ∧ sizeC C0 ≤ 4194304 := by unfold sizeC; omega
  have var_v0_c0 := var_v0_11.cell (i := 0) rfl
  have var_v0_c1 := var_v0_11.cell (i := 1) rfl
  have var_v0_c2 := var_v0_11.cell (i := 2) rfl
  have var_v0_c3 := var_v0_11.cell (i := 3) rfl
  go_wp2_with fail
  clear var_v0_c0 var_v0_c1 var_v0_c2 var_v0_c3
  refine (markCircuit_any _ C0 C0 _ _ w11 _ v0_11 ob_v0 (by omega) l0a l0b (by omega) (by omega)).mono ?_
  rintro e w12 ⟨rfl, v0_12, g12⟩
  have s12 := g12.size
  have B12 := belowSpan B11 g12 (by omega) (by omega)
  have a0_12 := a0_11.span g12 ob_a0 (by omega)
  have box0_12 : Blk w12 (W.heap.size) #[.int .i64 C0.in0, .int .i64 C0.in1, .slice Gz0 nz0 cz0, .slice Oz0 mz0 dz0] 25 := by first | exact box0_11.span g12 (by omega) | exact box0_11.spanHi g12 (by omega)
  have sp0_12 := sp0_11.span g12 ob_sp0 (by omega)
  have var_sp0_12 : Blk w12 (w4.heap.size) #[.int .i64 RC0.in0, .int .i64 RC0.in1, .slice Gsp0 nsp0 csp0, .slice Osp0 msp0 dsp0] 29 := by first | exact var_sp0_11.span g12 (by omega) | exact var_sp0_11.spanHi g12 (by omega)
  have var_v0_12 : Blk w12 (w6.heap.size) #[.int .i64 C0.in0, .int .i64 C0.in1, .slice Gp0 np0 cp0, .slice Op0 mp0 dp0] 29 := by first | exact var_v0_11.span g12 (by omega) | exact var_v0_11.spanHi g12 (by omega)
  have im0_12 := im0_11.span g12 (by omega)
  have var_im0_12 : Blk w12 (w8.heap.size) #[.int .i64 RC0.in0, .int .i64 RC0.in1, .slice Gim0 nim0 cim0, .slice Oim0 mim0 dim0] 29 := by first | exact var_im0_11.span g12 (by omega) | exact var_im0_11.spanHi g12 (by omega)
  clear g12 B11 a0_11 box0_11 sp0_11 var_sp0_11 v0_11 var_v0_11 im0_11 var_im0_11
  have var_im0_c0 := var_im0_12.cell (i := 0) rfl
  have var_im0_c1 := var_im0_12.cell (i := 1) rfl
  have var_im0_c2 := var_im0_12.cell (i := 2) rfl
  have var_im0_c3 := var_im0_12.cell (i := 3) rfl
  have var_sp0_c0 := var_sp0_12.cell (i := 0) rfl
  have var_sp0_c1 := var_sp0_12.cell (i := 1) rfl
  have var_sp0_c2 := var_sp0_12.cell (i := 2) rfl
  have var_sp0_c3 := var_sp0_12.cell (i := 3) rfl
  go_wp2_with fail
  clear var_im0_c0 var_im0_c1 var_im0_c2 var_im0_c3 var_sp0_c0 var_sp0_c1 var_sp0_c2 var_sp0_c3
  refine (eqCircuit_same _ _ RC0 w12 im0_12.has sp0_12 la_sp0 lb_sp0).mono ?_
  rintro e w13 ⟨rfl, b13⟩
  have s13 := b13.size
  have B13 := B12.trans (b13.mono (by omega))
  have a0_13 := a0_12.below b13
  have box0_13 := box0_12.below' b13
  have sp0_13 := sp0_12.below b13
  have var_sp0_13 := var_sp0_12.below' b13
  have im0_13 := im0_12.below b13
  have var_im0_13 := var_im0_12.below' b13
  clear b13 B12 a0_12 box0_12 sp0_12 var_sp0_12 im0_12 var_im0_12
  have hr0 : 0 ≤ sizeC RC0 ∧ sizeC RC0 ≤ 4194304 := by unfold sizeC; omega
  have var_im0_c0 := var_im0_13.cell (i := 0) rfl
  have var_im0_c1 := var_im0_13.cell (i := 1) rfl
  have var_im0_c2 := var_im0_13.cell (i := 2) rfl
  have var_im0_c3 := var_im0_13.cell (i := 3) rfl
  go_wp2_with fail
  clear var_im0_c0 var_im0_c1 var_im0_c2 var_im0_c3
  refine (markCircuit_any _ RC0 RC0 _ _ w13 _ im0_13 ob_im0 (by omega) la_sp0 lb_sp0 (by omega) (by omega)).mono ?_
  rintro e w14 ⟨rfl, im0_14, g14⟩
  have s14 := g14.size
  have B14 := belowSpan B13 g14 (by omega) (by omega)
  have a0_14 := a0_13.span g14 ob_a0 (by omega)
  have box0_14 : Blk w14 (W.heap.size) #[.int .i64 C0.in0, .int .i64 C0.in1, .slice Gz0 nz0 cz0, .slice Oz0 mz0 dz0] 25 := by first | exact box0_13.span g14 (by omega) | exact box0_13.spanHi g14 (by omega)
  have sp0_14 := sp0_13.span g14 ob_sp0 (by omega)
  have var_sp0_14 : Blk w14 (w4.heap.size) #[.int .i64 RC0.in0, .int .i64 RC0.in1, .slice Gsp0 nsp0 csp0, .slice Osp0 msp0 dsp0] 29 := by first | exact var_sp0_13.span g14 (by omega) | exact var_sp0_13.spanHi g14 (by omega)
  have var_im0_14 : Blk w14 (w8.heap.size) #[.int .i64 RC0.in0, .int .i64 RC0.in1, .slice Gim0 nim0 cim0, .slice Oim0 mim0 dim0] 29 := by first | exact var_im0_13.span g14 (by omega) | exact var_im0_13.spanHi g14 (by omega)
  clear g14 B13 a0_13 box0_13 sp0_13 var_sp0_13 im0_13 var_im0_13
  have var_im0_c0 := var_im0_14.cell (i := 0) rfl
  have var_im0_c1 := var_im0_14.cell (i := 1) rfl
  have var_im0_c2 := var_im0_14.cell (i := 2) rfl
  have var_im0_c3 := var_im0_14.cell (i := 3) rfl
  go_wp2_with fail
  clear var_im0_c0 var_im0_c1 var_im0_c2 var_im0_c3
  refine (heldCircuit_any _ RC0 1 w14 im0_14.has la_sp0 lb_sp0 (by omega) (by omega)).mono ?_
  rintro e w15 ⟨rfl, b15⟩
  have s15 := b15.size
  have B15 := B14.trans (b15.mono (by omega))
  have a0_15 := a0_14.below b15
  have box0_15 := box0_14.below' b15
  have sp0_15 := sp0_14.below b15
  have var_sp0_15 := var_sp0_14.below' b15
  have im0_15 := im0_14.below b15
  have var_im0_15 := var_im0_14.below' b15
  clear b15 B14 a0_14 box0_14 sp0_14 var_sp0_14 im0_14 var_im0_14
  have box0_c0 := box0_15.cell (i := 0) rfl
  have box0_c1 := box0_15.cell (i := 1) rfl
  have box0_c2 := box0_15.cell (i := 2) rfl
  have box0_c3 := box0_15.cell (i := 3) rfl
  go_wp2_with fail
  clear box0_c0 box0_c1 box0_c2 box0_c3
  refine (toCircuit_any _ C0 w15 a0_15 l0a l0b).mono ?_
  rintro e w16 ⟨u_ag_u0, rfl, ag_u0_16, b16⟩
  have s16 := b16.size
  have B16 := B15.trans (b16.mono (by omega))
  have a0_16 := a0_15.below b16
  have box0_16 := box0_15.below' b16
  have sp0_16 := sp0_15.below b16
  have var_sp0_16 := var_sp0_15.below' b16
  have im0_16 := im0_15.below b16
  have var_im0_16 := var_im0_15.below' b16
  clear b16 B15 a0_15 box0_15 sp0_15 var_sp0_15 im0_15 var_im0_15
  have ob_ag_u0 := ag_u0_16
  go_wp2_with fail
  refine (impl_MergeGates u_ag_u0 C0 RC0 rb1 w16 ag_u0_16.has fit0 HM.out).mono ?_
  rintro e w17 ⟨u_ag0, rfl, ag0_17, la_ag0, lb_ag0, b17⟩
  have s17 := b17.size
  have B17 := B16.trans (b17.mono (by omega))
  have a0_17 := a0_16.below b17
  have box0_17 := box0_16.below' b17
  have sp0_17 := sp0_16.below b17
  have var_sp0_17 := var_sp0_16.below' b17
  have im0_17 := im0_16.below b17
  have var_im0_17 := var_im0_16.below' b17
  have ag_u0_17 := ag_u0_16.below b17
  clear b17 B16 a0_16 box0_16 sp0_16 var_sp0_16 im0_16 var_im0_16 ag_u0_16
  have ob_ag0 := ag0_17
  obtain ⟨Gag0, nag0, cag0, Oag0, mag0, dag0, rfl, _, _⟩ := id ag0_17
  have b18 := belowNew w17 (.cells #[.int .i64 RC0.in0, .int .i64 RC0.in1, .slice Gag0 nag0 cag0, .slice Oag0 mag0 dag0] 29)
  have s18 := b18.size
  have t18 : (w17.alloc (.cells #[.int .i64 RC0.in0, .int .i64 RC0.in1, .slice Gag0 nag0 cag0, .slice Oag0 mag0 dag0] 29)).heap.size = w17.heap.size + 1 := by simp
  have var_ag0_18 := Blk.new w17 #[.int .i64 RC0.in0, .int .i64 RC0.in1, .slice Gag0 nag0 cag0, .slice Oag0 mag0 dag0] 29
  have B18 := B17.trans (b18.mono (by omega))
  have a0_18 := a0_17.below b18
  have box0_18 := box0_17.below' b18
  have sp0_18 := sp0_17.below b18
  have var_sp0_18 := var_sp0_17.below' b18
  have im0_18 := im0_17.below b18
  have var_im0_18 := var_im0_17.below' b18
  have ag_u0_18 := ag_u0_17.below b18
  have ag0_18 := ag0_17.below b18
  clear b18 B17 a0_17 box0_17 sp0_17 var_sp0_17 im0_17 var_im0_17 ag_u0_17 ag0_17
  generalize hw18 : w17.alloc (.cells #[.int .i64 RC0.in0, .int .i64 RC0.in1, .slice Gag0 nag0 cag0, .slice Oag0 mag0 dag0] 29) = w18 at *
  have var_ag0_c0 := var_ag0_18.cell (i := 0) rfl
  have var_ag0_c1 := var_ag0_18.cell (i := 1) rfl
  have var_ag0_c2 := var_ag0_18.cell (i := 2) rfl
  have var_ag0_c3 := var_ag0_18.cell (i := 3) rfl
  have var_sp0_c0 := var_sp0_18.cell (i := 0) rfl
  have var_sp0_c1 := var_sp0_18.cell (i := 1) rfl
  have var_sp0_c2 := var_sp0_18.cell (i := 2) rfl
  have var_sp0_c3 := var_sp0_18.cell (i := 3) rfl
  go_wp2_with fail
  try rw [hw18]
  clear hw18
  clear var_ag0_c0 var_ag0_c1 var_ag0_c2 var_ag0_c3 var_sp0_c0 var_sp0_c1 var_sp0_c2 var_sp0_c3
  refine (eqCircuit_same _ _ RC0 w18 ag0_18.has sp0_18 la_sp0 lb_sp0).mono ?_
  rintro e w19 ⟨rfl, b19⟩
  have s19 := b19.size
  have B19 := B18.trans (b19.mono (by omega))
  have a0_19 := a0_18.below b19
  have box0_19 := box0_18.below' b19
  have sp0_19 := sp0_18.below b19
  have var_sp0_19 := var_sp0_18.below' b19
  have im0_19 := im0_18.below b19
  have var_im0_19 := var_im0_18.below' b19
  have ag0_19 := ag0_18.below b19
  have var_ag0_19 := var_ag0_18.below' b19
  clear b19 B18 a0_18 box0_18 sp0_18 var_sp0_18 im0_18 var_im0_18 ag0_18 var_ag0_18
  have var_im0_c0 := var_im0_19.cell (i := 0) rfl
  have var_im0_c1 := var_im0_19.cell (i := 1) rfl
  have var_im0_c2 := var_im0_19.cell (i := 2) rfl
  have var_im0_c3 := var_im0_19.cell (i := 3) rfl
  go_wp2_with fail
  clear var_im0_c0 var_im0_c1 var_im0_c2 var_im0_c3
  refine (heldCircuit_any _ RC0 1 w19 im0_19.has la_sp0 lb_sp0 (by omega) (by omega)).mono ?_
  rintro e w20 ⟨rfl, b20⟩
  have s20 := b20.size
  have B20 := B19.trans (b20.mono (by omega))
  have a0_20 := a0_19.below b20
  have box0_20 := box0_19.below' b20
  have sp0_20 := sp0_19.below b20
  have var_sp0_20 := var_sp0_19.below' b20
  have im0_20 := im0_19.below b20
  have var_im0_20 := var_im0_19.below' b20
  have ag0_20 := ag0_19.below b20
  have var_ag0_20 := var_ag0_19.below' b20
  clear b20 B19 a0_19 box0_19 sp0_19 var_sp0_19 im0_19 var_im0_19 ag0_19 var_ag0_19
  go_wp2_with fail
  go_ret
  exact ⟨rfl, B20⟩

set_option maxRecDepth 100000 in
theorem lifted (os : Os) (started : os.Started) (H : Type) (enc : TypeId × Value → H) :
    ReturnsInHanded {} Try.checked os 3 .any (Rows.fnExactMergeGatesSpec.pre6 enc Try.prog Try.f3 Rows.fnExactMergeGatesRow.domain false) (Rows.fnExactMergeGatesSpec.post enc Try.prog Try.f3 false true false false) := by
  refine returnsInHanded_of_change (C := Try.checked) own started (by kernel_rfl) Try.func3
    (ChangeSpec.witness6 (enc := enc) (C := Try.checked) false ⟨#[], #[.agg #[.int .i64 0, .int .i64 0, .slice none 0 0, .slice none 0 0]], []⟩ 8 (by kernel_rfl) (by kernel_rfl) (by kernel_rfl) (by kernel_rfl)) ?_
  intro W base args ds gs before hval0 hW hcnd _
  have hval : ∀ (j : Nat) t v, Try.f3.params[j]? = some t → args[j]? = some v → Value.okWide Try.prog W .any base t v := hval0
  have hW' := hW
  obtain ⟨p, q, hA0, hV, rfl, hfz, hnd⟩ := hW
  have hA : DataW.TrodAll enc Try.prog W 0 (fun _ => true) true Try.f3.params.toList args.toList ds p := hA0
  rw [Try.params3] at hA hval
  obtain ⟨v0, vs0, d0, ds0, p0, q0, hargs, rfl, rfl, h0, r0⟩ := trodAll_cons hA
  obtain ⟨rfl, rfl, rfl⟩ := trodAll_nil r0
  obtain rfl : args = #[v0] := by cases args; simp_all
  obtain ⟨rfl, rfl⟩ := trodVars_none hV
  clear hA0 hval0
  have hlt0 : ∀ x ∈ p0, x.block < W.heap.size := fun x hx => by simpa using hW'.lt x (by simp [hx])
  obtain ⟨C0, g0, fa0, fb0, wf0⟩ := openC (hval 0 _ v0 rfl rfl) h0
  simp only [List.append_nil] at hW'
  refine (walk v0 C0 W g0 fa0 fb0 wf0).mono fun e W' ⟨he, hb⟩ => ?_
  subst he
  exact ⟨_, rfl, lawPost (pa := p0) (pv := []) hW' (fun _ _ _ => trodAll_mk1 (shut_bool Try.underlying4 _)) (trodAll_mk1 (Below.trod laidOut (by kernel_rfl) (of_decide_eq_true (by kernel_rfl)) h0 hb hlt0)) rfl (by simp) hb⟩

theorem proved : Rows.FnExactMergeGatesSaid :=
  OpenClaim.holds_of_wide 3 Try.f3 rfl rfl rfl rfl rfl rfl rfl ⟨rfl, rfl, rfl, rfl, rfl⟩ rfl rfl rfl rfl rfl (by kernel_rfl) Try.func3 (by kernel_rfl)
    (of_decide_eq_true (by kernel_rfl)) (by unfold Func.isWrapper; first | (rw [if_pos (by decide +kernel)]; kernel_rfl) | (rw [if_neg (by decide +kernel)]; exact ⟨rfl, rfl⟩))
    (fun os started H enc _ => lifted os started H enc)

end Go.Proofs.Yteiibneaihdmbaa.lawMergeGates
