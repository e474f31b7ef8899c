/- The exact law of ConstantWires: for every circuit that the row allows, the program and the model answer the same, the argument is left as it was, and the answer owns its memory. -/
import Derived.Test.YtnelcbjegbchkaaHelp
import Derived.Test.YtnelcbjegbchkaaClose
import Derived.Test.YtnelcbjegbchkaaCirAll
import Derived.Test.YtnelcbjegbchkaaSiG8
import Derived.Test.YtnelcbjegbchkaaSiI7
import Derived.Deep.RegionHeld3
namespace Go.Proofs.Ytnelcbjegbchkaa.lawConstantWires
open Go.ChangeShapes Go.WideShapes Go.ChangeAt Go.RowKit
set_option maxRecDepth 100000

set_option maxRecDepth 100000 in
set_option maxHeartbeats 2000000 in
theorem walk (v0 : Value) (C0 : Ci) (W : World) (a0_0 : HasC W v0 C0) (fa0 : C0.gs.length ≤ maxLen) (fb0 : C0.os.length ≤ maxLen) (wz0 : C64 C0) :
    Calls Try.prog 5 #[v0] W fun e W' => e = .returned (.bool true) ∧ Below W.heap.size W W' := by
  obtain ⟨Gz0, nz0, cz0, Oz0, mz0, dz0, rfl, hgz0, hoz0, _, _, _, _⟩ := id a0_0
  have hgl0 := hgz0.1
  have hol0 := hoz0.1
  have ob_a0 := a0_0
  clear hgz0 hoz0
  have B0 : Below W.heap.size W W := Below.refl _ _
  have s0 : W.heap.size ≤ W.heap.size := Nat.le_refl _
  have b1 := belowNew W (.cells #[.int .i64 C0.in0, .int .i64 C0.in1, .slice Gz0 nz0 cz0, .slice Oz0 mz0 dz0] 28)
  have s1 := b1.size
  have t1 : (W.alloc (.cells #[.int .i64 C0.in0, .int .i64 C0.in1, .slice Gz0 nz0 cz0, .slice Oz0 mz0 dz0] 28)).heap.size = W.heap.size + 1 := by simp
  have box0_1 := Blk.new W #[.int .i64 C0.in0, .int .i64 C0.in1, .slice Gz0 nz0 cz0, .slice Oz0 mz0 dz0] 28
  have B1 := B0.trans (b1.mono (by omega))
  have a0_1 := a0_0.below b1
  clear b1 B0 a0_0
  generalize hw1 : W.alloc (.cells #[.int .i64 C0.in0, .int .i64 C0.in1, .slice Gz0 nz0 cz0, .slice Oz0 mz0 dz0] 28) = w1 at *
  obtain ⟨r, hm⟩ : ∃ r, m_ConstantWires C0 = r := ⟨_, rfl⟩
  obtain ⟨rs0, rb1⟩ := r
  have HM := Lib.hid hm
  clear hm
  go_enter Try.func5, Try.ntmps5
  have box0_c0 := box0_1.cell (i := 0) rfl
  have box0_c1 := box0_1.cell (i := 1) rfl
  have box0_c2 := box0_1.cell (i := 2) rfl
  have box0_c3 := box0_1.cell (i := 3) rfl
  go_wp2_with fail
  try rw [hw1]
  clear hw1
  clear box0_c0 box0_c1 box0_c2 box0_c3
  refine (szCircuit_any C0.in0 C0.in1 Gz0 nz0 cz0 Oz0 mz0 dz0 C0 1048576 w1 hgl0 hol0 (by omega) (by omega) (by omega) (by omega)).mono ?_
  rintro e w2 ⟨rfl, b2⟩
  have s2 := b2.size
  have B2 := B1.trans (b2.mono (by omega))
  have a0_2 := a0_1.below b2
  have box0_2 := box0_1.below' b2
  clear b2 B1 a0_1 box0_1
  generalize hlf0 : leftOf C0 1048576 = lf0
  by_cases hneg0 : lf0 < 0
  · go_wp2_with fail
    go_ret
    exact ⟨rfl, B2⟩
  obtain ⟨l0a, l0b, l0c⟩ := leftFit hlf0 hneg0 (by omega)
  have fit0 : Fit C0 := ⟨l0a, l0b, wz0⟩
  clear hlf0
  have box0_c0 := box0_2.cell (i := 0) rfl
  have box0_c1 := box0_2.cell (i := 1) rfl
  have box0_c2 := box0_2.cell (i := 2) rfl
  have box0_c3 := box0_2.cell (i := 3) rfl
  go_wp2_with fail
  clear box0_c0 box0_c1 box0_c2 box0_c3
  refine (toCircuit_any _ C0 w2 a0_2 l0a l0b).mono ?_
  rintro e w3 ⟨u_sp_u0, rfl, sp_u0_3, b3⟩
  have s3 := b3.size
  have B3 := B2.trans (b3.mono (by omega))
  have a0_3 := a0_2.below b3
  have box0_3 := box0_2.below' b3
  clear b3 B2 a0_2 box0_2
  have ob_sp_u0 := sp_u0_3
  go_wp2_with fail
  refine (spec_ConstantWires u_sp_u0 C0 rs0 rb1 w3 sp_u0_3.has fit0 HM.out).mono ?_
  rintro e w4 ⟨R_sp0, m_sp0, c_sp0, rfl, sp0_4, l_sp0, b4⟩
  have s4 := b4.size
  have B4 := B3.trans (b4.mono (by omega))
  have a0_4 := a0_3.below b4
  have box0_4 := box0_3.below' b4
  have sp_u0_4 := sp_u0_3.below b4
  clear b4 B3 a0_3 box0_3 sp_u0_3
  have old_sp0 := sp0_4.old
  have box0_c0 := box0_4.cell (i := 0) rfl
  have box0_c1 := box0_4.cell (i := 1) rfl
  have box0_c2 := box0_4.cell (i := 2) rfl
  have box0_c3 := box0_4.cell (i := 3) rfl
  go_wp2_with fail
  clear box0_c0 box0_c1 box0_c2 box0_c3
  refine (toCircuit_any _ C0 w4 a0_4 l0a l0b).mono ?_
  rintro e w5 ⟨u_v0, rfl, v0_5, b5⟩
  have s5 := b5.size
  have B5 := B4.trans (b5.mono (by omega))
  have a0_5 := a0_4.below b5
  have box0_5 := box0_4.below' b5
  have sp0_5 := sp0_4.below b5
  clear b5 B4 a0_4 box0_4 sp0_4
  have ob_v0 := v0_5
  obtain ⟨Gp0, np0, cp0, Op0, mp0, dp0, rfl, _, _⟩ := id v0_5
  have b6 := belowNew w5 (.cells #[.int .i64 C0.in0, .int .i64 C0.in1, .slice Gp0 np0 cp0, .slice Op0 mp0 dp0] 34)
  have s6 := b6.size
  have t6 : (w5.alloc (.cells #[.int .i64 C0.in0, .int .i64 C0.in1, .slice Gp0 np0 cp0, .slice Op0 mp0 dp0] 34)).heap.size = w5.heap.size + 1 := by simp
  have var_v0_6 := Blk.new w5 #[.int .i64 C0.in0, .int .i64 C0.in1, .slice Gp0 np0 cp0, .slice Op0 mp0 dp0] 34
  have B6 := B5.trans (b6.mono (by omega))
  have a0_6 := a0_5.below b6
  have box0_6 := box0_5.below' b6
  have sp0_6 := sp0_5.below b6
  have v0_6 := v0_5.below b6
  clear b6 B5 a0_5 box0_5 sp0_5 v0_5
  generalize hw6 : w5.alloc (.cells #[.int .i64 C0.in0, .int .i64 C0.in1, .slice Gp0 np0 cp0, .slice Op0 mp0 dp0] 34) = w6 at *
  have var_v0_c0 := var_v0_6.cell (i := 0) rfl
  have var_v0_c1 := var_v0_6.cell (i := 1) rfl
  have var_v0_c2 := var_v0_6.cell (i := 2) rfl
  have var_v0_c3 := var_v0_6.cell (i := 3) rfl
  go_wp2_with fail
  try rw [hw6]
  clear hw6
  clear var_v0_c0 var_v0_c1 var_v0_c2 var_v0_c3
  refine (impl_ConstantWires (.agg #[.int .i64 C0.in0, .int .i64 C0.in1, .slice Gp0 np0 cp0, .slice Op0 mp0 dp0]) C0 rs0 rb1 w6 v0_6.has fit0 HM.out).mono ?_
  rintro e w7 ⟨R_im0, m_im0, c_im0, rfl, im0_7, l_im0, b7⟩
  have s7 := b7.size
  have B7 := B6.trans (b7.mono (by omega))
  have a0_7 := a0_6.below b7
  have box0_7 := box0_6.below' b7
  have sp0_7 := sp0_6.below b7
  have v0_7 := v0_6.below b7
  have var_v0_7 := var_v0_6.below' b7
  clear b7 B6 a0_6 box0_6 sp0_6 v0_6 var_v0_6
  have ob_im0 := im0_7
  go_wp2_with fail
  refine (eqIntS_same _ _ m_im0 m_sp0 _ _ _ _ im0_7.has sp0_7 (by omega)).mono ?_
  rintro e w8 ⟨rfl, b8⟩
  have s8 := b8.size
  have B8 := B7.trans (b8.mono (by omega))
  have a0_8 := a0_7.below b8
  have box0_8 := box0_7.below' b8
  have sp0_8 := sp0_7.below b8
  have v0_8 := v0_7.below b8
  have var_v0_8 := var_v0_7.below' b8
  have im0_8 := im0_7.below b8
  clear b8 B7 a0_7 box0_7 sp0_7 v0_7 var_v0_7 im0_7
  have box0_c0 := box0_8.cell (i := 0) rfl
  have box0_c1 := box0_8.cell (i := 1) rfl
  have box0_c2 := box0_8.cell (i := 2) rfl
  have box0_c3 := box0_8.cell (i := 3) rfl
  have var_v0_c0 := var_v0_8.cell (i := 0) rfl
  have var_v0_c1 := var_v0_8.cell (i := 1) rfl
  have var_v0_c2 := var_v0_8.cell (i := 2) rfl
  have var_v0_c3 := var_v0_8.cell (i := 3) rfl
  go_wp2_with fail
  clear box0_c0 box0_c1 box0_c2 box0_c3 var_v0_c0 var_v0_c1 var_v0_c2 var_v0_c3
  have hK : Hid (∀ W', Below w8.heap.size w8 W' → W'.cell? ⟨w5.heap.size, 0, none⟩ = some (.int .i64 C0.in0) ∧ W'.cell? ⟨w5.heap.size, 1, none⟩ = some (.int .i64 C0.in1) ∧ W'.cell? ⟨w5.heap.size, 2, none⟩ = some (.slice Gp0 np0 cp0) ∧ W'.cell? ⟨w5.heap.size, 3, none⟩ = some (.slice Op0 mp0 dp0) ∧ W'.cell? ⟨W.heap.size, 0, none⟩ = some (.int .i64 C0.in0) ∧ W'.cell? ⟨W.heap.size, 1, none⟩ = some (.int .i64 C0.in1) ∧ W'.cell? ⟨W.heap.size, 2, none⟩ = some (.slice Gz0 nz0 cz0) ∧ W'.cell? ⟨W.heap.size, 3, none⟩ = some (.slice Oz0 mz0 dz0)) := fun W' hb =>
    ⟨(var_v0_8.below' hb).cell (i := 0) rfl, (var_v0_8.below' hb).cell (i := 1) rfl, (var_v0_8.below' hb).cell (i := 2) rfl, (var_v0_8.below' hb).cell (i := 3) rfl, (box0_8.below' hb).cell (i := 0) rfl, (box0_8.below' hb).cell (i := 1) rfl, (box0_8.below' hb).cell (i := 2) rfl, (box0_8.below' hb).cell (i := 3) rfl⟩
  have D : Below w8.heap.size w8 w8.drew := (Below.refl _ w8).drew
  have sD := D.size
  have HT := Lib.hid (toCircuit_any (.agg #[.int .i64 C0.in0, .int .i64 C0.in1, .slice Gz0 nz0 cz0, .slice Oz0 mz0 dz0]) C0 w8.drew (a0_8.below D) l0a l0b)
  have hE : Hid (∀ u W', Below w8.heap.size w8 W' → HasC W' u C0 → Calls Try.prog 22 #[(.agg #[.int .i64 C0.in0, .int .i64 C0.in1, .slice Gp0 np0 cp0, .slice Op0 mp0 dp0]), u] W' fun e w' => e = .returned (.bool true) ∧ Below W'.heap.size W' w') := fun u W' hb hu => eqCircuit_same _ u C0 W' (v0_8.has.below hb) hu l0a l0b
  go_region_held3 (fun w' => w'.cell? ⟨w5.heap.size, 0, none⟩ = some (.int .i64 C0.in0) ∧ w'.cell? ⟨w5.heap.size, 1, none⟩ = some (.int .i64 C0.in1) ∧ w'.cell? ⟨w5.heap.size, 2, none⟩ = some (.slice Gp0 np0 cp0) ∧ w'.cell? ⟨w5.heap.size, 3, none⟩ = some (.slice Op0 mp0 dp0) ∧ w'.cell? ⟨W.heap.size, 0, none⟩ = some (.int .i64 C0.in0) ∧ w'.cell? ⟨W.heap.size, 1, none⟩ = some (.int .i64 C0.in1) ∧ w'.cell? ⟨W.heap.size, 2, none⟩ = some (.slice Gz0 nz0 cz0) ∧ w'.cell? ⟨W.heap.size, 3, none⟩ = some (.slice Oz0 mz0 dz0)) (first | exact hK.out _ D | exact hK.out _ Bq1 | exact hK.out _ b9 | go_keep) (first | (go_at_call 22; refine (hE.out uq1 wq1 Bq1 oq1.has).mono ?_; rintro e w9 ⟨rfl, bq2⟩; have b9 := Bq1.trans (bq2.mono Bq1.size)) | (go_at_call 19; refine (HT.out).mono ?_; rintro e wq1 ⟨uq1, rfl, oq1, bq1⟩; have Bq1 := D.trans (bq1.mono D.size)))
  clear hK HT hE oq1 bq1 Bq1 bq2 D sD
  have s9 := b9.size
  have B9 := B8.trans (b9.mono (by omega))
  have a0_9 := a0_8.below b9
  have box0_9 := box0_8.below' b9
  have sp0_9 := sp0_8.below b9
  have v0_9 := v0_8.below b9
  have var_v0_9 := var_v0_8.below' b9
  have im0_9 := im0_8.below b9
  clear b9 B8 a0_8 box0_8 sp0_8 v0_8 var_v0_8 im0_8
  have hs0 : 0 ≤ sizeC C0 ∧ sizeC C0 ≤ 4194304 := by unfold sizeC; omega
  have var_v0_c0 := var_v0_9.cell (i := 0) rfl
  have var_v0_c1 := var_v0_9.cell (i := 1) rfl
  have var_v0_c2 := var_v0_9.cell (i := 2) rfl
  have var_v0_c3 := var_v0_9.cell (i := 3) rfl
  go_wp2_with fail
  clear var_v0_c0 var_v0_c1 var_v0_c2 var_v0_c3
  refine (markCircuit_any _ C0 C0 _ _ w9 _ v0_9 ob_v0 (by omega) l0a l0b (by omega) (by omega)).mono ?_
  rintro e w10 ⟨rfl, v0_10, g10⟩
  have s10 := g10.size
  have B10 := belowSpan B9 g10 (by omega) (by omega)
  have a0_10 := a0_9.span g10 ob_a0 (by omega)
  have box0_10 : Blk w10 (W.heap.size) #[.int .i64 C0.in0, .int .i64 C0.in1, .slice Gz0 nz0 cz0, .slice Oz0 mz0 dz0] 28 := by first | exact box0_9.span g10 (by omega) | exact box0_9.spanHi g10 (by omega)
  have sp0_10 := sp0_9.span g10 (fun h0 ad e => Nat.lt_of_lt_of_le (old_sp0 h0 ad e) (by omega))
  have var_v0_10 : Blk w10 (w5.heap.size) #[.int .i64 C0.in0, .int .i64 C0.in1, .slice Gp0 np0 cp0, .slice Op0 mp0 dp0] 34 := by first | exact var_v0_9.span g10 (by omega) | exact var_v0_9.spanHi g10 (by omega)
  have im0_10 := im0_9.span g10 (by omega)
  clear g10 B9 a0_9 box0_9 sp0_9 v0_9 var_v0_9 im0_9
  go_wp2_with fail
  refine (eqIntS_same _ _ m_im0 m_sp0 _ _ _ _ im0_10.has sp0_10 (by omega)).mono ?_
  rintro e w11 ⟨rfl, b11⟩
  have s11 := b11.size
  have B11 := B10.trans (b11.mono (by omega))
  have a0_11 := a0_10.below b11
  have box0_11 := box0_10.below' b11
  have sp0_11 := sp0_10.below b11
  have im0_11 := im0_10.below b11
  clear b11 B10 a0_10 box0_10 sp0_10 im0_10
  go_wp2_with fail
  refine (markIntS_any _ _ _ _ _ _ _ im0_11 (by omega) (by omega) (by omega)).mono ?_
  rintro e w12 ⟨rfl, im0_12, h12⟩
  have g12 := spanOf h12 ob_im0
  have s12 := g12.size
  have B12 := belowSpan B11 g12 (by omega) (by omega)
  have a0_12 := a0_11.span g12 ob_a0 (by omega)
  have box0_12 : Blk w12 (W.heap.size) #[.int .i64 C0.in0, .int .i64 C0.in1, .slice Gz0 nz0 cz0, .slice Oz0 mz0 dz0] 28 := by first | exact box0_11.span g12 (by omega) | exact box0_11.spanHi g12 (by omega)
  have sp0_12 := sp0_11.span g12 (fun h0 ad e => Nat.lt_of_lt_of_le (old_sp0 h0 ad e) (by omega))
  clear g12 B11 h12 a0_11 box0_11 sp0_11 im0_11
  go_wp2_with fail
  refine (heldIntS_any _ _ _ _ _ im0_12.has (by omega) (by omega) (by omega)).mono ?_
  rintro e w13 ⟨rfl, b13⟩
  have s13 := b13.size
  have B13 := B12.trans (b13.mono (by omega))
  have a0_13 := a0_12.below b13
  have box0_13 := box0_12.below' b13
  have sp0_13 := sp0_12.below b13
  have im0_13 := im0_12.below b13
  clear b13 B12 a0_12 box0_12 sp0_12 im0_12
  have box0_c0 := box0_13.cell (i := 0) rfl
  have box0_c1 := box0_13.cell (i := 1) rfl
  have box0_c2 := box0_13.cell (i := 2) rfl
  have box0_c3 := box0_13.cell (i := 3) rfl
  go_wp2_with fail
  clear box0_c0 box0_c1 box0_c2 box0_c3
  refine (toCircuit_any _ C0 w13 a0_13 l0a l0b).mono ?_
  rintro e w14 ⟨u_ag_u0, rfl, ag_u0_14, b14⟩
  have s14 := b14.size
  have B14 := B13.trans (b14.mono (by omega))
  have a0_14 := a0_13.below b14
  have box0_14 := box0_13.below' b14
  have sp0_14 := sp0_13.below b14
  have im0_14 := im0_13.below b14
  clear b14 B13 a0_13 box0_13 sp0_13 im0_13
  have ob_ag_u0 := ag_u0_14
  go_wp2_with fail
  refine (impl_ConstantWires u_ag_u0 C0 rs0 rb1 w14 ag_u0_14.has fit0 HM.out).mono ?_
  rintro e w15 ⟨R_ag0, m_ag0, c_ag0, rfl, ag0_15, l_ag0, b15⟩
  have s15 := b15.size
  have B15 := B14.trans (b15.mono (by omega))
  have a0_15 := a0_14.below b15
  have box0_15 := box0_14.below' b15
  have sp0_15 := sp0_14.below b15
  have im0_15 := im0_14.below b15
  have ag_u0_15 := ag_u0_14.below b15
  clear b15 B14 a0_14 box0_14 sp0_14 im0_14 ag_u0_14
  have ob_ag0 := ag0_15
  go_wp2_with fail
  refine (eqIntS_same _ _ m_ag0 m_sp0 _ _ _ _ ag0_15.has sp0_15 (by omega)).mono ?_
  rintro e w16 ⟨rfl, b16⟩
  have s16 := b16.size
  have B16 := B15.trans (b16.mono (by omega))
  have a0_16 := a0_15.below b16
  have box0_16 := box0_15.below' b16
  have sp0_16 := sp0_15.below b16
  have im0_16 := im0_15.below b16
  have ag0_16 := ag0_15.below b16
  clear b16 B15 a0_15 box0_15 sp0_15 im0_15 ag0_15
  go_wp2_with fail
  refine (heldIntS_any _ _ _ _ _ im0_16.has (by omega) (by omega) (by omega)).mono ?_
  rintro e w17 ⟨rfl, b17⟩
  have s17 := b17.size
  have B17 := B16.trans (b17.mono (by omega))
  have a0_17 := a0_16.below b17
  have box0_17 := box0_16.below' b17
  have sp0_17 := sp0_16.below b17
  have im0_17 := im0_16.below b17
  have ag0_17 := ag0_16.below b17
  clear b17 B16 a0_16 box0_16 sp0_16 im0_16 ag0_16
  go_wp2_with fail
  go_ret
  exact ⟨rfl, B17⟩

set_option maxRecDepth 100000 in
theorem lifted (os : Os) (started : os.Started) (H : Type) (enc : TypeId × Value → H) :
    ReturnsInHanded {} Try.checked os 5 .any (Rows.fnExactConstantWiresSpec.pre6 enc Try.prog Try.f5 Rows.fnExactConstantWiresRow.domain false) (Rows.fnExactConstantWiresSpec.post enc Try.prog Try.f5 false true false false) := by
  refine returnsInHanded_of_change (C := Try.checked) own started (by kernel_rfl) Try.func5
    (ChangeSpec.witness6 (enc := enc) (C := Try.checked) false ⟨#[], #[.agg #[.int .i64 0, .int .i64 0, .slice none 0 0, .slice none 0 0]], []⟩ 8 (by kernel_rfl) (by kernel_rfl) (by kernel_rfl) (by kernel_rfl)) ?_
  intro W base args ds gs before hval0 hW hcnd _
  have hval : ∀ (j : Nat) t v, Try.f5.params[j]? = some t → args[j]? = some v → Value.okWide Try.prog W .any base t v := hval0
  have hW' := hW
  obtain ⟨p, q, hA0, hV, rfl, hfz, hnd⟩ := hW
  have hA : DataW.TrodAll enc Try.prog W 0 (fun _ => true) true Try.f5.params.toList args.toList ds p := hA0
  rw [Try.params5] at hA hval
  obtain ⟨v0, vs0, d0, ds0, p0, q0, hargs, rfl, rfl, h0, r0⟩ := trodAll_cons hA
  obtain ⟨rfl, rfl, rfl⟩ := trodAll_nil r0
  obtain rfl : args = #[v0] := by cases args; simp_all
  obtain ⟨rfl, rfl⟩ := trodVars_none hV
  clear hA0 hval0
  have hlt0 : ∀ x ∈ p0, x.block < W.heap.size := fun x hx => by simpa using hW'.lt x (by simp [hx])
  obtain ⟨C0, g0, fa0, fb0, wf0⟩ := openC (hval 0 _ v0 rfl rfl) h0
  simp only [List.append_nil] at hW'
  refine (walk v0 C0 W g0 fa0 fb0 wf0).mono fun e W' ⟨he, hb⟩ => ?_
  subst he
  exact ⟨_, rfl, lawPost (pa := p0) (pv := []) hW' (fun _ _ _ => trodAll_mk1 (shut_bool Try.underlying4 _)) (trodAll_mk1 (Below.trod laidOut (by kernel_rfl) (of_decide_eq_true (by kernel_rfl)) h0 hb hlt0)) rfl (by simp) hb⟩

theorem proved : Rows.FnExactConstantWiresSaid :=
  OpenClaim.holds_of_wide 5 Try.f5 rfl rfl rfl rfl rfl rfl rfl ⟨rfl, rfl, rfl, rfl, rfl⟩ rfl rfl rfl rfl rfl (by kernel_rfl) Try.func5 (by kernel_rfl)
    (of_decide_eq_true (by kernel_rfl)) (by unfold Func.isWrapper; first | (rw [if_pos (by decide +kernel)]; kernel_rfl) | (rw [if_neg (by decide +kernel)]; exact ⟨rfl, rfl⟩))
    (fun os started H enc _ => lifted os started H enc)

end Go.Proofs.Ytnelcbjegbchkaa.lawConstantWires
