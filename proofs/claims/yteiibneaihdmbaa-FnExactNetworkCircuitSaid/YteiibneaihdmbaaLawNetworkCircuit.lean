/- The exact law of NetworkCircuit: for every input that the row allows, the program and the model answer the same, the arguments are left as they were, and the answer owns its memory. -/
import Derived.Test.YteiibneaihdmbaaHelp
import Derived.Test.YteiibneaihdmbaaClose
import Derived.Test.YteiibneaihdmbaaCirAll
import Derived.Test.YteiibneaihdmbaaSo1
import Derived.Test.YteiibneaihdmbaaSoGN
import Derived.Test.YteiibneaihdmbaaSoIM
import Derived.Deep.RegionHeld3
namespace Go.Proofs.Yteiibneaihdmbaa.lawNetworkCircuit
open Go.ChangeShapes Go.WideShapes Go.ChangeAt Go.RowKit
set_option maxRecDepth 100000

set_option maxRecDepth 100000 in
set_option maxHeartbeats 2000000 in
theorem walk (x0 : Int) (A1 : Option Addr) (n1 c1 : Nat) (l1 : List St) (x2 : Int) (W : World) (hx0 : I64 x0) (a1_0 : HasT W A1 n1 l1) (mx1 : n1 ≤ maxLen) (hx2 : I64 x2) :
    Calls Try.prog 14 #[.int .i64 x0, .slice A1 n1 c1, .int .i64 x2] W fun e W' => e = .returned (.bool true) ∧ Below W.heap.size W W' := by
  have old_a1 := a1_0.old
  have B0 : Below W.heap.size W W := Below.refl _ _
  have s0 : W.heap.size ≤ W.heap.size := Nat.le_refl _
  obtain ⟨r, hm⟩ : ∃ r, m_NetworkCircuit x0 l1 x2 = r := ⟨_, rfl⟩
  obtain ⟨RC0, rb1⟩ := r
  have HM := Lib.hid hm
  clear hm
  go_enter Try.func14, Try.ntmps14
  go_wp2_with fail
  refine (szStepS_any A1 n1 c1 1048576 W (by omega) (by omega) (by unfold maxLen at mx1; omega)).mono ?_
  rintro e w' ⟨rfl, rfl⟩
  by_cases hn1 : 1048576 < n1
  · rw [if_pos (by omega)]
    go_wp2_with fail
    go_ret
    exact ⟨rfl, B0⟩
  rw [if_neg (by omega)]
  go_wp2_with fail
  refine (toStepS_any A1 n1 c1 l1 _ a1_0 (by omega)).mono ?_
  rintro e w1 ⟨X_sp_u1, rfl, sp_u1_1, b1⟩
  have s1 := b1.size
  have B1 := B0.trans (b1.mono (by omega))
  have a1_1 := a1_0.below b1
  clear b1 B0 a1_0
  have ob_sp_u1 := sp_u1_1
  go_wp2_with fail
  refine (spec_NetworkCircuit x0 X_sp_u1 n1 n1 l1 x2 RC0 rb1 w1 hx0 sp_u1_1.has (by omega) sp_u1_1.nilOk hx2 HM.out).mono ?_
  rintro e w2 ⟨u_sp0, rfl, sp0_2, la_sp0, lb_sp0, b2⟩
  have s2 := b2.size
  have B2 := B1.trans (b2.mono (by omega))
  have a1_2 := a1_1.below b2
  have sp_u1_2 := sp_u1_1.below b2
  clear b2 B1 a1_1 sp_u1_1
  have ob_sp0 := sp0_2
  obtain ⟨Gsp0, nsp0, csp0, Osp0, msp0, dsp0, rfl, _, _, _, _, _, _⟩ := id sp0_2
  have b3 := belowNew w2 (.cells #[.int .i64 RC0.in0, .int .i64 RC0.in1, .slice Gsp0 nsp0 csp0, .slice Osp0 msp0 dsp0] 29)
  have s3 := b3.size
  have t3 : (w2.alloc (.cells #[.int .i64 RC0.in0, .int .i64 RC0.in1, .slice Gsp0 nsp0 csp0, .slice Osp0 msp0 dsp0] 29)).heap.size = w2.heap.size + 1 := by simp
  have var_sp0_3 := Blk.new w2 #[.int .i64 RC0.in0, .int .i64 RC0.in1, .slice Gsp0 nsp0 csp0, .slice Osp0 msp0 dsp0] 29
  have B3 := B2.trans (b3.mono (by omega))
  have a1_3 := a1_2.below b3
  have sp_u1_3 := sp_u1_2.below b3
  have sp0_3 := sp0_2.below b3
  clear b3 B2 a1_2 sp_u1_2 sp0_2
  generalize hw3 : w2.alloc (.cells #[.int .i64 RC0.in0, .int .i64 RC0.in1, .slice Gsp0 nsp0 csp0, .slice Osp0 msp0 dsp0] 29) = w3 at *
  go_wp2_with fail
  try rw [hw3]
  clear hw3
  refine (toStepS_any A1 n1 c1 l1 _ a1_3 (by omega)).mono ?_
  rintro e w4 ⟨X_v1, rfl, v1_4, b4⟩
  have s4 := b4.size
  have B4 := B3.trans (b4.mono (by omega))
  have a1_4 := a1_3.below b4
  have sp0_4 := sp0_3.below b4
  have var_sp0_4 := var_sp0_3.below' b4
  clear b4 B3 a1_3 sp0_3 var_sp0_3
  have ob_v1 := v1_4
  go_wp2_with fail
  refine (impl_NetworkCircuit x0 X_v1 n1 n1 l1 x2 RC0 rb1 w4 hx0 v1_4.has (by omega) v1_4.nilOk hx2 HM.out).mono ?_
  rintro e w5 ⟨u_im0, rfl, im0_5, la_im0, lb_im0, b5⟩
  have s5 := b5.size
  have B5 := B4.trans (b5.mono (by omega))
  have a1_5 := a1_4.below b5
  have sp0_5 := sp0_4.below b5
  have var_sp0_5 := var_sp0_4.below' b5
  have v1_5 := v1_4.below b5
  clear b5 B4 a1_4 sp0_4 var_sp0_4 v1_4
  have ob_im0 := im0_5
  obtain ⟨Gim0, nim0, cim0, Oim0, mim0, dim0, rfl, _, _⟩ := id im0_5
  have b6 := belowNew w5 (.cells #[.int .i64 RC0.in0, .int .i64 RC0.in1, .slice Gim0 nim0 cim0, .slice Oim0 mim0 dim0] 29)
  have s6 := b6.size
  have t6 : (w5.alloc (.cells #[.int .i64 RC0.in0, .int .i64 RC0.in1, .slice Gim0 nim0 cim0, .slice Oim0 mim0 dim0] 29)).heap.size = w5.heap.size + 1 := by simp
  have var_im0_6 := Blk.new w5 #[.int .i64 RC0.in0, .int .i64 RC0.in1, .slice Gim0 nim0 cim0, .slice Oim0 mim0 dim0] 29
  have B6 := B5.trans (b6.mono (by omega))
  have a1_6 := a1_5.below b6
  have sp0_6 := sp0_5.below b6
  have var_sp0_6 := var_sp0_5.below' b6
  have v1_6 := v1_5.below b6
  have im0_6 := im0_5.below b6
  clear b6 B5 a1_5 sp0_5 var_sp0_5 v1_5 im0_5
  generalize hw6 : w5.alloc (.cells #[.int .i64 RC0.in0, .int .i64 RC0.in1, .slice Gim0 nim0 cim0, .slice Oim0 mim0 dim0] 29) = w6 at *
  have var_im0_c0 := var_im0_6.cell (i := 0) rfl
  have var_im0_c1 := var_im0_6.cell (i := 1) rfl
  have var_im0_c2 := var_im0_6.cell (i := 2) rfl
  have var_im0_c3 := var_im0_6.cell (i := 3) rfl
  have var_sp0_c0 := var_sp0_6.cell (i := 0) rfl
  have var_sp0_c1 := var_sp0_6.cell (i := 1) rfl
  have var_sp0_c2 := var_sp0_6.cell (i := 2) rfl
  have var_sp0_c3 := var_sp0_6.cell (i := 3) rfl
  go_wp2_with fail
  try rw [hw6]
  clear hw6
  clear var_im0_c0 var_im0_c1 var_im0_c2 var_im0_c3 var_sp0_c0 var_sp0_c1 var_sp0_c2 var_sp0_c3
  refine (eqCircuit_same _ _ RC0 w6 im0_6.has sp0_6 la_sp0 lb_sp0).mono ?_
  rintro e w7 ⟨rfl, b7⟩
  have s7 := b7.size
  have B7 := B6.trans (b7.mono (by omega))
  have a1_7 := a1_6.below b7
  have sp0_7 := sp0_6.below b7
  have var_sp0_7 := var_sp0_6.below' b7
  have v1_7 := v1_6.below b7
  have im0_7 := im0_6.below b7
  have var_im0_7 := var_im0_6.below' b7
  clear b7 B6 a1_6 sp0_6 var_sp0_6 v1_6 im0_6 var_im0_6
  go_wp2_with fail
  refine (toStepS_any A1 n1 c1 l1 _ a1_7 (by omega)).mono ?_
  rintro e w8 ⟨X_y1, rfl, y1_8, b8⟩
  have s8 := b8.size
  have B8 := B7.trans (b8.mono (by omega))
  have a1_8 := a1_7.below b8
  have sp0_8 := sp0_7.below b8
  have var_sp0_8 := var_sp0_7.below' b8
  have v1_8 := v1_7.below b8
  have im0_8 := im0_7.below b8
  have var_im0_8 := var_im0_7.below' b8
  clear b8 B7 a1_7 sp0_7 var_sp0_7 v1_7 im0_7 var_im0_7
  have ob_y1 := y1_8
  go_wp2_with fail
  refine (eqStepS_same _ _ n1 n1 _ _ _ _ v1_8.has y1_8.has (by omega)).mono ?_
  rintro e w9 ⟨rfl, b9⟩
  have s9 := b9.size
  have B9 := B8.trans (b9.mono (by omega))
  have a1_9 := a1_8.below b9
  have sp0_9 := sp0_8.below b9
  have var_sp0_9 := var_sp0_8.below' b9
  have v1_9 := v1_8.below b9
  have im0_9 := im0_8.below b9
  have var_im0_9 := var_im0_8.below' b9
  have y1_9 := y1_8.below b9
  clear b9 B8 a1_8 sp0_8 var_sp0_8 v1_8 im0_8 var_im0_8 y1_8
  go_wp2_with fail
  refine (markStepS_any _ _ _ _ _ _ _ v1_9 (by omega) (by omega) (by omega)).mono ?_
  rintro e w10 ⟨rfl, v1_10, h10⟩
  have g10 := spanOfT h10 ob_v1
  have s10 := g10.size
  have B10 := belowSpan B9 g10 (by omega) (by omega)
  have a1_10 := a1_9.span g10 (fun h0 ad e => Nat.lt_of_lt_of_le (old_a1 h0 ad e) (by omega))
  have sp0_10 := sp0_9.span g10 ob_sp0 (by omega)
  have var_sp0_10 : Blk w10 (w2.heap.size) #[.int .i64 RC0.in0, .int .i64 RC0.in1, .slice Gsp0 nsp0 csp0, .slice Osp0 msp0 dsp0] 29 := by first | exact var_sp0_9.span g10 (by omega) | exact var_sp0_9.spanHi g10 (by omega)
  have im0_10 := im0_9.span g10 (by omega)
  have var_im0_10 : Blk w10 (w5.heap.size) #[.int .i64 RC0.in0, .int .i64 RC0.in1, .slice Gim0 nim0 cim0, .slice Oim0 mim0 dim0] 29 := by first | exact var_im0_9.span g10 (by omega) | exact var_im0_9.spanHi g10 (by omega)
  clear g10 B9 h10 a1_9 sp0_9 var_sp0_9 v1_9 im0_9 var_im0_9
  have var_im0_c0 := var_im0_10.cell (i := 0) rfl
  have var_im0_c1 := var_im0_10.cell (i := 1) rfl
  have var_im0_c2 := var_im0_10.cell (i := 2) rfl
  have var_im0_c3 := var_im0_10.cell (i := 3) rfl
  have var_sp0_c0 := var_sp0_10.cell (i := 0) rfl
  have var_sp0_c1 := var_sp0_10.cell (i := 1) rfl
  have var_sp0_c2 := var_sp0_10.cell (i := 2) rfl
  have var_sp0_c3 := var_sp0_10.cell (i := 3) rfl
  go_wp2_with fail
  clear var_im0_c0 var_im0_c1 var_im0_c2 var_im0_c3 var_sp0_c0 var_sp0_c1 var_sp0_c2 var_sp0_c3
  refine (eqCircuit_same _ _ RC0 w10 im0_10.has sp0_10 la_sp0 lb_sp0).mono ?_
  rintro e w11 ⟨rfl, b11⟩
  have s11 := b11.size
  have B11 := B10.trans (b11.mono (by omega))
  have a1_11 := a1_10.below b11
  have sp0_11 := sp0_10.below b11
  have var_sp0_11 := var_sp0_10.below' b11
  have im0_11 := im0_10.below b11
  have var_im0_11 := var_im0_10.below' b11
  clear b11 B10 a1_10 sp0_10 var_sp0_10 im0_10 var_im0_10
  have hr0 : 0 ≤ sizeC RC0 ∧ sizeC RC0 ≤ 4194304 := by unfold sizeC; omega
  have var_im0_c0 := var_im0_11.cell (i := 0) rfl
  have var_im0_c1 := var_im0_11.cell (i := 1) rfl
  have var_im0_c2 := var_im0_11.cell (i := 2) rfl
  have var_im0_c3 := var_im0_11.cell (i := 3) rfl
  go_wp2_with fail
  clear var_im0_c0 var_im0_c1 var_im0_c2 var_im0_c3
  refine (markCircuit_any _ RC0 RC0 _ _ w11 _ im0_11 ob_im0 (by omega) la_sp0 lb_sp0 (by omega) (by omega)).mono ?_
  rintro e w12 ⟨rfl, im0_12, g12⟩
  have s12 := g12.size
  have B12 := belowSpan B11 g12 (by omega) (by omega)
  have a1_12 := a1_11.span g12 (fun h0 ad e => Nat.lt_of_lt_of_le (old_a1 h0 ad e) (by omega))
  have sp0_12 := sp0_11.span g12 ob_sp0 (by omega)
  have var_sp0_12 : Blk w12 (w2.heap.size) #[.int .i64 RC0.in0, .int .i64 RC0.in1, .slice Gsp0 nsp0 csp0, .slice Osp0 msp0 dsp0] 29 := by first | exact var_sp0_11.span g12 (by omega) | exact var_sp0_11.spanHi g12 (by omega)
  have var_im0_12 : Blk w12 (w5.heap.size) #[.int .i64 RC0.in0, .int .i64 RC0.in1, .slice Gim0 nim0 cim0, .slice Oim0 mim0 dim0] 29 := by first | exact var_im0_11.span g12 (by omega) | exact var_im0_11.spanHi g12 (by omega)
  clear g12 B11 a1_11 sp0_11 var_sp0_11 im0_11 var_im0_11
  have var_im0_c0 := var_im0_12.cell (i := 0) rfl
  have var_im0_c1 := var_im0_12.cell (i := 1) rfl
  have var_im0_c2 := var_im0_12.cell (i := 2) rfl
  have var_im0_c3 := var_im0_12.cell (i := 3) rfl
  go_wp2_with fail
  clear var_im0_c0 var_im0_c1 var_im0_c2 var_im0_c3
  refine (heldCircuit_any _ RC0 1 w12 im0_12.has la_sp0 lb_sp0 (by omega) (by omega)).mono ?_
  rintro e w13 ⟨rfl, b13⟩
  have s13 := b13.size
  have B13 := B12.trans (b13.mono (by omega))
  have a1_13 := a1_12.below b13
  have sp0_13 := sp0_12.below b13
  have var_sp0_13 := var_sp0_12.below' b13
  have im0_13 := im0_12.below b13
  have var_im0_13 := var_im0_12.below' b13
  clear b13 B12 a1_12 sp0_12 var_sp0_12 im0_12 var_im0_12
  go_wp2_with fail
  refine (toStepS_any A1 n1 c1 l1 _ a1_13 (by omega)).mono ?_
  rintro e w14 ⟨X_ag_u1, rfl, ag_u1_14, b14⟩
  have s14 := b14.size
  have B14 := B13.trans (b14.mono (by omega))
  have a1_14 := a1_13.below b14
  have sp0_14 := sp0_13.below b14
  have var_sp0_14 := var_sp0_13.below' b14
  have im0_14 := im0_13.below b14
  have var_im0_14 := var_im0_13.below' b14
  clear b14 B13 a1_13 sp0_13 var_sp0_13 im0_13 var_im0_13
  have ob_ag_u1 := ag_u1_14
  go_wp2_with fail
  refine (impl_NetworkCircuit x0 X_ag_u1 n1 n1 l1 x2 RC0 rb1 w14 hx0 ag_u1_14.has (by omega) ag_u1_14.nilOk hx2 HM.out).mono ?_
  rintro e w15 ⟨u_ag0, rfl, ag0_15, la_ag0, lb_ag0, b15⟩
  have s15 := b15.size
  have B15 := B14.trans (b15.mono (by omega))
  have a1_15 := a1_14.below b15
  have sp0_15 := sp0_14.below b15
  have var_sp0_15 := var_sp0_14.below' b15
  have im0_15 := im0_14.below b15
  have var_im0_15 := var_im0_14.below' b15
  have ag_u1_15 := ag_u1_14.below b15
  clear b15 B14 a1_14 sp0_14 var_sp0_14 im0_14 var_im0_14 ag_u1_14
  have ob_ag0 := ag0_15
  obtain ⟨Gag0, nag0, cag0, Oag0, mag0, dag0, rfl, _, _⟩ := id ag0_15
  have b16 := belowNew w15 (.cells #[.int .i64 RC0.in0, .int .i64 RC0.in1, .slice Gag0 nag0 cag0, .slice Oag0 mag0 dag0] 29)
  have s16 := b16.size
  have t16 : (w15.alloc (.cells #[.int .i64 RC0.in0, .int .i64 RC0.in1, .slice Gag0 nag0 cag0, .slice Oag0 mag0 dag0] 29)).heap.size = w15.heap.size + 1 := by simp
  have var_ag0_16 := Blk.new w15 #[.int .i64 RC0.in0, .int .i64 RC0.in1, .slice Gag0 nag0 cag0, .slice Oag0 mag0 dag0] 29
  have B16 := B15.trans (b16.mono (by omega))
  have a1_16 := a1_15.below b16
  have sp0_16 := sp0_15.below b16
  have var_sp0_16 := var_sp0_15.below' b16
  have im0_16 := im0_15.below b16
  have var_im0_16 := var_im0_15.below' b16
  have ag_u1_16 := ag_u1_15.below b16
  have ag0_16 := ag0_15.below b16
  clear b16 B15 a1_15 sp0_15 var_sp0_15 im0_15 var_im0_15 ag_u1_15 ag0_15
  generalize hw16 : w15.alloc (.cells #[.int .i64 RC0.in0, .int .i64 RC0.in1, .slice Gag0 nag0 cag0, .slice Oag0 mag0 dag0] 29) = w16 at *
  have var_ag0_c0 := var_ag0_16.cell (i := 0) rfl
  have var_ag0_c1 := var_ag0_16.cell (i := 1) rfl
  have var_ag0_c2 := var_ag0_16.cell (i := 2) rfl
  have var_ag0_c3 := var_ag0_16.cell (i := 3) rfl
  have var_sp0_c0 := var_sp0_16.cell (i := 0) rfl
  have var_sp0_c1 := var_sp0_16.cell (i := 1) rfl
  have var_sp0_c2 := var_sp0_16.cell (i := 2) rfl
  have var_sp0_c3 := var_sp0_16.cell (i := 3) rfl
  go_wp2_with fail
  try rw [hw16]
  clear hw16
  clear var_ag0_c0 var_ag0_c1 var_ag0_c2 var_ag0_c3 var_sp0_c0 var_sp0_c1 var_sp0_c2 var_sp0_c3
  refine (eqCircuit_same _ _ RC0 w16 ag0_16.has sp0_16 la_sp0 lb_sp0).mono ?_
  rintro e w17 ⟨rfl, b17⟩
  have s17 := b17.size
  have B17 := B16.trans (b17.mono (by omega))
  have a1_17 := a1_16.below b17
  have sp0_17 := sp0_16.below b17
  have var_sp0_17 := var_sp0_16.below' b17
  have im0_17 := im0_16.below b17
  have var_im0_17 := var_im0_16.below' b17
  have ag0_17 := ag0_16.below b17
  have var_ag0_17 := var_ag0_16.below' b17
  clear b17 B16 a1_16 sp0_16 var_sp0_16 im0_16 var_im0_16 ag0_16 var_ag0_16
  have var_im0_c0 := var_im0_17.cell (i := 0) rfl
  have var_im0_c1 := var_im0_17.cell (i := 1) rfl
  have var_im0_c2 := var_im0_17.cell (i := 2) rfl
  have var_im0_c3 := var_im0_17.cell (i := 3) rfl
  go_wp2_with fail
  clear var_im0_c0 var_im0_c1 var_im0_c2 var_im0_c3
  refine (heldCircuit_any _ RC0 1 w17 im0_17.has la_sp0 lb_sp0 (by omega) (by omega)).mono ?_
  rintro e w18 ⟨rfl, b18⟩
  have s18 := b18.size
  have B18 := B17.trans (b18.mono (by omega))
  have a1_18 := a1_17.below b18
  have sp0_18 := sp0_17.below b18
  have var_sp0_18 := var_sp0_17.below' b18
  have im0_18 := im0_17.below b18
  have var_im0_18 := var_im0_17.below' b18
  have ag0_18 := ag0_17.below b18
  have var_ag0_18 := var_ag0_17.below' b18
  clear b18 B17 a1_17 sp0_17 var_sp0_17 im0_17 var_im0_17 ag0_17 var_ag0_17
  go_wp2_with fail
  go_ret
  exact ⟨rfl, B18⟩

set_option maxRecDepth 100000 in
theorem lifted (os : Os) (started : os.Started) (H : Type) (enc : TypeId × Value → H) :
    ReturnsInHanded {} Try.checked os 14 .any (Rows.fnExactNetworkCircuitSpec.pre6 enc Try.prog Try.f14 Rows.fnExactNetworkCircuitRow.domain false) (Rows.fnExactNetworkCircuitSpec.post enc Try.prog Try.f14 false true false false) := by
  refine returnsInHanded_of_change (C := Try.checked) own started (by kernel_rfl) Try.func14
    (ChangeSpec.witness6 (enc := enc) (C := Try.checked) false ⟨#[], #[.int .i64 0, .slice none 0 0, .int .i64 0], []⟩ 8 (by kernel_rfl) (by kernel_rfl) (by kernel_rfl) (by kernel_rfl)) ?_
  intro W base args ds gs before hval0 hW hcnd _
  have hval : ∀ (j : Nat) t v, Try.f14.params[j]? = some t → args[j]? = some v → Value.okWide Try.prog W .any base t v := hval0
  have hW' := hW
  obtain ⟨p, q, hA0, hV, rfl, hfz, hnd⟩ := hW
  have hA : DataW.TrodAll enc Try.prog W 0 (fun _ => true) true Try.f14.params.toList args.toList ds p := hA0
  rw [Try.params14] at hA hval
  obtain ⟨v0, vs0, d0, ds0, p0, q0, hargs, rfl, rfl, h0, r0⟩ := trodAll_cons hA
  obtain ⟨v1, vs1, d1, ds1, p1, q1, hargs1, rfl, rfl, h1, r1⟩ := trodAll_cons r0
  obtain ⟨v2, vs2, d2, ds2, p2, q2, hargs2, rfl, rfl, h2, r2⟩ := trodAll_cons r1
  obtain ⟨rfl, rfl, rfl⟩ := trodAll_nil r2
  obtain rfl : args = #[v0, v1, v2] := by cases args; simp_all
  obtain ⟨rfl, rfl⟩ := trodVars_none hV
  clear hA0 hval0
  obtain ⟨x0, rfl, rfl, rfl, wx0⟩ := open_int Try.underlying3 (hval 0 _ v0 rfl rfl) h0
  have hlt1 : ∀ x ∈ p1, x.block < W.heap.size := fun x hx => by simpa using hW'.lt x (by simp [hx])
  obtain ⟨a1, n1, c1, l1, rfl, g1, mx1, _, _, _⟩ := openSteps (hval 1 _ v1 rfl rfl) h1
  obtain ⟨x2, rfl, rfl, rfl, wx2⟩ := open_int Try.underlying3 (hval 2 _ v2 rfl rfl) h2
  simp only [List.append_nil] at hW'
  refine (walk x0 a1 n1 c1 l1 x2 W (I64.of wx0) g1 mx1 (I64.of wx2)).mono fun e W' ⟨he, hb⟩ => ?_
  subst he
  exact ⟨_, rfl, lawPost (pa := [] ++ (p1 ++ ([]))) (pv := []) hW' (fun _ _ _ => trodAll_mk1 (shut_bool Try.underlying4 _)) (trodAll_mk3 (shut_int Try.underlying3 wx0) (Below.trod laidOut (by kernel_rfl) (of_decide_eq_true (by kernel_rfl)) h1 hb hlt1) (shut_int Try.underlying3 wx2)) rfl (by simp) hb⟩

theorem proved : Rows.FnExactNetworkCircuitSaid :=
  OpenClaim.holds_of_wide 14 Try.f14 rfl rfl rfl rfl rfl rfl rfl ⟨rfl, rfl, rfl, rfl, rfl⟩ rfl rfl rfl rfl rfl (by kernel_rfl) Try.func14 (by kernel_rfl)
    (of_decide_eq_true (by kernel_rfl)) (by unfold Func.isWrapper; first | (rw [if_pos (by decide +kernel)]; kernel_rfl) | (rw [if_neg (by decide +kernel)]; exact ⟨rfl, rfl⟩))
    (fun os started H enc _ => lifted os started H enc)

end Go.Proofs.Yteiibneaihdmbaa.lawNetworkCircuit
