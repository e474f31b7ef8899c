/- The exact law of RunProgram: for every list of lines and inputs that the row allows, the program and the model answer the same, the arguments are left as they were, and the answer owns its memory. The forms of the lines and the words of the operations are as start-up lays them. -/
import Derived.Test.YtcbofogmfelpkaaDoorHelp
import Derived.Test.YtcbofogmfelpkaaDoorClose
import Derived.Test.YtcbofogmfelpkaaDoorLn8
import Derived.Test.YtcbofogmfelpkaaDoorLnO
import Derived.Test.YtcbofogmfelpkaaDoorLnVB
import Derived.Test.YtcbofogmfelpkaaDoorLaid4
import Derived.Test.YtcbofogmfelpkaaDoorCards
import Derived.Test.YtcbofogmfelpkaaDoorTie
import Derived.Lay
namespace Go.Proofs.YtcbofogmfelpkaaDoor.lawRunProgram
open Go.ChangeShapes Go.WideShapes Go.ChangeAt Go.RowKit
set_option maxRecDepth 100000

set_option maxRecDepth 100000 in
set_option maxHeartbeats 4000000 in
theorem walk (A0 : Option Addr) (n0 c0 : Nat) (ls0 : List Ln) (A1 : Option Addr) (n1 c1 : Nat) (zs1 : List Int) (A2 : Option Addr) (n2 c2 : Nat) (zs2 : List Int) (W : World) (a0_0 : HasL W A0 n0 ls0) (hx0 : n0 ≤ maxLen) (wz0 : ∀ j, j < n0 → BigL (lnAt ls0 j)) (a1_0 : Has W A1 n1 zs1) (a2_0 : Has W A2 n2 zs2) (hF0 : Forms W) (hW0 : OpWords W) :
    Calls Tryd.prog 8 #[.slice A0 n0 c0, .slice A1 n1 c1, .slice A2 n2 c2] W fun e W' => e = .returned (.bool true) ∧ Below W.heap.size W W' := by
  have HA0 := Lib.hid a0_0
  have HWz0 := Lib.hid wz0
  clear a0_0 wz0
  have HA1 := Lib.hid a1_0
  clear a1_0
  have HA2 := Lib.hid a2_0
  clear a2_0
  have HT0 := Lib.hid hF0
  clear hF0
  have HT1 := Lib.hid hW0
  clear hW0
  have B0 : Below W.heap.size W W := Below.refl _ _
  have s0 : W.heap.size ≤ W.heap.size := Nat.le_refl _
  by_cases hn1 : 1048576 < n1
  · go_enter Tryd.func8, Tryd.ntmps8
    go_wp2_with fail
    go_ret
    exact ⟨rfl, B0⟩
  by_cases hn2 : 1048576 < n2
  · go_enter Tryd.func8, Tryd.ntmps8
    go_wp2_with fail
    go_ret
    exact ⟨rfl, B0⟩
  obtain ⟨r, hm⟩ : ∃ r, m_RunProgram ls0 zs1 zs2 = r := ⟨_, rfl⟩
  obtain ⟨rs0, rb1⟩ := r
  have HM := Lib.hid hm
  clear hm
  go_enter Tryd.func8, Tryd.ntmps8
  go_wp2_with fail
  refine (szLineS_any A0 n0 c0 ls0 1048576 W (HA0.out.below B0) (by omega) (by omega) hx0 HWz0.out).mono ?_
  rintro e w1 ⟨l0, rfl, la0, lb0, lf0, b1⟩
  have s1 := b1.size
  have B1 := B0.trans (b1.mono (by omega))
  clear b1 B0 
  by_cases hneg0 : l0 < 0
  · go_wp2_with fail
    go_ret
    exact ⟨rfl, B1⟩
  have HF0 : Hid (n0 + partsTo ls0 n0 ≤ 1048576 ∧ ∀ j, j < n0 → FitL (lnAt ls0 j)) := lf0.out (by omega)
  have hn0 : n0 ≤ 1048576 := by have := HF0.out.1; omega
  clear lf0 la0 lb0
  go_wp2_with fail
  refine (toLineS_any A0 n0 c0 ls0 _ (HA0.out.below B1) hn0 HF0.out.2).mono ?_
  rintro e w2 ⟨X_sp_u0, F_sp_u0, rfl, sp_u0_2, b2⟩
  have s2 := b2.size
  have B2 := B1.trans (b2.mono (by omega))
  clear b2 B1 
  have ob_sp_u0 := sp_u0_2
  go_wp2_with fail
  refine (toIntS_any A1 n1 c1 zs1 _ (HA1.out.below B2) (by omega)).mono ?_
  rintro e w3 ⟨X_sp_u1, rfl, sp_u1_3, b3⟩
  have s3 := b3.size
  have B3 := B2.trans (b3.mono (by omega))
  have sp_u0_3 := sp_u0_2.below b3
  clear b3 B2 sp_u0_2
  have ob_sp_u1 := sp_u1_3
  go_wp2_with fail
  refine (toIntS_any A2 n2 c2 zs2 _ (HA2.out.below B3) (by omega)).mono ?_
  rintro e w4 ⟨X_sp_u2, rfl, sp_u2_4, b4⟩
  have s4 := b4.size
  have B4 := B3.trans (b4.mono (by omega))
  have sp_u0_4 := sp_u0_3.below b4
  have sp_u1_4 := sp_u1_3.below b4
  clear b4 B3 sp_u0_3 sp_u1_3
  have ob_sp_u2 := sp_u2_4
  go_wp2_with fail
  refine (spec_RunProgram X_sp_u0 n0 n0 ls0 X_sp_u1 n1 n1 zs1 X_sp_u2 n2 n2 zs2 rs0 rb1 w4 sp_u0_4.has hn0 (Nat.le_refl _) HF0.out.2 sp_u1_4.has (by omega) (own_nilOk sp_u1_4) sp_u2_4.has (by omega) (own_nilOk sp_u2_4) HM.out).mono ?_
  rintro e w5 ⟨R_sp0, m_sp0, c_sp0, rfl, sp0_5, l_sp0, b5⟩
  have s5 := b5.size
  have B5 := B4.trans (b5.mono (by omega))
  have sp_u0_5 := sp_u0_4.below b5
  have sp_u1_5 := sp_u1_4.below b5
  have sp_u2_5 := sp_u2_4.below b5
  clear b5 B4 sp_u0_4 sp_u1_4 sp_u2_4
  have ob_sp0 := sp0_5
  have old_sp0 := sp0_5.old
  clear sp_u0_5
  clear sp_u1_5
  clear sp_u2_5
  go_wp2_with fail
  refine (toLineS_any A0 n0 c0 ls0 _ (HA0.out.below B5) hn0 HF0.out.2).mono ?_
  rintro e w6 ⟨X_v0, F_v0, rfl, v0_6, b6⟩
  have s6 := b6.size
  have B6 := B5.trans (b6.mono (by omega))
  have sp0_6 := sp0_5.below b6
  clear b6 B5 sp0_5
  have ob_v0 := v0_6
  go_wp2_with fail
  refine (toIntS_any A1 n1 c1 zs1 _ (HA1.out.below B6) (by omega)).mono ?_
  rintro e w7 ⟨X_v1, rfl, v1_7, b7⟩
  have s7 := b7.size
  have B7 := B6.trans (b7.mono (by omega))
  have sp0_7 := sp0_6.below b7
  have v0_7 := v0_6.below b7
  clear b7 B6 sp0_6 v0_6
  have ob_v1 := v1_7
  go_wp2_with fail
  refine (toIntS_any A2 n2 c2 zs2 _ (HA2.out.below B7) (by omega)).mono ?_
  rintro e w8 ⟨X_v2, rfl, v2_8, b8⟩
  have s8 := b8.size
  have B8 := B7.trans (b8.mono (by omega))
  have sp0_8 := sp0_7.below b8
  have v0_8 := v0_7.below b8
  have v1_8 := v1_7.below b8
  clear b8 B7 sp0_7 v0_7 v1_7
  have ob_v2 := v2_8
  go_wp2_with fail
  refine (impl_RunProgram X_v0 n0 n0 ls0 X_v1 n1 n1 zs1 X_v2 n2 n2 zs2 rs0 rb1 w8 v0_8.has hn0 (Nat.le_refl _) HF0.out.2 v1_8.has (by omega) (own_nilOk v1_8) v2_8.has (by omega) (own_nilOk v2_8) (HT0.out.below B8) (HT1.out.below B8) HM.out).mono ?_
  rintro e w9 ⟨R_im0, m_im0, c_im0, rfl, im0_9, l_im0, b9⟩
  have s9 := b9.size
  have B9 := B8.trans (b9.mono (by omega))
  have sp0_9 := sp0_8.below b9
  have v0_9 := v0_8.below b9
  have v1_9 := v1_8.below b9
  have v2_9 := v2_8.below b9
  clear b9 B8 sp0_8 v0_8 v1_8 v2_8
  have ob_im0 := im0_9
  go_wp2_with fail
  refine (eqIntS_same _ _ m_im0 m_sp0 _ _ _ _ im0_9.has sp0_9 (by omega)).mono ?_
  rintro e w10 ⟨rfl, b10⟩
  have s10 := b10.size
  have B10 := B9.trans (b10.mono (by omega))
  have sp0_10 := sp0_9.below b10
  have v0_10 := v0_9.below b10
  have v1_10 := v1_9.below b10
  have v2_10 := v2_9.below b10
  have im0_10 := im0_9.below b10
  clear b10 B9 sp0_9 v0_9 v1_9 v2_9 im0_9
  go_wp2_with fail
  refine (toLineS_any A0 n0 c0 ls0 _ (HA0.out.below B10) hn0 HF0.out.2).mono ?_
  rintro e w11 ⟨X_y0, F_y0, rfl, y0_11, b11⟩
  have s11 := b11.size
  have B11 := B10.trans (b11.mono (by omega))
  have sp0_11 := sp0_10.below b11
  have v0_11 := v0_10.below b11
  have v1_11 := v1_10.below b11
  have v2_11 := v2_10.below b11
  have im0_11 := im0_10.below b11
  clear b11 B10 sp0_10 v0_10 v1_10 v2_10 im0_10
  have ob_y0 := y0_11
  go_wp2_with fail
  refine (eqLineS_same _ _ n0 n0 _ _ _ _ v0_11.has y0_11.has hn0 (fun j hj => (HF0.out.2 j hj).plen)).mono ?_
  rintro e w12 ⟨rfl, b12⟩
  have s12 := b12.size
  have B12 := B11.trans (b12.mono (by omega))
  have sp0_12 := sp0_11.below b12
  have v0_12 := v0_11.below b12
  have v1_12 := v1_11.below b12
  have v2_12 := v2_11.below b12
  have im0_12 := im0_11.below b12
  have y0_12 := y0_11.below b12
  clear b12 B11 sp0_11 v0_11 v1_11 v2_11 im0_11 y0_11
  clear y0_12
  go_wp2_with fail
  refine (toIntS_any A1 n1 c1 zs1 _ (HA1.out.below B12) (by omega)).mono ?_
  rintro e w13 ⟨X_y1, rfl, y1_13, b13⟩
  have s13 := b13.size
  have B13 := B12.trans (b13.mono (by omega))
  have sp0_13 := sp0_12.below b13
  have v0_13 := v0_12.below b13
  have v1_13 := v1_12.below b13
  have v2_13 := v2_12.below b13
  have im0_13 := im0_12.below b13
  clear b13 B12 sp0_12 v0_12 v1_12 v2_12 im0_12
  have ob_y1 := y1_13
  go_wp2_with fail
  refine (eqIntS_same _ _ n1 n1 _ _ _ _ v1_13.has y1_13.has (by omega)).mono ?_
  rintro e w14 ⟨rfl, b14⟩
  have s14 := b14.size
  have B14 := B13.trans (b14.mono (by omega))
  have sp0_14 := sp0_13.below b14
  have v0_14 := v0_13.below b14
  have v1_14 := v1_13.below b14
  have v2_14 := v2_13.below b14
  have im0_14 := im0_13.below b14
  have y1_14 := y1_13.below b14
  clear b14 B13 sp0_13 v0_13 v1_13 v2_13 im0_13 y1_13
  clear y1_14
  go_wp2_with fail
  refine (toIntS_any A2 n2 c2 zs2 _ (HA2.out.below B14) (by omega)).mono ?_
  rintro e w15 ⟨X_y2, rfl, y2_15, b15⟩
  have s15 := b15.size
  have B15 := B14.trans (b15.mono (by omega))
  have sp0_15 := sp0_14.below b15
  have v0_15 := v0_14.below b15
  have v1_15 := v1_14.below b15
  have v2_15 := v2_14.below b15
  have im0_15 := im0_14.below b15
  clear b15 B14 sp0_14 v0_14 v1_14 v2_14 im0_14
  have ob_y2 := y2_15
  go_wp2_with fail
  refine (eqIntS_same _ _ n2 n2 _ _ _ _ v2_15.has y2_15.has (by omega)).mono ?_
  rintro e w16 ⟨rfl, b16⟩
  have s16 := b16.size
  have B16 := B15.trans (b16.mono (by omega))
  have sp0_16 := sp0_15.below b16
  have v0_16 := v0_15.below b16
  have v1_16 := v1_15.below b16
  have v2_16 := v2_15.below b16
  have im0_16 := im0_15.below b16
  have y2_16 := y2_15.below b16
  clear b16 B15 sp0_15 v0_15 v1_15 v2_15 im0_15 y2_15
  clear y2_16
  have oe_v0 := v0_16.off 1
  have of_v0 : offN F_v0 1 n0 ≤ 16777216 := by have := HF0.out.1; omega
  have og_v0 : offN F_v0 1 n0 ≤ 8388608 := by have := HF0.out.1; omega
  clear oe_v0
  go_wp2_with fail
  refine (markLineS_any _ _ _ _ _ 1 _ _ _ v0_16 (by omega) (by omega) of_v0).mono ?_
  rintro e w17 ⟨rfl, v0_17, g17⟩
  have s17 := g17.size
  have B17 := belowSpan B16 g17 (by omega) (by omega)
  have sp0_17 := sp0_16.span g17 (fun h0 ad e => Nat.lt_of_lt_of_le (old_sp0 h0 ad e) (by omega))
  have v1_17 := v1_16.span g17 (by omega)
  have v2_17 := v2_16.span g17 (by omega)
  have im0_17 := im0_16.span g17 (by omega)
  clear g17 B16 sp0_16 v0_16 v1_16 v2_16 im0_16
  clear v0_17
  go_wp2_with fail
  refine (markIntS_any _ _ _ _ _ _ _ v1_17 (by omega) (by omega) (by omega)).mono ?_
  rintro e w18 ⟨rfl, v1_18, h18⟩
  have g18 := spanOfL h18 ob_v1
  have s18 := g18.size
  have B18 := belowSpan B17 g18 (by omega) (by omega)
  have sp0_18 := sp0_17.span g18 (fun h0 ad e => Nat.lt_of_lt_of_le (old_sp0 h0 ad e) (by omega))
  have v2_18 := v2_17.span g18 (by omega)
  have im0_18 := im0_17.span g18 (by omega)
  clear g18 B17 h18 sp0_17 v1_17 v2_17 im0_17
  clear v1_18
  go_wp2_with fail
  refine (markIntS_any _ _ _ _ _ _ _ v2_18 (by omega) (by omega) (by omega)).mono ?_
  rintro e w19 ⟨rfl, v2_19, h19⟩
  have g19 := spanOfL h19 ob_v2
  have s19 := g19.size
  have B19 := belowSpan B18 g19 (by omega) (by omega)
  have sp0_19 := sp0_18.span g19 (fun h0 ad e => Nat.lt_of_lt_of_le (old_sp0 h0 ad e) (by omega))
  have im0_19 := im0_18.span g19 (by omega)
  clear g19 B18 h19 sp0_18 v2_18 im0_18
  clear v2_19
  go_wp2_with fail
  refine (eqIntS_same _ _ m_im0 m_sp0 _ _ _ _ im0_19.has sp0_19 (by omega)).mono ?_
  rintro e w20 ⟨rfl, b20⟩
  have s20 := b20.size
  have B20 := B19.trans (b20.mono (by omega))
  have sp0_20 := sp0_19.below b20
  have im0_20 := im0_19.below b20
  clear b20 B19 sp0_19 im0_19
  go_wp2_with fail
  refine (markIntS_any _ _ _ _ _ _ _ im0_20 (by omega) (by omega) (by omega)).mono ?_
  rintro e w21 ⟨rfl, im0_21, h21⟩
  have g21 := spanOfL h21 ob_im0
  have s21 := g21.size
  have B21 := belowSpan B20 g21 (by omega) (by omega)
  have sp0_21 := sp0_20.span g21 (fun h0 ad e => Nat.lt_of_lt_of_le (old_sp0 h0 ad e) (by omega))
  clear g21 B20 h21 sp0_20 im0_20
  go_wp2_with fail
  refine (heldIntS_any _ _ _ _ _ im0_21.has (by omega) (by omega) (by omega)).mono ?_
  rintro e w22 ⟨rfl, b22⟩
  have s22 := b22.size
  have B22 := B21.trans (b22.mono (by omega))
  have sp0_22 := sp0_21.below b22
  have im0_22 := im0_21.below b22
  clear b22 B21 sp0_21 im0_21
  go_wp2_with fail
  refine (toLineS_any A0 n0 c0 ls0 _ (HA0.out.below B22) hn0 HF0.out.2).mono ?_
  rintro e w23 ⟨X_ag_u0, F_ag_u0, rfl, ag_u0_23, b23⟩
  have s23 := b23.size
  have B23 := B22.trans (b23.mono (by omega))
  have sp0_23 := sp0_22.below b23
  have im0_23 := im0_22.below b23
  clear b23 B22 sp0_22 im0_22
  have ob_ag_u0 := ag_u0_23
  go_wp2_with fail
  refine (toIntS_any A1 n1 c1 zs1 _ (HA1.out.below B23) (by omega)).mono ?_
  rintro e w24 ⟨X_ag_u1, rfl, ag_u1_24, b24⟩
  have s24 := b24.size
  have B24 := B23.trans (b24.mono (by omega))
  have sp0_24 := sp0_23.below b24
  have im0_24 := im0_23.below b24
  have ag_u0_24 := ag_u0_23.below b24
  clear b24 B23 sp0_23 im0_23 ag_u0_23
  have ob_ag_u1 := ag_u1_24
  go_wp2_with fail
  refine (toIntS_any A2 n2 c2 zs2 _ (HA2.out.below B24) (by omega)).mono ?_
  rintro e w25 ⟨X_ag_u2, rfl, ag_u2_25, b25⟩
  have s25 := b25.size
  have B25 := B24.trans (b25.mono (by omega))
  have sp0_25 := sp0_24.below b25
  have im0_25 := im0_24.below b25
  have ag_u0_25 := ag_u0_24.below b25
  have ag_u1_25 := ag_u1_24.below b25
  clear b25 B24 sp0_24 im0_24 ag_u0_24 ag_u1_24
  have ob_ag_u2 := ag_u2_25
  go_wp2_with fail
  refine (impl_RunProgram X_ag_u0 n0 n0 ls0 X_ag_u1 n1 n1 zs1 X_ag_u2 n2 n2 zs2 rs0 rb1 w25 ag_u0_25.has hn0 (Nat.le_refl _) HF0.out.2 ag_u1_25.has (by omega) (own_nilOk ag_u1_25) ag_u2_25.has (by omega) (own_nilOk ag_u2_25) (HT0.out.below B25) (HT1.out.below B25) HM.out).mono ?_
  rintro e w26 ⟨R_ag0, m_ag0, c_ag0, rfl, ag0_26, l_ag0, b26⟩
  have s26 := b26.size
  have B26 := B25.trans (b26.mono (by omega))
  have sp0_26 := sp0_25.below b26
  have im0_26 := im0_25.below b26
  have ag_u0_26 := ag_u0_25.below b26
  have ag_u1_26 := ag_u1_25.below b26
  have ag_u2_26 := ag_u2_25.below b26
  clear b26 B25 sp0_25 im0_25 ag_u0_25 ag_u1_25 ag_u2_25
  have ob_ag0 := ag0_26
  clear ag_u0_26
  clear ag_u1_26
  clear ag_u2_26
  go_wp2_with fail
  refine (eqIntS_same _ _ m_ag0 m_sp0 _ _ _ _ ag0_26.has sp0_26 (by omega)).mono ?_
  rintro e w27 ⟨rfl, b27⟩
  have s27 := b27.size
  have B27 := B26.trans (b27.mono (by omega))
  have sp0_27 := sp0_26.below b27
  have im0_27 := im0_26.below b27
  have ag0_27 := ag0_26.below b27
  clear b27 B26 sp0_26 im0_26 ag0_26
  go_wp2_with fail
  refine (heldIntS_any _ _ _ _ _ im0_27.has (by omega) (by omega) (by omega)).mono ?_
  rintro e w28 ⟨rfl, b28⟩
  have s28 := b28.size
  have B28 := B27.trans (b28.mono (by omega))
  have sp0_28 := sp0_27.below b28
  have im0_28 := im0_27.below b28
  have ag0_28 := ag0_27.below b28
  clear b28 B27 sp0_27 im0_27 ag0_27
  go_wp2_with fail
  go_ret
  exact ⟨rfl, B28⟩

theorem lifted (os : Os) (started : os.Started) (H : Type) (enc : TypeId × Value → H) :
    ReturnsInHanded {} Tryd.checked os 8 .any (fun w args => (Rows.fnExactRunProgramSpec.pre enc Tryd.prog Tryd.f8 [] false w args ∧ laidMetH Tryd.prog Rows.fnExactRunProgramRow.laid w) ∧ sizedMet enc Tryd.prog Tryd.f8 (OpenSpec.ofChange Rows.fnExactRunProgramSpec) false w args) (Rows.fnExactRunProgramSpec.post enc Tryd.prog Tryd.f8 false true false false) := by
  refine Go.handedShaped (C := Tryd.checked) (X := fun w _ => laidMetH Tryd.prog Rows.fnExactRunProgramRow.laid w) (fun _ _ _ hh h => h.of_heap hh) own started (by kernel_rfl) Tryd.func8
    (ChangeSpec.witness_shaped (enc := enc) (C := Tryd.checked) (os := os) (X := fun w _ => laidMetH Tryd.prog Rows.fnExactRunProgramRow.laid w) false (World.laidAll Tryd.prog os Rows.fnExactRunProgramRow.laid) #[.slice none 0 0, .slice none 0 0, .slice none 0 0] 8 (World.laidAll_os _ _ _) (World.shaped_of_ZipB (by kernel_rfl) (by kernel_rfl)) (by kernel_rfl) (by kernel_rfl) (by kernel_rfl) (by rw [MakeChecks.laidMetH_plain _ _ _ (by kernel_rfl)]; exact laidMet_laidAll _ (by kernel_rfl) (by kernel_rfl))) ?_
  intro W base args ds gs before hval0 hW hL hsh
  have hval : ∀ (j : Nat) t v, Tryd.f8.params[j]? = some t → args[j]? = some v → Value.okWide Tryd.prog W .any base t v := hval0
  have hW' := hW
  obtain ⟨p, q, hA0, hV, rfl, hfz, hnd⟩ := hW
  have hA : DataW.TrodAll enc Tryd.prog W 0 (fun _ => true) true Tryd.f8.params.toList args.toList ds p := hA0
  rw [Tryd.params8] at hA hval
  obtain ⟨v0, vs0, d0, ds0, p0, q0, hargs, rfl, rfl, h0, r0⟩ := trodAll_cons hA
  obtain ⟨v1, vs1, d1, ds1, p1, q1, hargs1, rfl, rfl, h1, r1⟩ := trodAll_cons r0
  obtain ⟨v2, vs2, d2, ds2, p2, q2, hargs2, rfl, rfl, h2, r2⟩ := trodAll_cons r1
  obtain ⟨rfl, rfl, rfl⟩ := trodAll_nil r2
  obtain rfl : args = #[v0, v1, v2] := by cases args; simp_all
  have hT0 := laidLines (by kernel_rfl) (by kernel_rfl) hL
  have hVlt : ∀ x ∈ q, x.block < W.heap.size := fun x hx => by simpa using hW'.lt x (by simp [hx])
  have hagain : ∀ W', Below W.heap.size W W' → DataW.TrodVars enc Tryd.prog W' (fun b => decide (b < W.heap.size)) Rows.fnExactRunProgramSpec.vars gs q := fun W' hb => varsAgain laidOut hb (by kernel_rfl) hV hVlt
  obtain ⟨g0v, g1v, rfl⟩ := vars2 hV
  clear hA0 hval0
  have hlt0 : ∀ x ∈ p0, x.block < W.heap.size := fun x hx => by simpa using hW'.lt x (by simp [hx])
  obtain ⟨a0, n0, c0, ls0, rfl, g0, hm0, _, _, wf0⟩ := openLs (hval 0 _ v0 rfl rfl) h0
  have hlt1 : ∀ x ∈ p1, x.block < W.heap.size := fun x hx => by simpa using hW'.lt x (by simp [hx])
  obtain ⟨a1, n1, c1, zs1, rfl, g1, wf1⟩ := openInts (hval 1 _ v1 rfl rfl) h1
  have hlt2 : ∀ x ∈ p2, x.block < W.heap.size := fun x hx => by simpa using hW'.lt x (by simp [hx])
  obtain ⟨a2, n2, c2, zs2, rfl, g2, wf2⟩ := openInts (hval 2 _ v2 rfl rfl) h2
  refine (walk a0 n0 c0 ls0 a1 n1 c1 zs1 a2 n2 c2 zs2 W g0 hm0 wf0 g1 g2 hT0.1 hT0.2).mono fun e W' ⟨he, hb⟩ => ?_
  subst he
  exact ⟨_, rfl, lawPost (pa := p0 ++ (p1 ++ (p2))) (pv := q) hW' (fun _ _ _ => trodAll_mk1 (shut_bool Tryd.underlying4 _)) (trodAll_mk3 (Below.trod laidOut (by kernel_rfl) (of_decide_eq_true (by kernel_rfl)) h0 hb hlt0) (Below.trod laidOut (by kernel_rfl) (of_decide_eq_true (by kernel_rfl)) h1 hb hlt1) (Below.trod laidOut (by kernel_rfl) (of_decide_eq_true (by kernel_rfl)) h2 hb hlt2)) (hagain W' hb) (by simp) hb⟩

theorem row_holds : Rows.FnExactRunProgramSaid :=
  OpenClaim.holds_of_wide 8 Tryd.f8 rfl rfl rfl rfl rfl rfl rfl ⟨rfl, rfl, rfl, rfl, rfl⟩ rfl rfl rfl rfl rfl (by kernel_rfl) Tryd.func8 (by kernel_rfl)
    (of_decide_eq_true (by kernel_rfl)) (by unfold Func.isWrapper; first | (rw [if_pos (by decide +kernel)]; kernel_rfl) | (rw [if_neg (by decide +kernel)]; exact ⟨rfl, rfl⟩))
    (fun os started H enc _ => lifted os started H enc)

theorem proved : Rows.FnExactRunProgramCardSaid :=
  Claim7.holds_tied_plain_at .later [] [.data, .data, .data, .pinned] true _ false row_holds (fun _ h => by cases h) (by kernel_rfl) (fun _ h => by cases h) fnExactRunProgram_row_tie rfl ⟨rfl, rfl⟩ (by kernel_rfl) rfl
    (fun f fn hf hfn => by
      obtain rfl : f = 8 := (Option.some.inj ((show Tryd.prog.funcNamed Rows.fnExactRunProgramRow.func = some 8 by kernel_rfl).symm.trans hf)).symm
      obtain rfl : fn = Tryd.f8 := (Option.some.inj (Tryd.func8.symm.trans hfn)).symm
      exact ⟨by kernel_rfl, noStandIn (by kernel_rfl)⟩)
    (by kernel_rfl)

end Go.Proofs.YtcbofogmfelpkaaDoor.lawRunProgram
