/- The exact law of StreamXor: for every input the program's function and the model's answer alike, and the argument reads as it did. The table of first numbers is as start-up lays it. -/
import Derived.Test.YtadkbfjhghipaaaDoorHelp
import Derived.Test.YtadkbfjhghipaaaDoorClose
import Derived.Test.YtadkbfjhghipaaaDoorLaid1
import Derived.Test.YtadkbfjhghipaaaDoorCards
import Derived.Test.YtadkbfjhghipaaaDoorTie
import Derived.Test.YtadkbfjhghipaaaDoorDg5
namespace Go.Proofs.YtadkbfjhghipaaaDoor.lawStreamXor
open Go.ChangeShapes Go.WideShapes Go.ChangeAt Go.RowKit

set_option maxHeartbeats 1000000 in
theorem walk (A0 : Option Addr) (n0 c0 : Nat) (zs0 : List Int) (A1 : Option Addr) (n1 c1 : Nat) (zs1 : List Int) (W : World) (a0_0 : Has W A0 n0 zs0) (a1_0 : Has W A1 n1 zs1) (hT0 : Starts W) :
    Calls Tryd.prog 8 #[.slice A0 n0 c0, .slice A1 n1 c1] W fun e W' => e = .returned (.bool true) ∧ Below W.heap.size W W' := by
  by_cases hn0 : 1048576 < n0
  · go_enter Tryd.func8, Tryd.ntmps8
    go_wp2_with fail
    go_ret
    exact ⟨rfl, Below.refl _ _⟩
  by_cases hn1 : 1048576 < n1
  · go_enter Tryd.func8, Tryd.ntmps8
    go_wp2_with fail
    go_ret
    exact ⟨rfl, Below.refl _ _⟩
  obtain ⟨r, hm⟩ : ∃ r, m_StreamXor zs0 zs1 = r := ⟨_, rfl⟩
  obtain ⟨rs0, rb1⟩ := r
  have HM := Lib.hid hm
  clear hm
  have B0 : Below W.heap.size W W := Below.refl _ _
  have s0 : W.heap.size ≤ W.heap.size := Nat.le_refl _
  have old_a0 := a0_0.old
  have old_a1 := a1_0.old
  go_enter Tryd.func8, Tryd.ntmps8
  go_wp2_with fail
  refine (toIntS_any A0 n0 c0 zs0 _ a0_0 (by omega)).mono ?_
  rintro e w1 ⟨X_u0, rfl, u0_1, b1⟩
  have s1 := b1.size
  have B1 := B0.trans (b1.mono (by omega))
  have a0_1 := a0_0.below b1
  have a1_1 := a1_0.below b1
  clear b1 B0 a0_0 a1_0
  have u0_b := u0_1
  go_wp2_with fail
  refine (toIntS_any A1 n1 c1 zs1 _ a1_1 (by omega)).mono ?_
  rintro e w2 ⟨X_u1, rfl, u1_2, b2⟩
  have s2 := b2.size
  have B2 := B1.trans (b2.mono (by omega))
  have a0_2 := a0_1.below b2
  have a1_2 := a1_1.below b2
  have u0_2 := u0_1.below b2
  clear b2 B1 a0_1 a1_1 u0_1
  have u1_b := u1_2
  go_wp2_with fail
  refine (spec_StreamXor X_u0 n0 n0 zs0 X_u1 n1 n1 zs1 rs0 rb1 _ u0_2.has (by omega) (own_nilOk u0_2) u1_2.has (by omega) (own_nilOk u1_2) HM.out).mono ?_
  rintro e w3 ⟨R_sp0, m_sp0, c_sp0, rfl, sp0_3, l_sp0, b3⟩
  have s3 := b3.size
  have B3 := B2.trans (b3.mono (by omega))
  have a0_3 := a0_2.below b3
  have a1_3 := a1_2.below b3
  have u0_3 := u0_2.below b3
  have u1_3 := u1_2.below b3
  clear b3 B2 a0_2 a1_2 u0_2 u1_2
  have old_sp0 := sp0_3.old
  go_wp2_with fail
  refine (toIntS_any A0 n0 c0 zs0 _ a0_3 (by omega)).mono ?_
  rintro e w4 ⟨X_v0, rfl, v0_4, b4⟩
  have s4 := b4.size
  have B4 := B3.trans (b4.mono (by omega))
  have a0_4 := a0_3.below b4
  have a1_4 := a1_3.below b4
  have sp0_4 := sp0_3.below b4
  clear b4 B3 a0_3 a1_3 sp0_3
  have v0_b := v0_4
  go_wp2_with fail
  refine (toIntS_any A1 n1 c1 zs1 _ a1_4 (by omega)).mono ?_
  rintro e w5 ⟨X_v1, rfl, v1_5, b5⟩
  have s5 := b5.size
  have B5 := B4.trans (b5.mono (by omega))
  have a0_5 := a0_4.below b5
  have a1_5 := a1_4.below b5
  have sp0_5 := sp0_4.below b5
  have v0_5 := v0_4.below b5
  clear b5 B4 a0_4 a1_4 sp0_4 v0_4
  have v1_b := v1_5
  go_wp2_with fail
  refine (impl_StreamXor X_v0 n0 n0 zs0 X_v1 n1 n1 zs1 rs0 rb1 _ v0_5.has (by omega) (own_nilOk v0_5) v1_5.has (by omega) (own_nilOk v1_5) (hT0.below B5) HM.out).mono ?_
  rintro e w6 ⟨R_im0, m_im0, c_im0, rfl, im0_6, l_im0, b6⟩
  have s6 := b6.size
  have B6 := B5.trans (b6.mono (by omega))
  have a0_6 := a0_5.below b6
  have a1_6 := a1_5.below b6
  have sp0_6 := sp0_5.below b6
  have v0_6 := v0_5.below b6
  have v1_6 := v1_5.below b6
  clear b6 B5 a0_5 a1_5 sp0_5 v0_5 v1_5
  have im0_b := im0_6
  go_wp2_with fail
  refine (eqIntS_same _ _ m_im0 m_sp0 _ _ _ _ im0_6.has sp0_6 (by omega)).mono ?_
  rintro e w7 ⟨rfl, b7⟩
  have s7 := b7.size
  have B7 := B6.trans (b7.mono (by omega))
  have a0_7 := a0_6.below b7
  have a1_7 := a1_6.below b7
  have sp0_7 := sp0_6.below b7
  have v0_7 := v0_6.below b7
  have v1_7 := v1_6.below b7
  have im0_7 := im0_6.below b7
  clear b7 B6 a0_6 a1_6 sp0_6 v0_6 v1_6 im0_6
  go_wp2_with fail
  refine (toIntS_any A0 n0 c0 zs0 _ a0_7 (by omega)).mono ?_
  rintro e w8 ⟨X_y0, rfl, y0_8, b8⟩
  have s8 := b8.size
  have B8 := B7.trans (b8.mono (by omega))
  have a0_8 := a0_7.below b8
  have a1_8 := a1_7.below b8
  have sp0_8 := sp0_7.below b8
  have v0_8 := v0_7.below b8
  have v1_8 := v1_7.below b8
  have im0_8 := im0_7.below b8
  clear b8 B7 a0_7 a1_7 sp0_7 v0_7 v1_7 im0_7
  have y0_b := y0_8
  go_wp2_with fail
  refine (eqIntS_same _ _ n0 n0 _ _ _ _ v0_8.has y0_8.has (by omega)).mono ?_
  rintro e w9 ⟨rfl, b9⟩
  have s9 := b9.size
  have B9 := B8.trans (b9.mono (by omega))
  have a0_9 := a0_8.below b9
  have a1_9 := a1_8.below b9
  have sp0_9 := sp0_8.below b9
  have v0_9 := v0_8.below b9
  have v1_9 := v1_8.below b9
  have im0_9 := im0_8.below b9
  have y0_9 := y0_8.below b9
  clear b9 B8 a0_8 a1_8 sp0_8 v0_8 v1_8 im0_8 y0_8
  go_wp2_with fail
  refine (toIntS_any A1 n1 c1 zs1 _ a1_9 (by omega)).mono ?_
  rintro e w10 ⟨X_y1, rfl, y1_10, b10⟩
  have s10 := b10.size
  have B10 := B9.trans (b10.mono (by omega))
  have a0_10 := a0_9.below b10
  have a1_10 := a1_9.below b10
  have sp0_10 := sp0_9.below b10
  have v0_10 := v0_9.below b10
  have v1_10 := v1_9.below b10
  have im0_10 := im0_9.below b10
  clear b10 B9 a0_9 a1_9 sp0_9 v0_9 v1_9 im0_9
  have y1_b := y1_10
  go_wp2_with fail
  refine (eqIntS_same _ _ n1 n1 _ _ _ _ v1_10.has y1_10.has (by omega)).mono ?_
  rintro e w11 ⟨rfl, b11⟩
  have s11 := b11.size
  have B11 := B10.trans (b11.mono (by omega))
  have a0_11 := a0_10.below b11
  have a1_11 := a1_10.below b11
  have sp0_11 := sp0_10.below b11
  have v0_11 := v0_10.below b11
  have v1_11 := v1_10.below b11
  have im0_11 := im0_10.below b11
  have y1_11 := y1_10.below b11
  clear b11 B10 a0_10 a1_10 sp0_10 v0_10 v1_10 im0_10 y1_10
  go_wp2_with fail
  refine (markIntS_any _ _ _ _ _ _ _ v0_11 (by omega) (by omega) (by omega)).mono ?_
  rintro e w12 ⟨rfl, v0_12, g12⟩
  have s12 := g12.size
  have B12 := belowMarked B11 g12 v0_b (by omega) (by omega)
  have a0_12 := a0_11.marked g12 old_a0 v0_b (by omega)
  have a1_12 := a1_11.marked g12 old_a1 v0_b (by omega)
  have sp0_12 := sp0_11.marked g12 old_sp0 v0_b (by omega)
  have v1_12 := v1_11.marked g12 v0_b (by omega)
  have im0_12 := im0_11.marked g12 v0_b (by omega)
  clear g12 B11 a0_11 a1_11 sp0_11 v0_11 v1_11 im0_11
  go_wp2_with fail
  refine (markIntS_any _ _ _ _ _ _ _ v1_12 (by omega) (by omega) (by omega)).mono ?_
  rintro e w13 ⟨rfl, v1_13, g13⟩
  have s13 := g13.size
  have B13 := belowMarked B12 g13 v1_b (by omega) (by omega)
  have a0_13 := a0_12.marked g13 old_a0 v1_b (by omega)
  have a1_13 := a1_12.marked g13 old_a1 v1_b (by omega)
  have sp0_13 := sp0_12.marked g13 old_sp0 v1_b (by omega)
  have im0_13 := im0_12.marked g13 v1_b (by omega)
  clear g13 B12 a0_12 a1_12 sp0_12 v1_12 im0_12
  go_wp2_with fail
  refine (eqIntS_same _ _ m_im0 m_sp0 _ _ _ _ im0_13.has sp0_13 (by omega)).mono ?_
  rintro e w14 ⟨rfl, b14⟩
  have s14 := b14.size
  have B14 := B13.trans (b14.mono (by omega))
  have a0_14 := a0_13.below b14
  have a1_14 := a1_13.below b14
  have sp0_14 := sp0_13.below b14
  have im0_14 := im0_13.below b14
  clear b14 B13 a0_13 a1_13 sp0_13 im0_13
  go_wp2_with fail
  refine (markIntS_any _ _ _ _ _ _ _ im0_14 (by omega) (by omega) (by omega)).mono ?_
  rintro e w15 ⟨rfl, im0_15, g15⟩
  have s15 := g15.size
  have B15 := belowMarked B14 g15 im0_b (by omega) (by omega)
  have a0_15 := a0_14.marked g15 old_a0 im0_b (by omega)
  have a1_15 := a1_14.marked g15 old_a1 im0_b (by omega)
  have sp0_15 := sp0_14.marked g15 old_sp0 im0_b (by omega)
  clear g15 B14 a0_14 a1_14 sp0_14 im0_14
  go_wp2_with fail
  refine (heldIntS_any _ _ _ _ _ im0_15.has (by omega) (by omega) (by omega)).mono ?_
  rintro e w16 ⟨rfl, b16⟩
  have s16 := b16.size
  have B16 := B15.trans (b16.mono (by omega))
  have a0_16 := a0_15.below b16
  have a1_16 := a1_15.below b16
  have sp0_16 := sp0_15.below b16
  have im0_16 := im0_15.below b16
  clear b16 B15 a0_15 a1_15 sp0_15 im0_15
  go_wp2_with fail
  refine (toIntS_any A0 n0 c0 zs0 _ a0_16 (by omega)).mono ?_
  rintro e w17 ⟨X_t0, rfl, t0_17, b17⟩
  have s17 := b17.size
  have B17 := B16.trans (b17.mono (by omega))
  have a0_17 := a0_16.below b17
  have a1_17 := a1_16.below b17
  have sp0_17 := sp0_16.below b17
  have im0_17 := im0_16.below b17
  clear b17 B16 a0_16 a1_16 sp0_16 im0_16
  have t0_b := t0_17
  go_wp2_with fail
  refine (toIntS_any A1 n1 c1 zs1 _ a1_17 (by omega)).mono ?_
  rintro e w18 ⟨X_t1, rfl, t1_18, b18⟩
  have s18 := b18.size
  have B18 := B17.trans (b18.mono (by omega))
  have a0_18 := a0_17.below b18
  have a1_18 := a1_17.below b18
  have sp0_18 := sp0_17.below b18
  have im0_18 := im0_17.below b18
  have t0_18 := t0_17.below b18
  clear b18 B17 a0_17 a1_17 sp0_17 im0_17 t0_17
  have t1_b := t1_18
  go_wp2_with fail
  refine (impl_StreamXor X_t0 n0 n0 zs0 X_t1 n1 n1 zs1 rs0 rb1 _ t0_18.has (by omega) (own_nilOk t0_18) t1_18.has (by omega) (own_nilOk t1_18) (hT0.below B18) HM.out).mono ?_
  rintro e w19 ⟨R_ag0, m_ag0, c_ag0, rfl, ag0_19, l_ag0, b19⟩
  have s19 := b19.size
  have B19 := B18.trans (b19.mono (by omega))
  have a0_19 := a0_18.below b19
  have a1_19 := a1_18.below b19
  have sp0_19 := sp0_18.below b19
  have im0_19 := im0_18.below b19
  have t0_19 := t0_18.below b19
  have t1_19 := t1_18.below b19
  clear b19 B18 a0_18 a1_18 sp0_18 im0_18 t0_18 t1_18
  have ag0_b := ag0_19
  go_wp2_with fail
  refine (eqIntS_same _ _ m_ag0 m_sp0 _ _ _ _ ag0_19.has sp0_19 (by omega)).mono ?_
  rintro e w20 ⟨rfl, b20⟩
  have s20 := b20.size
  have B20 := B19.trans (b20.mono (by omega))
  have a0_20 := a0_19.below b20
  have a1_20 := a1_19.below b20
  have sp0_20 := sp0_19.below b20
  have im0_20 := im0_19.below b20
  have ag0_20 := ag0_19.below b20
  clear b20 B19 a0_19 a1_19 sp0_19 im0_19 ag0_19
  go_wp2_with fail
  refine (heldIntS_any _ _ _ _ _ im0_20.has (by omega) (by omega) (by omega)).mono ?_
  rintro e w21 ⟨rfl, b21⟩
  have s21 := b21.size
  have B21 := B20.trans (b21.mono (by omega))
  have a0_21 := a0_20.below b21
  have a1_21 := a1_20.below b21
  have sp0_21 := sp0_20.below b21
  have im0_21 := im0_20.below b21
  have ag0_21 := ag0_20.below b21
  clear b21 B20 a0_20 a1_20 sp0_20 im0_20 ag0_20
  go_wp2_with fail
  go_ret
  exact ⟨rfl, B21⟩

set_option maxRecDepth 100000 in
theorem door_met (os : Os) (args : Array Value) : laidMetH Tryd.prog Rows.fnExactStreamXorRow.laid ((World.doorLaid Tryd.prog 800 os).forCall (fun _ _ => 0) ⟨#[], args, []⟩).memory :=
  laidMetH_of_parts3 (fuel := 8) (laidMet_of_run' 8 (by kernel_rfl) (by kernel_rfl)) (by kernel_rfl) (by kernel_rfl)

theorem lifted (os : Os) (started : os.Started) (H : Type) (enc : TypeId × Value → H) :
    ReturnsInHanded {} Tryd.checked os 8 .any (fun w args => (Rows.fnExactStreamXorSpec.pre enc Tryd.prog Tryd.f8 [] false w args ∧ laidMetH Tryd.prog Rows.fnExactStreamXorRow.laid w) ∧ sizedMet enc Tryd.prog Tryd.f8 (OpenSpec.ofChange Rows.fnExactStreamXorSpec) false w args) (Rows.fnExactStreamXorSpec.post enc Tryd.prog Tryd.f8 false true false false) := by
  refine returnsInHanded_of_change_and (C := Tryd.checked) (X := fun w _ => laidMetH Tryd.prog Rows.fnExactStreamXorRow.laid w) (fun _ _ _ hh h => h.of_heap hh) own started (by kernel_rfl) Tryd.func8
    (ChangeSpec.witness_shaped (enc := enc) (C := Tryd.checked) (os := os) (X := fun w _ => laidMetH Tryd.prog Rows.fnExactStreamXorRow.laid w) false (World.doorLaid Tryd.prog 800 os) #[.slice none 0 0, .slice none 0 0] 8 rfl (World.shaped_of_RefB (by kernel_rfl) (by kernel_rfl)) (by kernel_rfl) (by kernel_rfl) (by kernel_rfl) (door_met os _)) ?_
  intro W base args ds gs before hval0 hW _ _ hL _
  have hval : ∀ (j : Nat) t v, Tryd.f8.params[j]? = some t → args[j]? = some v → Value.okWide Tryd.prog W .any base t v := hval0
  have hW' := hW
  obtain ⟨p, q, hA0, hV, rfl, hfz, hnd⟩ := hW
  have hA : DataW.TrodAll enc Tryd.prog W 0 (fun _ => true) true Tryd.f8.params.toList args.toList ds p := hA0
  rw [Tryd.params8] at hA hval
  obtain ⟨v0, vs0, d0, ds0, p0, q0, hargs, rfl, rfl, h0, r0⟩ := trodAll_cons hA
  obtain ⟨v1, vs1, d1, ds1, p1, q1, hargs1, rfl, rfl, h1, r1⟩ := trodAll_cons r0
  obtain ⟨rfl, rfl, rfl⟩ := trodAll_nil r1
  obtain rfl : args = #[v0, v1] := by cases args; simp_all
  have hT0 : Starts W := starts_of_laid (by kernel_rfl) hL
  obtain ⟨g0, rfl, hagain⟩ := varAgain hT0 (by kernel_rfl) hV (fun x hx => by simpa using hW'.lt x (by simp [hx]))
  clear hA0 hval0
  have hlt0 : ∀ x ∈ p0, x.block < W.heap.size := fun x hx => by simpa using hW'.lt x (by simp [hx])
  obtain ⟨a0, n0, c0, zs0, rfl, g0, wf0⟩ := openInts (hval 0 _ v0 rfl rfl) h0
  have hlt1 : ∀ x ∈ p1, x.block < W.heap.size := fun x hx => by simpa using hW'.lt x (by simp [hx])
  obtain ⟨a1, n1, c1, zs1, rfl, g1, wf1⟩ := openInts (hval 1 _ v1 rfl rfl) h1
  refine (walk a0 n0 c0 zs0 a1 n1 c1 zs1 W g0 g1 hT0).mono fun e W' ⟨he, hb⟩ => ?_
  subst he
  exact ⟨_, rfl, lawPost (pa := p0 ++ (p1)) (pv := q) hW' (fun _ _ _ => trodAll_mk1 (shut_bool Tryd.underlying4 _)) (trodAll_mk2 (Below.trod laidOut (by kernel_rfl) (of_decide_eq_true (by kernel_rfl)) h0 hb hlt0) (Below.trod laidOut (by kernel_rfl) (of_decide_eq_true (by kernel_rfl)) h1 hb hlt1)) (hagain W' hb) (by simp) hb⟩

theorem row_holds : Rows.FnExactStreamXorSaid :=
  OpenClaim.holds_of_wide 8 Tryd.f8 rfl rfl rfl rfl rfl rfl rfl ⟨rfl, rfl, rfl, rfl, rfl⟩ rfl rfl rfl rfl rfl (by kernel_rfl) Tryd.func8 (by kernel_rfl)
    (of_decide_eq_true (by kernel_rfl)) (by unfold Func.isWrapper; first | (rw [if_pos (by decide +kernel)]; kernel_rfl) | (rw [if_neg (by decide +kernel)]; exact ⟨rfl, rfl⟩))
    (fun os started H enc _ => lifted os started H enc)

theorem proved : Rows.FnExactStreamXorCardSaid :=
  Claim7.holds_tied_plain_at .later [] [.called] true _ false row_holds (fun _ h => by cases h) (by kernel_rfl) (fun _ h => by cases h) fnExactStreamXor_row_tie rfl ⟨rfl, rfl⟩ (by kernel_rfl) rfl
    (fun f fn hf hfn => by
      obtain rfl : f = 8 := (Option.some.inj ((show Tryd.prog.funcNamed Rows.fnExactStreamXorRow.func = some 8 by kernel_rfl).symm.trans hf)).symm
      obtain rfl : fn = Tryd.f8 := (Option.some.inj (Tryd.func8.symm.trans hfn)).symm
      exact ⟨by kernel_rfl, noStandIns (by kernel_rfl)⟩)
    (by kernel_rfl)

end Go.Proofs.YtadkbfjhghipaaaDoor.lawStreamXor
