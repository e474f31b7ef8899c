/- The exact law of OrderFrom: for every input the program's function and the model's answer alike, and the argument reads as it did. The table of first numbers is as start-up lays it. -/
import Derived.Test.YtadkbfjhghipaaaDoorHelp
import Derived.Test.YtadkbfjhghipaaaDoorClose
import Derived.Test.YtadkbfjhghipaaaDoorLaid1
import Derived.Test.YtadkbfjhghipaaaDoorCards
import Derived.Test.YtadkbfjhghipaaaDoorTie
import Derived.Test.YtadkbfjhghipaaaDoorDg7
namespace Go.Proofs.YtadkbfjhghipaaaDoor.lawOrderFrom
open Go.ChangeShapes Go.WideShapes Go.ChangeAt Go.RowKit

set_option maxHeartbeats 1000000 in
theorem walk (A0 : Option Addr) (n0 c0 : Nat) (zs0 : List Int) (x1 : Int) (W : World) (a0_0 : Has W A0 n0 zs0) (hx1 : I64 x1) (hT0 : Starts W) :
    Calls Tryd.prog 7 #[.slice A0 n0 c0, .int .i64 x1] W fun e W' => e = .returned (.bool true) ∧ Below W.heap.size W W' := by
  by_cases hn0 : 1048576 < n0
  · go_enter Tryd.func7, Tryd.ntmps7
    go_wp2_with fail
    go_ret
    exact ⟨rfl, Below.refl _ _⟩
  obtain ⟨r, hm⟩ : ∃ r, m_OrderFrom zs0 x1 = r := ⟨_, rfl⟩
  obtain ⟨rs0, rb1⟩ := r
  have HM := Lib.hid hm
  clear hm
  have B0 : Below W.heap.size W W := Below.refl _ _
  have s0 : W.heap.size ≤ W.heap.size := Nat.le_refl _
  have old_a0 := a0_0.old
  go_enter Tryd.func7, Tryd.ntmps7
  go_wp2_with fail
  refine (toIntS_any A0 n0 c0 zs0 _ a0_0 (by omega)).mono ?_
  rintro e w1 ⟨X_u0, rfl, u0_1, b1⟩
  have s1 := b1.size
  have B1 := B0.trans (b1.mono (by omega))
  have a0_1 := a0_0.below b1
  clear b1 B0 a0_0
  have u0_b := u0_1
  go_wp2_with fail
  refine (spec_OrderFrom X_u0 n0 n0 zs0 x1 rs0 rb1 _ u0_1.has (by omega) (own_nilOk u0_1) hx1 HM.out).mono ?_
  rintro e w2 ⟨R_sp0, m_sp0, c_sp0, rfl, sp0_2, l_sp0, b2⟩
  have s2 := b2.size
  have B2 := B1.trans (b2.mono (by omega))
  have a0_2 := a0_1.below b2
  have u0_2 := u0_1.below b2
  clear b2 B1 a0_1 u0_1
  have old_sp0 := sp0_2.old
  go_wp2_with fail
  refine (toIntS_any A0 n0 c0 zs0 _ a0_2 (by omega)).mono ?_
  rintro e w3 ⟨X_v0, rfl, v0_3, b3⟩
  have s3 := b3.size
  have B3 := B2.trans (b3.mono (by omega))
  have a0_3 := a0_2.below b3
  have sp0_3 := sp0_2.below b3
  clear b3 B2 a0_2 sp0_2
  have v0_b := v0_3
  go_wp2_with fail
  refine (impl_OrderFrom X_v0 n0 n0 zs0 x1 rs0 rb1 _ v0_3.has (by omega) (own_nilOk v0_3) hx1 (hT0.below B3) HM.out).mono ?_
  rintro e w4 ⟨R_im0, m_im0, c_im0, rfl, im0_4, l_im0, b4⟩
  have s4 := b4.size
  have B4 := B3.trans (b4.mono (by omega))
  have a0_4 := a0_3.below b4
  have sp0_4 := sp0_3.below b4
  have v0_4 := v0_3.below b4
  clear b4 B3 a0_3 sp0_3 v0_3
  have im0_b := im0_4
  go_wp2_with fail
  refine (eqIntS_same _ _ m_im0 m_sp0 _ _ _ _ im0_4.has sp0_4 (by omega)).mono ?_
  rintro e w5 ⟨rfl, b5⟩
  have s5 := b5.size
  have B5 := B4.trans (b5.mono (by omega))
  have a0_5 := a0_4.below b5
  have sp0_5 := sp0_4.below b5
  have v0_5 := v0_4.below b5
  have im0_5 := im0_4.below b5
  clear b5 B4 a0_4 sp0_4 v0_4 im0_4
  go_wp2_with fail
  refine (toIntS_any A0 n0 c0 zs0 _ a0_5 (by omega)).mono ?_
  rintro e w6 ⟨X_y0, rfl, y0_6, b6⟩
  have s6 := b6.size
  have B6 := B5.trans (b6.mono (by omega))
  have a0_6 := a0_5.below b6
  have sp0_6 := sp0_5.below b6
  have v0_6 := v0_5.below b6
  have im0_6 := im0_5.below b6
  clear b6 B5 a0_5 sp0_5 v0_5 im0_5
  have y0_b := y0_6
  go_wp2_with fail
  refine (eqIntS_same _ _ n0 n0 _ _ _ _ v0_6.has y0_6.has (by omega)).mono ?_
  rintro e w7 ⟨rfl, b7⟩
  have s7 := b7.size
  have B7 := B6.trans (b7.mono (by omega))
  have a0_7 := a0_6.below b7
  have sp0_7 := sp0_6.below b7
  have v0_7 := v0_6.below b7
  have im0_7 := im0_6.below b7
  have y0_7 := y0_6.below b7
  clear b7 B6 a0_6 sp0_6 v0_6 im0_6 y0_6
  go_wp2_with fail
  refine (markIntS_any _ _ _ _ _ _ _ v0_7 (by omega) (by omega) (by omega)).mono ?_
  rintro e w8 ⟨rfl, v0_8, g8⟩
  have s8 := g8.size
  have B8 := belowMarked B7 g8 v0_b (by omega) (by omega)
  have a0_8 := a0_7.marked g8 old_a0 v0_b (by omega)
  have sp0_8 := sp0_7.marked g8 old_sp0 v0_b (by omega)
  have im0_8 := im0_7.marked g8 v0_b (by omega)
  clear g8 B7 a0_7 sp0_7 v0_7 im0_7
  go_wp2_with fail
  refine (eqIntS_same _ _ m_im0 m_sp0 _ _ _ _ im0_8.has sp0_8 (by omega)).mono ?_
  rintro e w9 ⟨rfl, b9⟩
  have s9 := b9.size
  have B9 := B8.trans (b9.mono (by omega))
  have a0_9 := a0_8.below b9
  have sp0_9 := sp0_8.below b9
  have im0_9 := im0_8.below b9
  clear b9 B8 a0_8 sp0_8 im0_8
  go_wp2_with fail
  refine (markIntS_any _ _ _ _ _ _ _ im0_9 (by omega) (by omega) (by omega)).mono ?_
  rintro e w10 ⟨rfl, im0_10, g10⟩
  have s10 := g10.size
  have B10 := belowMarked B9 g10 im0_b (by omega) (by omega)
  have a0_10 := a0_9.marked g10 old_a0 im0_b (by omega)
  have sp0_10 := sp0_9.marked g10 old_sp0 im0_b (by omega)
  clear g10 B9 a0_9 sp0_9 im0_9
  go_wp2_with fail
  refine (heldIntS_any _ _ _ _ _ im0_10.has (by omega) (by omega) (by omega)).mono ?_
  rintro e w11 ⟨rfl, b11⟩
  have s11 := b11.size
  have B11 := B10.trans (b11.mono (by omega))
  have a0_11 := a0_10.below b11
  have sp0_11 := sp0_10.below b11
  have im0_11 := im0_10.below b11
  clear b11 B10 a0_10 sp0_10 im0_10
  go_wp2_with fail
  refine (toIntS_any A0 n0 c0 zs0 _ a0_11 (by omega)).mono ?_
  rintro e w12 ⟨X_t0, rfl, t0_12, b12⟩
  have s12 := b12.size
  have B12 := B11.trans (b12.mono (by omega))
  have a0_12 := a0_11.below b12
  have sp0_12 := sp0_11.below b12
  have im0_12 := im0_11.below b12
  clear b12 B11 a0_11 sp0_11 im0_11
  have t0_b := t0_12
  go_wp2_with fail
  refine (impl_OrderFrom X_t0 n0 n0 zs0 x1 rs0 rb1 _ t0_12.has (by omega) (own_nilOk t0_12) hx1 (hT0.below B12) HM.out).mono ?_
  rintro e w13 ⟨R_ag0, m_ag0, c_ag0, rfl, ag0_13, l_ag0, b13⟩
  have s13 := b13.size
  have B13 := B12.trans (b13.mono (by omega))
  have a0_13 := a0_12.below b13
  have sp0_13 := sp0_12.below b13
  have im0_13 := im0_12.below b13
  have t0_13 := t0_12.below b13
  clear b13 B12 a0_12 sp0_12 im0_12 t0_12
  have ag0_b := ag0_13
  go_wp2_with fail
  refine (eqIntS_same _ _ m_ag0 m_sp0 _ _ _ _ ag0_13.has sp0_13 (by omega)).mono ?_
  rintro e w14 ⟨rfl, b14⟩
  have s14 := b14.size
  have B14 := B13.trans (b14.mono (by omega))
  have a0_14 := a0_13.below b14
  have sp0_14 := sp0_13.below b14
  have im0_14 := im0_13.below b14
  have ag0_14 := ag0_13.below b14
  clear b14 B13 a0_13 sp0_13 im0_13 ag0_13
  go_wp2_with fail
  refine (heldIntS_any _ _ _ _ _ im0_14.has (by omega) (by omega) (by omega)).mono ?_
  rintro e w15 ⟨rfl, b15⟩
  have s15 := b15.size
  have B15 := B14.trans (b15.mono (by omega))
  have a0_15 := a0_14.below b15
  have sp0_15 := sp0_14.below b15
  have im0_15 := im0_14.below b15
  have ag0_15 := ag0_14.below b15
  clear b15 B14 a0_14 sp0_14 im0_14 ag0_14
  go_wp2_with fail
  go_ret
  exact ⟨rfl, B15⟩

set_option maxRecDepth 100000 in
theorem door_met (os : Os) (args : Array Value) : laidMetH Tryd.prog Rows.fnExactOrderFromRow.laid ((World.doorLaid Tryd.prog 800 os).forCall (fun _ _ => 0) ⟨#[], args, []⟩).memory :=
  laidMetH_of_parts3 (fuel := 8) (laidMet_of_run' 8 (by kernel_rfl) (by kernel_rfl)) (by kernel_rfl) (by kernel_rfl)

theorem lifted (os : Os) (started : os.Started) (H : Type) (enc : TypeId × Value → H) :
    ReturnsInHanded {} Tryd.checked os 7 .any (fun w args => (Rows.fnExactOrderFromSpec.pre enc Tryd.prog Tryd.f7 [] false w args ∧ laidMetH Tryd.prog Rows.fnExactOrderFromRow.laid w) ∧ sizedMet enc Tryd.prog Tryd.f7 (OpenSpec.ofChange Rows.fnExactOrderFromSpec) false w args) (Rows.fnExactOrderFromSpec.post enc Tryd.prog Tryd.f7 false true false false) := by
  refine returnsInHanded_of_change_and (C := Tryd.checked) (X := fun w _ => laidMetH Tryd.prog Rows.fnExactOrderFromRow.laid w) (fun _ _ _ hh h => h.of_heap hh) own started (by kernel_rfl) Tryd.func7
    (ChangeSpec.witness_shaped (enc := enc) (C := Tryd.checked) (os := os) (X := fun w _ => laidMetH Tryd.prog Rows.fnExactOrderFromRow.laid w) false (World.doorLaid Tryd.prog 800 os) #[.slice none 0 0, .int .i64 0] 8 rfl (World.shaped_of_RefB (by kernel_rfl) (by kernel_rfl)) (by kernel_rfl) (by kernel_rfl) (by kernel_rfl) (door_met os _)) ?_
  intro W base args ds gs before hval0 hW _ _ hL _
  have hval : ∀ (j : Nat) t v, Tryd.f7.params[j]? = some t → args[j]? = some v → Value.okWide Tryd.prog W .any base t v := hval0
  have hW' := hW
  obtain ⟨p, q, hA0, hV, rfl, hfz, hnd⟩ := hW
  have hA : DataW.TrodAll enc Tryd.prog W 0 (fun _ => true) true Tryd.f7.params.toList args.toList ds p := hA0
  rw [Tryd.params7] at hA hval
  obtain ⟨v0, vs0, d0, ds0, p0, q0, hargs, rfl, rfl, h0, r0⟩ := trodAll_cons hA
  obtain ⟨v1, vs1, d1, ds1, p1, q1, hargs1, rfl, rfl, h1, r1⟩ := trodAll_cons r0
  obtain ⟨rfl, rfl, rfl⟩ := trodAll_nil r1
  obtain rfl : args = #[v0, v1] := by cases args; simp_all
  have hT0 : Starts W := starts_of_laid (by kernel_rfl) hL
  obtain ⟨g0, rfl, hagain⟩ := varAgain hT0 (by kernel_rfl) hV (fun x hx => by simpa using hW'.lt x (by simp [hx]))
  clear hA0 hval0
  have hlt0 : ∀ x ∈ p0, x.block < W.heap.size := fun x hx => by simpa using hW'.lt x (by simp [hx])
  obtain ⟨a0, n0, c0, zs0, rfl, g0, wf0⟩ := openInts (hval 0 _ v0 rfl rfl) h0
  obtain ⟨x1, rfl, rfl, rfl, wx1⟩ := open_int Tryd.underlying3 (hval 1 _ v1 rfl rfl) h1
  refine (walk a0 n0 c0 zs0 x1 W g0 (I64.of wx1) hT0).mono fun e W' ⟨he, hb⟩ => ?_
  subst he
  exact ⟨_, rfl, lawPost (pa := p0 ++ ([])) (pv := q) hW' (fun _ _ _ => trodAll_mk1 (shut_bool Tryd.underlying4 _)) (trodAll_mk2 (Below.trod laidOut (by kernel_rfl) (of_decide_eq_true (by kernel_rfl)) h0 hb hlt0) (shut_int Tryd.underlying3 wx1)) (hagain W' hb) (by simp) hb⟩

theorem row_holds : Rows.FnExactOrderFromSaid :=
  OpenClaim.holds_of_wide 7 Tryd.f7 rfl rfl rfl rfl rfl rfl rfl ⟨rfl, rfl, rfl, rfl, rfl⟩ rfl rfl rfl rfl rfl (by kernel_rfl) Tryd.func7 (by kernel_rfl)
    (of_decide_eq_true (by kernel_rfl)) (by unfold Func.isWrapper; first | (rw [if_pos (by decide +kernel)]; kernel_rfl) | (rw [if_neg (by decide +kernel)]; exact ⟨rfl, rfl⟩))
    (fun os started H enc _ => lifted os started H enc)

theorem proved : Rows.FnExactOrderFromCardSaid :=
  Claim7.holds_tied_plain_at .later [] [.called] true _ false row_holds (fun _ h => by cases h) (by kernel_rfl) (fun _ h => by cases h) fnExactOrderFrom_row_tie rfl ⟨rfl, rfl⟩ (by kernel_rfl) rfl
    (fun f fn hf hfn => by
      obtain rfl : f = 7 := (Option.some.inj ((show Tryd.prog.funcNamed Rows.fnExactOrderFromRow.func = some 7 by kernel_rfl).symm.trans hf)).symm
      obtain rfl : fn = Tryd.f7 := (Option.some.inj (Tryd.func7.symm.trans hfn)).symm
      exact ⟨by kernel_rfl, noStandIns (by kernel_rfl)⟩)
    (by kernel_rfl)

end Go.Proofs.YtadkbfjhghipaaaDoor.lawOrderFrom
