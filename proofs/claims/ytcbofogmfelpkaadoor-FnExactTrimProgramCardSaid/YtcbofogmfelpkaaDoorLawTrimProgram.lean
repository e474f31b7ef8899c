/- The exact law of TrimProgram: for every list of lines that the row allows, the program and the model answer the same, the argument is left as it was, and the answer owns its memory. The forms of the lines and the words of the operations are as start-up lays them. -/
import Derived.Test.YtcbofogmfelpkaaDoorHelp
import Derived.Test.YtcbofogmfelpkaaDoorClose
import Derived.Test.YtcbofogmfelpkaaDoorLn8
import Derived.Test.YtcbofogmfelpkaaDoorLnO
import Derived.Test.YtcbofogmfelpkaaDoorLnTA
import Derived.Test.YtcbofogmfelpkaaDoorLn7
import Derived.Test.YtcbofogmfelpkaaDoorLaid4
import Derived.Test.YtcbofogmfelpkaaDoorCards
import Derived.Test.YtcbofogmfelpkaaDoorTie
import Derived.Lay
namespace Go.Proofs.YtcbofogmfelpkaaDoor.lawTrimProgram
open Go.ChangeShapes Go.WideShapes Go.ChangeAt Go.RowKit
set_option maxRecDepth 100000

set_option maxRecDepth 100000 in
set_option maxHeartbeats 4000000 in
theorem walk (A0 : Option Addr) (n0 c0 : Nat) (ls0 : List Ln) (W : World) (a0_0 : HasL W A0 n0 ls0) (hx0 : n0 ≤ maxLen) (wz0 : ∀ j, j < n0 → BigL (lnAt ls0 j)) (hF0 : Forms W) (hW0 : OpWords W) :
    Calls Tryd.prog 10 #[.slice A0 n0 c0] W fun e W' => e = .returned (.bool true) ∧ Below W.heap.size W W' := by
  have HA0 := Lib.hid a0_0
  have HWz0 := Lib.hid wz0
  clear a0_0 wz0
  have HT0 := Lib.hid hF0
  clear hF0
  have HT1 := Lib.hid hW0
  clear hW0
  have B0 : Below W.heap.size W W := Below.refl _ _
  have s0 : W.heap.size ≤ W.heap.size := Nat.le_refl _
  obtain ⟨r, hm⟩ : ∃ r, m_TrimProgram ls0 = r := ⟨_, rfl⟩
  obtain ⟨rp0, rb1⟩ := r
  have HM := Lib.hid hm
  clear hm
  go_enter Tryd.func10, Tryd.ntmps10
  go_wp2_with fail
  refine (szLineS_any A0 n0 c0 ls0 1048576 W (HA0.out.below B0) (by omega) (by omega) hx0 HWz0.out).mono ?_
  rintro e w1 ⟨l0, rfl, la0, lb0, lf0, b1⟩
  have s1 := b1.size
  have B1 := B0.trans (b1.mono (by omega))
  clear b1 B0 
  by_cases hneg0 : l0 < 0
  · go_wp2_with fail
    go_ret
    exact ⟨rfl, B1⟩
  have HF0 : Hid (n0 + partsTo ls0 n0 ≤ 1048576 ∧ ∀ j, j < n0 → FitL (lnAt ls0 j)) := lf0.out (by omega)
  have hn0 : n0 ≤ 1048576 := by have := HF0.out.1; omega
  clear lf0 la0 lb0
  go_wp2_with fail
  refine (toLineS_any A0 n0 c0 ls0 _ (HA0.out.below B1) hn0 HF0.out.2).mono ?_
  rintro e w2 ⟨X_sp_u0, F_sp_u0, rfl, sp_u0_2, b2⟩
  have s2 := b2.size
  have B2 := B1.trans (b2.mono (by omega))
  clear b2 B1 
  have ob_sp_u0 := sp_u0_2
  go_wp2_with fail
  refine (spec_TrimProgram X_sp_u0 n0 n0 ls0 rp0 rb1 w2 sp_u0_2.has hn0 (Nat.le_refl _) HF0.out.2 HM.out).mono ?_
  rintro e w3 ⟨R_sp0, m_sp0, c_sp0, F_sp0, rfl, sp0_3, l_sp0, p_sp0, b3⟩
  have s3 := b3.size
  have B3 := B2.trans (b3.mono (by omega))
  have sp_u0_3 := sp_u0_2.below b3
  clear b3 B2 sp_u0_2
  have ob_sp0 := sp0_3
  clear sp_u0_3
  go_wp2_with fail
  refine (toLineS_any A0 n0 c0 ls0 _ (HA0.out.below B3) hn0 HF0.out.2).mono ?_
  rintro e w4 ⟨X_v0, F_v0, rfl, v0_4, b4⟩
  have s4 := b4.size
  have B4 := B3.trans (b4.mono (by omega))
  have sp0_4 := sp0_3.below b4
  clear b4 B3 sp0_3
  have ob_v0 := v0_4
  go_wp2_with fail
  refine (impl_TrimProgram X_v0 n0 n0 ls0 rp0 rb1 w4 v0_4.has hn0 (Nat.le_refl _) HF0.out.2 (HT0.out.below B4) (HT1.out.below B4) HM.out).mono ?_
  rintro e w5 ⟨R_im0, m_im0, c_im0, F_im0, rfl, im0_5, l_im0, p_im0, b5⟩
  have s5 := b5.size
  have B5 := B4.trans (b5.mono (by omega))
  have sp0_5 := sp0_4.below b5
  have v0_5 := v0_4.below b5
  clear b5 B4 sp0_4 v0_4
  have ob_im0 := im0_5
  go_wp2_with fail
  refine (eqLineS_same _ _ m_im0 m_sp0 _ _ _ _ im0_5.has sp0_5.has (by omega) (fun j _ => Nat.le_trans (p_im0 j) (by omega))).mono ?_
  rintro e w6 ⟨rfl, b6⟩
  have s6 := b6.size
  have B6 := B5.trans (b6.mono (by omega))
  have sp0_6 := sp0_5.below b6
  have v0_6 := v0_5.below b6
  have im0_6 := im0_5.below b6
  clear b6 B5 sp0_5 v0_5 im0_5
  go_wp2_with fail
  refine (toLineS_any A0 n0 c0 ls0 _ (HA0.out.below B6) hn0 HF0.out.2).mono ?_
  rintro e w7 ⟨X_y0, F_y0, rfl, y0_7, b7⟩
  have s7 := b7.size
  have B7 := B6.trans (b7.mono (by omega))
  have sp0_7 := sp0_6.below b7
  have v0_7 := v0_6.below b7
  have im0_7 := im0_6.below b7
  clear b7 B6 sp0_6 v0_6 im0_6
  have ob_y0 := y0_7
  go_wp2_with fail
  refine (eqLineS_same _ _ n0 n0 _ _ _ _ v0_7.has y0_7.has hn0 (fun j hj => (HF0.out.2 j hj).plen)).mono ?_
  rintro e w8 ⟨rfl, b8⟩
  have s8 := b8.size
  have B8 := B7.trans (b8.mono (by omega))
  have sp0_8 := sp0_7.below b8
  have v0_8 := v0_7.below b8
  have im0_8 := im0_7.below b8
  have y0_8 := y0_7.below b8
  clear b8 B7 sp0_7 v0_7 im0_7 y0_7
  clear y0_8
  have oe_v0 := v0_8.off 1
  have of_v0 : offN F_v0 1 n0 ≤ 16777216 := by have := HF0.out.1; omega
  have og_v0 : offN F_v0 1 n0 ≤ 8388608 := by have := HF0.out.1; omega
  clear oe_v0
  go_wp2_with fail
  refine (markLineS_any _ _ _ _ _ 1 _ _ _ v0_8 (by omega) (by omega) of_v0).mono ?_
  rintro e w9 ⟨rfl, v0_9, g9⟩
  have s9 := g9.size
  have B9 := belowSpan B8 g9 (by omega) (by omega)
  have sp0_9 := sp0_8.spanHi g9 (by omega)
  have im0_9 := im0_8.span g9 (by omega)
  clear g9 B8 sp0_8 v0_8 im0_8
  clear v0_9
  go_wp2_with fail
  refine (eqLineS_same _ _ m_im0 m_sp0 _ _ _ _ im0_9.has sp0_9.has (by omega) (fun j _ => Nat.le_trans (p_im0 j) (by omega))).mono ?_
  rintro e w10 ⟨rfl, b10⟩
  have s10 := b10.size
  have B10 := B9.trans (b10.mono (by omega))
  have sp0_10 := sp0_9.below b10
  have im0_10 := im0_9.below b10
  clear b10 B9 sp0_9 im0_9
  have oe_im0 := im0_10.off 1
  have of_im0 : offN F_im0 1 m_im0 ≤ 16777216 := by have := partsTo_le p_im0 m_im0; omega
  clear oe_im0
  go_wp2_with fail
  refine (markLineS_any _ _ _ _ _ 1 _ _ _ im0_10 (by omega) (by omega) of_im0).mono ?_
  rintro e w11 ⟨rfl, im0_11, g11⟩
  have s11 := g11.size
  have B11 := belowSpan B10 g11 (by omega) (by omega)
  have sp0_11 := sp0_10.spanHi g11 (by omega)
  clear g11 B10 sp0_10 im0_10
  go_wp2_with fail
  refine (heldLineS_any _ _ _ 1 F_im0 _ im0_11.has (by omega) (by omega) of_im0).mono ?_
  rintro e w12 ⟨rfl, b12⟩
  have s12 := b12.size
  have B12 := B11.trans (b12.mono (by omega))
  have sp0_12 := sp0_11.below b12
  have im0_12 := im0_11.below b12
  clear b12 B11 sp0_11 im0_11
  go_wp2_with fail
  refine (toLineS_any A0 n0 c0 ls0 _ (HA0.out.below B12) hn0 HF0.out.2).mono ?_
  rintro e w13 ⟨X_ag_u0, F_ag_u0, rfl, ag_u0_13, b13⟩
  have s13 := b13.size
  have B13 := B12.trans (b13.mono (by omega))
  have sp0_13 := sp0_12.below b13
  have im0_13 := im0_12.below b13
  clear b13 B12 sp0_12 im0_12
  have ob_ag_u0 := ag_u0_13
  go_wp2_with fail
  refine (impl_TrimProgram X_ag_u0 n0 n0 ls0 rp0 rb1 w13 ag_u0_13.has hn0 (Nat.le_refl _) HF0.out.2 (HT0.out.below B13) (HT1.out.below B13) HM.out).mono ?_
  rintro e w14 ⟨R_ag0, m_ag0, c_ag0, F_ag0, rfl, ag0_14, l_ag0, p_ag0, b14⟩
  have s14 := b14.size
  have B14 := B13.trans (b14.mono (by omega))
  have sp0_14 := sp0_13.below b14
  have im0_14 := im0_13.below b14
  have ag_u0_14 := ag_u0_13.below b14
  clear b14 B13 sp0_13 im0_13 ag_u0_13
  have ob_ag0 := ag0_14
  clear ag_u0_14
  go_wp2_with fail
  refine (eqLineS_same _ _ m_ag0 m_sp0 _ _ _ _ ag0_14.has sp0_14.has (by omega) (fun j _ => Nat.le_trans (p_ag0 j) (by omega))).mono ?_
  rintro e w15 ⟨rfl, b15⟩
  have s15 := b15.size
  have B15 := B14.trans (b15.mono (by omega))
  have sp0_15 := sp0_14.below b15
  have im0_15 := im0_14.below b15
  have ag0_15 := ag0_14.below b15
  clear b15 B14 sp0_14 im0_14 ag0_14
  go_wp2_with fail
  refine (heldLineS_any _ _ _ 1 F_im0 _ im0_15.has (by omega) (by omega) of_im0).mono ?_
  rintro e w16 ⟨rfl, b16⟩
  have s16 := b16.size
  have B16 := B15.trans (b16.mono (by omega))
  have sp0_16 := sp0_15.below b16
  have im0_16 := im0_15.below b16
  have ag0_16 := ag0_15.below b16
  clear b16 B15 sp0_15 im0_15 ag0_15
  go_wp2_with fail
  go_ret
  exact ⟨rfl, B16⟩

theorem lifted (os : Os) (started : os.Started) (H : Type) (enc : TypeId × Value → H) :
    ReturnsInHanded {} Tryd.checked os 10 .any (fun w args => (Rows.fnExactTrimProgramSpec.pre enc Tryd.prog Tryd.f10 [] false w args ∧ laidMetH Tryd.prog Rows.fnExactTrimProgramRow.laid w) ∧ sizedMet enc Tryd.prog Tryd.f10 (OpenSpec.ofChange Rows.fnExactTrimProgramSpec) false w args) (Rows.fnExactTrimProgramSpec.post enc Tryd.prog Tryd.f10 false true false false) := by
  refine Go.handedShaped (C := Tryd.checked) (X := fun w _ => laidMetH Tryd.prog Rows.fnExactTrimProgramRow.laid w) (fun _ _ _ hh h => h.of_heap hh) own started (by kernel_rfl) Tryd.func10
    (ChangeSpec.witness_shaped (enc := enc) (C := Tryd.checked) (os := os) (X := fun w _ => laidMetH Tryd.prog Rows.fnExactTrimProgramRow.laid w) false (World.laidAll Tryd.prog os Rows.fnExactTrimProgramRow.laid) #[.slice none 0 0] 8 (World.laidAll_os _ _ _) (World.shaped_of_ZipB (by kernel_rfl) (by kernel_rfl)) (by kernel_rfl) (by kernel_rfl) (by kernel_rfl) (by rw [MakeChecks.laidMetH_plain _ _ _ (by kernel_rfl)]; exact laidMet_laidAll _ (by kernel_rfl) (by kernel_rfl))) ?_
  intro W base args ds gs before hval0 hW hL hsh
  have hval : ∀ (j : Nat) t v, Tryd.f10.params[j]? = some t → args[j]? = some v → Value.okWide Tryd.prog W .any base t v := hval0
  have hW' := hW
  obtain ⟨p, q, hA0, hV, rfl, hfz, hnd⟩ := hW
  have hA : DataW.TrodAll enc Tryd.prog W 0 (fun _ => true) true Tryd.f10.params.toList args.toList ds p := hA0
  rw [Tryd.params10] at hA hval
  obtain ⟨v0, vs0, d0, ds0, p0, q0, hargs, rfl, rfl, h0, r0⟩ := trodAll_cons hA
  obtain ⟨rfl, rfl, rfl⟩ := trodAll_nil r0
  obtain rfl : args = #[v0] := by cases args; simp_all
  have hT0 := laidLines (by kernel_rfl) (by kernel_rfl) hL
  have hVlt : ∀ x ∈ q, x.block < W.heap.size := fun x hx => by simpa using hW'.lt x (by simp [hx])
  have hagain : ∀ W', Below W.heap.size W W' → DataW.TrodVars enc Tryd.prog W' (fun b => decide (b < W.heap.size)) Rows.fnExactTrimProgramSpec.vars gs q := fun W' hb => varsAgain laidOut hb (by kernel_rfl) hV hVlt
  obtain ⟨g0v, g1v, rfl⟩ := vars2 hV
  clear hA0 hval0
  have hlt0 : ∀ x ∈ p0, x.block < W.heap.size := fun x hx => by simpa using hW'.lt x (by simp [hx])
  obtain ⟨a0, n0, c0, ls0, rfl, g0, hm0, _, _, wf0⟩ := openLs (hval 0 _ v0 rfl rfl) h0
  refine (walk a0 n0 c0 ls0 W g0 hm0 wf0 hT0.1 hT0.2).mono fun e W' ⟨he, hb⟩ => ?_
  subst he
  exact ⟨_, rfl, lawPost (pa := p0) (pv := q) hW' (fun _ _ _ => trodAll_mk1 (shut_bool Tryd.underlying4 _)) (trodAll_mk1 (Below.trod laidOut (by kernel_rfl) (of_decide_eq_true (by kernel_rfl)) h0 hb hlt0)) (hagain W' hb) (by simp) hb⟩

theorem row_holds : Rows.FnExactTrimProgramSaid :=
  OpenClaim.holds_of_wide 10 Tryd.f10 rfl rfl rfl rfl rfl rfl rfl ⟨rfl, rfl, rfl, rfl, rfl⟩ rfl rfl rfl rfl rfl (by kernel_rfl) Tryd.func10 (by kernel_rfl)
    (of_decide_eq_true (by kernel_rfl)) (by unfold Func.isWrapper; first | (rw [if_pos (by decide +kernel)]; kernel_rfl) | (rw [if_neg (by decide +kernel)]; exact ⟨rfl, rfl⟩))
    (fun os started H enc _ => lifted os started H enc)

theorem proved : Rows.FnExactTrimProgramCardSaid :=
  Claim7.holds_tied_plain_at .later [] [.data, .data, .data, .pinned] true _ false row_holds (fun _ h => by cases h) (by kernel_rfl) (fun _ h => by cases h) fnExactTrimProgram_row_tie rfl ⟨rfl, rfl⟩ (by kernel_rfl) rfl
    (fun f fn hf hfn => by
      obtain rfl : f = 10 := (Option.some.inj ((show Tryd.prog.funcNamed Rows.fnExactTrimProgramRow.func = some 10 by kernel_rfl).symm.trans hf)).symm
      obtain rfl : fn = Tryd.f10 := (Option.some.inj (Tryd.func10.symm.trans hfn)).symm
      exact ⟨by kernel_rfl, noStandIn (by kernel_rfl)⟩)
    (by kernel_rfl)

end Go.Proofs.YtcbofogmfelpkaaDoor.lawTrimProgram
