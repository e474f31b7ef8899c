/- The exact law of MergeNetwork: for every input that the row allows, the program and the model answer the same, the arguments are left as they were, and the answer owns its memory. -/
import Derived.Test.YteiibneaihdmbaaHelp
import Derived.Test.YteiibneaihdmbaaClose
import Derived.Test.YteiibneaihdmbaaSo1
import Derived.Test.YteiibneaihdmbaaSoG6
import Derived.Test.YteiibneaihdmbaaSoI6
namespace Go.Proofs.Yteiibneaihdmbaa.lawMergeNetwork
open Go.ChangeShapes Go.WideShapes Go.ChangeAt Go.RowKit
set_option maxRecDepth 100000

set_option maxHeartbeats 1000000 in
theorem walk (x0 : Int) (W : World) (hx0 : I64 x0) :
    Calls Try.prog 11 #[.int .i64 x0] W fun e W' => e = .returned (.bool true) ∧ Below W.heap.size W W' := by
  obtain ⟨r, hm⟩ : ∃ r, m_MergeNetwork x0 = r := ⟨_, rfl⟩
  obtain ⟨rs0, rb1⟩ := r
  have HM := Lib.hid hm
  clear hm
  have B0 : Below W.heap.size W W := Below.refl _ _
  have s0 : W.heap.size ≤ W.heap.size := Nat.le_refl _
  go_enter Try.func11, Try.ntmps11
  go_wp2_with fail
  refine (spec_MergeNetwork x0 rs0 rb1 _ hx0 HM.out).mono ?_
  rintro e w1 ⟨R_sp0, m_sp0, c_sp0, rfl, sp0_1, l_sp0, b1⟩
  have s1 := b1.size
  have B1 := B0.trans (b1.mono (by omega))
  clear b1 B0 
  have old_sp0 := sp0_1.old
  go_wp2_with fail
  refine (impl_MergeNetwork x0 rs0 rb1 _ hx0 HM.out).mono ?_
  rintro e w2 ⟨R_im0, m_im0, c_im0, rfl, im0_2, l_im0, b2⟩
  have s2 := b2.size
  have B2 := B1.trans (b2.mono (by omega))
  have sp0_2 := sp0_1.below b2
  clear b2 B1 sp0_1
  have im0_b := im0_2
  go_wp2_with fail
  refine (eqStepS_same _ _ m_im0 m_sp0 _ _ _ _ im0_2.has sp0_2 (by omega)).mono ?_
  rintro e w3 ⟨rfl, b3⟩
  have s3 := b3.size
  have B3 := B2.trans (b3.mono (by omega))
  have sp0_3 := sp0_2.below b3
  have im0_3 := im0_2.below b3
  clear b3 B2 sp0_2 im0_2
  go_wp2_with fail
  refine (markStepS_any _ _ _ _ _ _ _ im0_3 (by omega) (by omega) (by omega)).mono ?_
  rintro e w4 ⟨rfl, im0_4, q4⟩
  have g4 := spanOfT q4 im0_b
  have s4 := g4.size
  have B4 := belowSpan B3 g4 (by omega) (by omega)
  have sp0_4 := sp0_3.span g4 (fun h0 ad e => Nat.lt_of_lt_of_le (old_sp0 h0 ad e) (by omega))
  clear g4 q4 B3 sp0_3 im0_3
  go_wp2_with fail
  refine (heldStepS_low _ _ _ _ _ im0_4.has (by omega) (by omega) (by omega)).mono ?_
  rintro e w5 ⟨rfl, b5⟩
  have s5 := b5.size
  have B5 := B4.trans (b5.mono (by omega))
  have sp0_5 := sp0_4.below b5
  have im0_5 := im0_4.below b5
  clear b5 B4 sp0_4 im0_4
  go_wp2_with fail
  refine (impl_MergeNetwork x0 rs0 rb1 _ hx0 HM.out).mono ?_
  rintro e w6 ⟨R_ag0, m_ag0, c_ag0, rfl, ag0_6, l_ag0, b6⟩
  have s6 := b6.size
  have B6 := B5.trans (b6.mono (by omega))
  have sp0_6 := sp0_5.below b6
  have im0_6 := im0_5.below b6
  clear b6 B5 sp0_5 im0_5
  have ag0_b := ag0_6
  go_wp2_with fail
  refine (eqStepS_same _ _ m_ag0 m_sp0 _ _ _ _ ag0_6.has sp0_6 (by omega)).mono ?_
  rintro e w7 ⟨rfl, b7⟩
  have s7 := b7.size
  have B7 := B6.trans (b7.mono (by omega))
  have sp0_7 := sp0_6.below b7
  have im0_7 := im0_6.below b7
  have ag0_7 := ag0_6.below b7
  clear b7 B6 sp0_6 im0_6 ag0_6
  go_wp2_with fail
  refine (heldStepS_low _ _ _ _ _ im0_7.has (by omega) (by omega) (by omega)).mono ?_
  rintro e w8 ⟨rfl, b8⟩
  have s8 := b8.size
  have B8 := B7.trans (b8.mono (by omega))
  have sp0_8 := sp0_7.below b8
  have im0_8 := im0_7.below b8
  have ag0_8 := ag0_7.below b8
  clear b8 B7 sp0_7 im0_7 ag0_7
  go_wp2_with fail
  go_ret
  exact ⟨rfl, B8⟩

set_option maxRecDepth 100000 in
theorem lifted (os : Os) (started : os.Started) (H : Type) (enc : TypeId × Value → H) :
    ReturnsInHanded {} Try.checked os 11 .any (Rows.fnExactMergeNetworkSpec.pre6 enc Try.prog Try.f11 Rows.fnExactMergeNetworkRow.domain false) (Rows.fnExactMergeNetworkSpec.post enc Try.prog Try.f11 false true false false) := by
  refine returnsInHanded_of_change (C := Try.checked) own started (by kernel_rfl) Try.func11
    (ChangeSpec.witness6 (enc := enc) (C := Try.checked) false ⟨#[], #[.int .i64 0], []⟩ 8 (by kernel_rfl) (by kernel_rfl) (by kernel_rfl) (by kernel_rfl)) ?_
  intro W base args ds gs before hval0 hW hcnd _
  have hval : ∀ (j : Nat) t v, Try.f11.params[j]? = some t → args[j]? = some v → Value.okWide Try.prog W .any base t v := hval0
  have hW' := hW
  obtain ⟨p, q, hA0, hV, rfl, hfz, hnd⟩ := hW
  have hA : DataW.TrodAll enc Try.prog W 0 (fun _ => true) true Try.f11.params.toList args.toList ds p := hA0
  rw [Try.params11] at hA hval
  obtain ⟨v0, vs0, d0, ds0, p0, q0, hargs, rfl, rfl, h0, r0⟩ := trodAll_cons hA
  obtain ⟨rfl, rfl, rfl⟩ := trodAll_nil r0
  obtain rfl : args = #[v0] := by cases args; simp_all
  obtain ⟨rfl, rfl⟩ := trodVars_none hV
  clear hA0 hval0
  obtain ⟨x0, rfl, rfl, rfl, wx0⟩ := open_int Try.underlying3 (hval 0 _ v0 rfl rfl) h0
  simp only [List.append_nil] at hW'
  refine (walk x0 W (I64.of wx0)).mono fun e W' ⟨he, hb⟩ => ?_
  subst he
  exact ⟨_, rfl, lawPost (pa := []) (pv := []) hW' (fun _ _ _ => trodAll_mk1 (shut_bool Try.underlying4 _)) (trodAll_mk1 (shut_int Try.underlying3 wx0)) rfl (by simp) hb⟩

theorem proved : Rows.FnExactMergeNetworkSaid :=
  OpenClaim.holds_of_wide 11 Try.f11 rfl rfl rfl rfl rfl rfl rfl ⟨rfl, rfl, rfl, rfl, rfl⟩ rfl rfl rfl rfl rfl (by kernel_rfl) Try.func11 (by kernel_rfl)
    (of_decide_eq_true (by kernel_rfl)) (by unfold Func.isWrapper; first | (rw [if_pos (by decide +kernel)]; kernel_rfl) | (rw [if_neg (by decide +kernel)]; exact ⟨rfl, rfl⟩))
    (fun os started H enc _ => lifted os started H enc)

end Go.Proofs.Yteiibneaihdmbaa.lawMergeNetwork
