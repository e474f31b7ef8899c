/- The exact law of FirstUnsorted: for every input that the row allows, the program and the model answer the same, the arguments are left as they were, and the answer owns its memory. -/
import Derived.Test.YteiibneaihdmbaaHelp
import Derived.Test.YteiibneaihdmbaaClose
import Derived.Test.YteiibneaihdmbaaSo1
import Derived.Test.YteiibneaihdmbaaSoG3
import Derived.Test.YteiibneaihdmbaaSoI5
namespace Go.Proofs.Yteiibneaihdmbaa.lawFirstUnsorted
open Go.ChangeShapes Go.WideShapes Go.ChangeAt Go.RowKit
set_option maxRecDepth 100000

set_option maxHeartbeats 1000000 in
theorem walk (x0 : Int) (A1 : Option Addr) (n1 c1 : Nat) (l1 : List St) (W : World) (hx0 : I64 x0) (a1_0 : HasT W A1 n1 l1) (mx1 : n1 ≤ maxLen) :
    Calls Try.prog 8 #[.int .i64 x0, .slice A1 n1 c1] W fun e W' => e = .returned (.bool true) ∧ Below W.heap.size W W' := by
  obtain ⟨r, hm⟩ : ∃ r, m_FirstUnsorted x0 l1 = r := ⟨_, rfl⟩
  obtain ⟨rs0, rb1⟩ := r
  have HM := Lib.hid hm
  clear hm
  have B0 : Below W.heap.size W W := Below.refl _ _
  have s0 : W.heap.size ≤ W.heap.size := Nat.le_refl _
  have old_a1 := a1_0.old
  go_enter Try.func8, Try.ntmps8
  go_wp2_with fail
  refine (szStepS_any A1 n1 c1 1048576 W (by omega) (by omega) (by unfold maxLen at mx1; omega)).mono ?_
  rintro e w' ⟨rfl, rfl⟩
  by_cases hn1 : 1048576 < n1
  · rw [if_pos (by omega)]
    go_wp2_with fail
    go_ret
    exact ⟨rfl, B0⟩
  rw [if_neg (by omega)]
  go_wp2_with fail
  refine (toStepS_any A1 n1 c1 l1 _ a1_0 (by omega)).mono ?_
  rintro e w1 ⟨X_u1, rfl, u1_1, b1⟩
  have s1 := b1.size
  have B1 := B0.trans (b1.mono (by omega))
  have a1_1 := a1_0.below b1
  clear b1 B0 a1_0
  have u1_b := u1_1
  go_wp2_with fail
  refine (spec_FirstUnsorted x0 X_u1 n1 n1 l1 rs0 rb1 _ hx0 u1_1.has (by omega) u1_1.nilOk HM.out).mono ?_
  rintro e w2 ⟨R_sp0, m_sp0, c_sp0, rfl, sp0_2, l_sp0, b2⟩
  have s2 := b2.size
  have B2 := B1.trans (b2.mono (by omega))
  have a1_2 := a1_1.below b2
  have u1_2 := u1_1.below b2
  clear b2 B1 a1_1 u1_1
  have old_sp0 := sp0_2.old
  go_wp2_with fail
  refine (toStepS_any A1 n1 c1 l1 _ a1_2 (by omega)).mono ?_
  rintro e w3 ⟨X_v1, rfl, v1_3, b3⟩
  have s3 := b3.size
  have B3 := B2.trans (b3.mono (by omega))
  have a1_3 := a1_2.below b3
  have sp0_3 := sp0_2.below b3
  clear b3 B2 a1_2 sp0_2
  have v1_b := v1_3
  go_wp2_with fail
  refine (impl_FirstUnsorted x0 X_v1 n1 n1 l1 rs0 rb1 _ hx0 v1_3.has (by omega) v1_3.nilOk HM.out).mono ?_
  rintro e w4 ⟨R_im0, m_im0, c_im0, rfl, im0_4, l_im0, b4⟩
  have s4 := b4.size
  have B4 := B3.trans (b4.mono (by omega))
  have a1_4 := a1_3.below b4
  have sp0_4 := sp0_3.below b4
  have v1_4 := v1_3.below b4
  clear b4 B3 a1_3 sp0_3 v1_3
  have im0_b := im0_4
  go_wp2_with fail
  refine (eqIntS_same _ _ m_im0 m_sp0 _ _ _ _ im0_4.has sp0_4 (by omega)).mono ?_
  rintro e w5 ⟨rfl, b5⟩
  have s5 := b5.size
  have B5 := B4.trans (b5.mono (by omega))
  have a1_5 := a1_4.below b5
  have sp0_5 := sp0_4.below b5
  have v1_5 := v1_4.below b5
  have im0_5 := im0_4.below b5
  clear b5 B4 a1_4 sp0_4 v1_4 im0_4
  go_wp2_with fail
  refine (toStepS_any A1 n1 c1 l1 _ a1_5 (by omega)).mono ?_
  rintro e w6 ⟨X_y1, rfl, y1_6, b6⟩
  have s6 := b6.size
  have B6 := B5.trans (b6.mono (by omega))
  have a1_6 := a1_5.below b6
  have sp0_6 := sp0_5.below b6
  have v1_6 := v1_5.below b6
  have im0_6 := im0_5.below b6
  clear b6 B5 a1_5 sp0_5 v1_5 im0_5
  have y1_b := y1_6
  go_wp2_with fail
  refine (eqStepS_same _ _ n1 n1 _ _ _ _ v1_6.has y1_6.has (by omega)).mono ?_
  rintro e w7 ⟨rfl, b7⟩
  have s7 := b7.size
  have B7 := B6.trans (b7.mono (by omega))
  have a1_7 := a1_6.below b7
  have sp0_7 := sp0_6.below b7
  have v1_7 := v1_6.below b7
  have im0_7 := im0_6.below b7
  have y1_7 := y1_6.below b7
  clear b7 B6 a1_6 sp0_6 v1_6 im0_6 y1_6
  go_wp2_with fail
  refine (markStepS_any _ _ _ _ _ _ _ v1_7 (by omega) (by omega) (by omega)).mono ?_
  rintro e w8 ⟨rfl, v1_8, q8⟩
  have g8 := spanOfT q8 v1_b
  have s8 := g8.size
  have B8 := belowSpan B7 g8 (by omega) (by omega)
  have a1_8 := a1_7.span g8 (fun h0 ad e => Nat.lt_of_lt_of_le (old_a1 h0 ad e) (by omega))
  have sp0_8 := sp0_7.span g8 (fun h0 ad e => Nat.lt_of_lt_of_le (old_sp0 h0 ad e) (by omega))
  have im0_8 := im0_7.span g8 (by omega)
  clear g8 q8 B7 a1_7 sp0_7 v1_7 im0_7
  go_wp2_with fail
  refine (eqIntS_same _ _ m_im0 m_sp0 _ _ _ _ im0_8.has sp0_8 (by omega)).mono ?_
  rintro e w9 ⟨rfl, b9⟩
  have s9 := b9.size
  have B9 := B8.trans (b9.mono (by omega))
  have a1_9 := a1_8.below b9
  have sp0_9 := sp0_8.below b9
  have im0_9 := im0_8.below b9
  clear b9 B8 a1_8 sp0_8 im0_8
  go_wp2_with fail
  refine (markIntS_any _ _ _ _ _ _ _ im0_9 (by omega) (by omega) (by omega)).mono ?_
  rintro e w10 ⟨rfl, im0_10, q10⟩
  have g10 := spanOfI q10 im0_b
  have s10 := g10.size
  have B10 := belowSpan B9 g10 (by omega) (by omega)
  have a1_10 := a1_9.span g10 (fun h0 ad e => Nat.lt_of_lt_of_le (old_a1 h0 ad e) (by omega))
  have sp0_10 := sp0_9.span g10 (fun h0 ad e => Nat.lt_of_lt_of_le (old_sp0 h0 ad e) (by omega))
  clear g10 q10 B9 a1_9 sp0_9 im0_9
  go_wp2_with fail
  refine (heldIntS_any _ _ _ _ _ im0_10.has (by omega) (by omega) (by omega)).mono ?_
  rintro e w11 ⟨rfl, b11⟩
  have s11 := b11.size
  have B11 := B10.trans (b11.mono (by omega))
  have a1_11 := a1_10.below b11
  have sp0_11 := sp0_10.below b11
  have im0_11 := im0_10.below b11
  clear b11 B10 a1_10 sp0_10 im0_10
  go_wp2_with fail
  refine (toStepS_any A1 n1 c1 l1 _ a1_11 (by omega)).mono ?_
  rintro e w12 ⟨X_t1, rfl, t1_12, b12⟩
  have s12 := b12.size
  have B12 := B11.trans (b12.mono (by omega))
  have a1_12 := a1_11.below b12
  have sp0_12 := sp0_11.below b12
  have im0_12 := im0_11.below b12
  clear b12 B11 a1_11 sp0_11 im0_11
  have t1_b := t1_12
  go_wp2_with fail
  refine (impl_FirstUnsorted x0 X_t1 n1 n1 l1 rs0 rb1 _ hx0 t1_12.has (by omega) t1_12.nilOk HM.out).mono ?_
  rintro e w13 ⟨R_ag0, m_ag0, c_ag0, rfl, ag0_13, l_ag0, b13⟩
  have s13 := b13.size
  have B13 := B12.trans (b13.mono (by omega))
  have a1_13 := a1_12.below b13
  have sp0_13 := sp0_12.below b13
  have im0_13 := im0_12.below b13
  have t1_13 := t1_12.below b13
  clear b13 B12 a1_12 sp0_12 im0_12 t1_12
  have ag0_b := ag0_13
  go_wp2_with fail
  refine (eqIntS_same _ _ m_ag0 m_sp0 _ _ _ _ ag0_13.has sp0_13 (by omega)).mono ?_
  rintro e w14 ⟨rfl, b14⟩
  have s14 := b14.size
  have B14 := B13.trans (b14.mono (by omega))
  have a1_14 := a1_13.below b14
  have sp0_14 := sp0_13.below b14
  have im0_14 := im0_13.below b14
  have ag0_14 := ag0_13.below b14
  clear b14 B13 a1_13 sp0_13 im0_13 ag0_13
  go_wp2_with fail
  refine (heldIntS_any _ _ _ _ _ im0_14.has (by omega) (by omega) (by omega)).mono ?_
  rintro e w15 ⟨rfl, b15⟩
  have s15 := b15.size
  have B15 := B14.trans (b15.mono (by omega))
  have a1_15 := a1_14.below b15
  have sp0_15 := sp0_14.below b15
  have im0_15 := im0_14.below b15
  have ag0_15 := ag0_14.below b15
  clear b15 B14 a1_14 sp0_14 im0_14 ag0_14
  go_wp2_with fail
  go_ret
  exact ⟨rfl, B15⟩

set_option maxRecDepth 100000 in
theorem lifted (os : Os) (started : os.Started) (H : Type) (enc : TypeId × Value → H) :
    ReturnsInHanded {} Try.checked os 8 .any (Rows.fnExactFirstUnsortedSpec.pre6 enc Try.prog Try.f8 Rows.fnExactFirstUnsortedRow.domain false) (Rows.fnExactFirstUnsortedSpec.post enc Try.prog Try.f8 false true false false) := by
  refine returnsInHanded_of_change (C := Try.checked) own started (by kernel_rfl) Try.func8
    (ChangeSpec.witness6 (enc := enc) (C := Try.checked) false ⟨#[], #[.int .i64 0, .slice none 0 0], []⟩ 8 (by kernel_rfl) (by kernel_rfl) (by kernel_rfl) (by kernel_rfl)) ?_
  intro W base args ds gs before hval0 hW hcnd _
  have hval : ∀ (j : Nat) t v, Try.f8.params[j]? = some t → args[j]? = some v → Value.okWide Try.prog W .any base t v := hval0
  have hW' := hW
  obtain ⟨p, q, hA0, hV, rfl, hfz, hnd⟩ := hW
  have hA : DataW.TrodAll enc Try.prog W 0 (fun _ => true) true Try.f8.params.toList args.toList ds p := hA0
  rw [Try.params8] at hA hval
  obtain ⟨v0, vs0, d0, ds0, p0, q0, hargs, rfl, rfl, h0, r0⟩ := trodAll_cons hA
  obtain ⟨v1, vs1, d1, ds1, p1, q1, hargs1, rfl, rfl, h1, r1⟩ := trodAll_cons r0
  obtain ⟨rfl, rfl, rfl⟩ := trodAll_nil r1
  obtain rfl : args = #[v0, v1] := by cases args; simp_all
  obtain ⟨rfl, rfl⟩ := trodVars_none hV
  clear hA0 hval0
  obtain ⟨x0, rfl, rfl, rfl, wx0⟩ := open_int Try.underlying3 (hval 0 _ v0 rfl rfl) h0
  have hlt1 : ∀ x ∈ p1, x.block < W.heap.size := fun x hx => by simpa using hW'.lt x (by simp [hx])
  obtain ⟨a1, n1, c1, l1, rfl, g1, mx1, _, _, _⟩ := openSteps (hval 1 _ v1 rfl rfl) h1
  simp only [List.append_nil] at hW'
  refine (walk x0 a1 n1 c1 l1 W (I64.of wx0) g1 mx1).mono fun e W' ⟨he, hb⟩ => ?_
  subst he
  exact ⟨_, rfl, lawPost (pa := [] ++ (p1)) (pv := []) hW' (fun _ _ _ => trodAll_mk1 (shut_bool Try.underlying4 _)) (trodAll_mk2 (shut_int Try.underlying3 wx0) (Below.trod laidOut (by kernel_rfl) (of_decide_eq_true (by kernel_rfl)) h1 hb hlt1)) rfl (by simp) hb⟩

theorem proved : Rows.FnExactFirstUnsortedSaid :=
  OpenClaim.holds_of_wide 8 Try.f8 rfl rfl rfl rfl rfl rfl rfl ⟨rfl, rfl, rfl, rfl, rfl⟩ rfl rfl rfl rfl rfl (by kernel_rfl) Try.func8 (by kernel_rfl)
    (of_decide_eq_true (by kernel_rfl)) (by unfold Func.isWrapper; first | (rw [if_pos (by decide +kernel)]; kernel_rfl) | (rw [if_neg (by decide +kernel)]; exact ⟨rfl, rfl⟩))
    (fun os started H enc _ => lifted os started H enc)

end Go.Proofs.Yteiibneaihdmbaa.lawFirstUnsorted
