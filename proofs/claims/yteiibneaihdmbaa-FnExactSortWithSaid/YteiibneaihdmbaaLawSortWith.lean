/- The exact law of SortWith: for every input that the row allows, the program and the model answer the same, the arguments are left as they were, and the answer owns its memory. -/
import Derived.Test.YteiibneaihdmbaaHelp
import Derived.Test.YteiibneaihdmbaaClose
import Derived.Test.YteiibneaihdmbaaSo1
import Derived.Test.YteiibneaihdmbaaSoG2
import Derived.Test.YteiibneaihdmbaaSoI2
namespace Go.Proofs.Yteiibneaihdmbaa.lawSortWith
open Go.ChangeShapes Go.WideShapes Go.ChangeAt Go.RowKit
set_option maxRecDepth 100000

set_option maxHeartbeats 1000000 in
theorem walk (x0 : Int) (A1 : Option Addr) (n1 c1 : Nat) (l1 : List St) (A2 : Option Addr) (n2 c2 : Nat) (zs2 : List Int) (W : World) (hx0 : I64 x0) (a1_0 : HasT W A1 n1 l1) (mx1 : n1 ≤ maxLen) (a2_0 : Has W A2 n2 zs2) :
    Calls Try.prog 6 #[.int .i64 x0, .slice A1 n1 c1, .slice A2 n2 c2] W fun e W' => e = .returned (.bool true) ∧ Below W.heap.size W W' := by
  by_cases hn2 : 1048576 < n2
  · go_enter Try.func6, Try.ntmps6
    go_wp2_with fail
    go_ret
    exact ⟨rfl, Below.refl _ _⟩
  obtain ⟨r, hm⟩ : ∃ r, m_SortWith x0 l1 zs2 = r := ⟨_, rfl⟩
  obtain ⟨rs0, rb1⟩ := r
  have HM := Lib.hid hm
  clear hm
  have B0 : Below W.heap.size W W := Below.refl _ _
  have s0 : W.heap.size ≤ W.heap.size := Nat.le_refl _
  have old_a1 := a1_0.old
  have old_a2 := a2_0.old
  go_enter Try.func6, Try.ntmps6
  go_wp2_with fail
  refine (szStepS_any A1 n1 c1 1048576 W (by omega) (by omega) (by unfold maxLen at mx1; omega)).mono ?_
  rintro e w' ⟨rfl, rfl⟩
  by_cases hn1 : 1048576 < n1
  · rw [if_pos (by omega)]
    go_wp2_with fail
    go_ret
    exact ⟨rfl, B0⟩
  rw [if_neg (by omega)]
  go_wp2_with fail
  refine (toStepS_any A1 n1 c1 l1 _ a1_0 (by omega)).mono ?_
  rintro e w1 ⟨X_u1, rfl, u1_1, b1⟩
  have s1 := b1.size
  have B1 := B0.trans (b1.mono (by omega))
  have a1_1 := a1_0.below b1
  have a2_1 := a2_0.below b1
  clear b1 B0 a1_0 a2_0
  have u1_b := u1_1
  go_wp2_with fail
  refine (toIntS_any A2 n2 c2 zs2 _ a2_1 (by omega)).mono ?_
  rintro e w2 ⟨X_u2, rfl, u2_2, b2⟩
  have s2 := b2.size
  have B2 := B1.trans (b2.mono (by omega))
  have a1_2 := a1_1.below b2
  have a2_2 := a2_1.below b2
  have u1_2 := u1_1.below b2
  clear b2 B1 a1_1 a2_1 u1_1
  have u2_b := u2_2
  go_wp2_with fail
  refine (spec_SortWith x0 X_u1 n1 n1 l1 X_u2 n2 n2 zs2 rs0 rb1 _ hx0 u1_2.has (by omega) u1_2.nilOk u2_2.has (by omega) (own_nilOk u2_2) HM.out).mono ?_
  rintro e w3 ⟨R_sp0, m_sp0, c_sp0, rfl, sp0_3, l_sp0, b3⟩
  have s3 := b3.size
  have B3 := B2.trans (b3.mono (by omega))
  have a1_3 := a1_2.below b3
  have a2_3 := a2_2.below b3
  have u1_3 := u1_2.below b3
  have u2_3 := u2_2.below b3
  clear b3 B2 a1_2 a2_2 u1_2 u2_2
  have old_sp0 := sp0_3.old
  go_wp2_with fail
  refine (toStepS_any A1 n1 c1 l1 _ a1_3 (by omega)).mono ?_
  rintro e w4 ⟨X_v1, rfl, v1_4, b4⟩
  have s4 := b4.size
  have B4 := B3.trans (b4.mono (by omega))
  have a1_4 := a1_3.below b4
  have a2_4 := a2_3.below b4
  have sp0_4 := sp0_3.below b4
  clear b4 B3 a1_3 a2_3 sp0_3
  have v1_b := v1_4
  go_wp2_with fail
  refine (toIntS_any A2 n2 c2 zs2 _ a2_4 (by omega)).mono ?_
  rintro e w5 ⟨X_v2, rfl, v2_5, b5⟩
  have s5 := b5.size
  have B5 := B4.trans (b5.mono (by omega))
  have a1_5 := a1_4.below b5
  have a2_5 := a2_4.below b5
  have sp0_5 := sp0_4.below b5
  have v1_5 := v1_4.below b5
  clear b5 B4 a1_4 a2_4 sp0_4 v1_4
  have v2_b := v2_5
  go_wp2_with fail
  refine (impl_SortWith x0 X_v1 n1 n1 l1 X_v2 n2 n2 zs2 rs0 rb1 _ hx0 v1_5.has (by omega) v1_5.nilOk v2_5.has (by omega) (own_nilOk v2_5) HM.out).mono ?_
  rintro e w6 ⟨R_im0, m_im0, c_im0, rfl, im0_6, l_im0, b6⟩
  have s6 := b6.size
  have B6 := B5.trans (b6.mono (by omega))
  have a1_6 := a1_5.below b6
  have a2_6 := a2_5.below b6
  have sp0_6 := sp0_5.below b6
  have v1_6 := v1_5.below b6
  have v2_6 := v2_5.below b6
  clear b6 B5 a1_5 a2_5 sp0_5 v1_5 v2_5
  have im0_b := im0_6
  go_wp2_with fail
  refine (eqIntS_same _ _ m_im0 m_sp0 _ _ _ _ im0_6.has sp0_6 (by omega)).mono ?_
  rintro e w7 ⟨rfl, b7⟩
  have s7 := b7.size
  have B7 := B6.trans (b7.mono (by omega))
  have a1_7 := a1_6.below b7
  have a2_7 := a2_6.below b7
  have sp0_7 := sp0_6.below b7
  have v1_7 := v1_6.below b7
  have v2_7 := v2_6.below b7
  have im0_7 := im0_6.below b7
  clear b7 B6 a1_6 a2_6 sp0_6 v1_6 v2_6 im0_6
  go_wp2_with fail
  refine (toStepS_any A1 n1 c1 l1 _ a1_7 (by omega)).mono ?_
  rintro e w8 ⟨X_y1, rfl, y1_8, b8⟩
  have s8 := b8.size
  have B8 := B7.trans (b8.mono (by omega))
  have a1_8 := a1_7.below b8
  have a2_8 := a2_7.below b8
  have sp0_8 := sp0_7.below b8
  have v1_8 := v1_7.below b8
  have v2_8 := v2_7.below b8
  have im0_8 := im0_7.below b8
  clear b8 B7 a1_7 a2_7 sp0_7 v1_7 v2_7 im0_7
  have y1_b := y1_8
  go_wp2_with fail
  refine (eqStepS_same _ _ n1 n1 _ _ _ _ v1_8.has y1_8.has (by omega)).mono ?_
  rintro e w9 ⟨rfl, b9⟩
  have s9 := b9.size
  have B9 := B8.trans (b9.mono (by omega))
  have a1_9 := a1_8.below b9
  have a2_9 := a2_8.below b9
  have sp0_9 := sp0_8.below b9
  have v1_9 := v1_8.below b9
  have v2_9 := v2_8.below b9
  have im0_9 := im0_8.below b9
  have y1_9 := y1_8.below b9
  clear b9 B8 a1_8 a2_8 sp0_8 v1_8 v2_8 im0_8 y1_8
  go_wp2_with fail
  refine (toIntS_any A2 n2 c2 zs2 _ a2_9 (by omega)).mono ?_
  rintro e w10 ⟨X_y2, rfl, y2_10, b10⟩
  have s10 := b10.size
  have B10 := B9.trans (b10.mono (by omega))
  have a1_10 := a1_9.below b10
  have a2_10 := a2_9.below b10
  have sp0_10 := sp0_9.below b10
  have v1_10 := v1_9.below b10
  have v2_10 := v2_9.below b10
  have im0_10 := im0_9.below b10
  clear b10 B9 a1_9 a2_9 sp0_9 v1_9 v2_9 im0_9
  have y2_b := y2_10
  go_wp2_with fail
  refine (eqIntS_same _ _ n2 n2 _ _ _ _ v2_10.has y2_10.has (by omega)).mono ?_
  rintro e w11 ⟨rfl, b11⟩
  have s11 := b11.size
  have B11 := B10.trans (b11.mono (by omega))
  have a1_11 := a1_10.below b11
  have a2_11 := a2_10.below b11
  have sp0_11 := sp0_10.below b11
  have v1_11 := v1_10.below b11
  have v2_11 := v2_10.below b11
  have im0_11 := im0_10.below b11
  have y2_11 := y2_10.below b11
  clear b11 B10 a1_10 a2_10 sp0_10 v1_10 v2_10 im0_10 y2_10
  go_wp2_with fail
  refine (markStepS_any _ _ _ _ _ _ _ v1_11 (by omega) (by omega) (by omega)).mono ?_
  rintro e w12 ⟨rfl, v1_12, q12⟩
  have g12 := spanOfT q12 v1_b
  have s12 := g12.size
  have B12 := belowSpan B11 g12 (by omega) (by omega)
  have a1_12 := a1_11.span g12 (fun h0 ad e => Nat.lt_of_lt_of_le (old_a1 h0 ad e) (by omega))
  have a2_12 := a2_11.span g12 (fun h0 ad e => Nat.lt_of_lt_of_le (old_a2 h0 ad e) (by omega))
  have sp0_12 := sp0_11.span g12 (fun h0 ad e => Nat.lt_of_lt_of_le (old_sp0 h0 ad e) (by omega))
  have v2_12 := v2_11.span g12 (by omega)
  have im0_12 := im0_11.span g12 (by omega)
  clear g12 q12 B11 a1_11 a2_11 sp0_11 v1_11 v2_11 im0_11
  go_wp2_with fail
  refine (markIntS_any _ _ _ _ _ _ _ v2_12 (by omega) (by omega) (by omega)).mono ?_
  rintro e w13 ⟨rfl, v2_13, q13⟩
  have g13 := spanOfI q13 v2_b
  have s13 := g13.size
  have B13 := belowSpan B12 g13 (by omega) (by omega)
  have a1_13 := a1_12.span g13 (fun h0 ad e => Nat.lt_of_lt_of_le (old_a1 h0 ad e) (by omega))
  have a2_13 := a2_12.span g13 (fun h0 ad e => Nat.lt_of_lt_of_le (old_a2 h0 ad e) (by omega))
  have sp0_13 := sp0_12.span g13 (fun h0 ad e => Nat.lt_of_lt_of_le (old_sp0 h0 ad e) (by omega))
  have im0_13 := im0_12.span g13 (by omega)
  clear g13 q13 B12 a1_12 a2_12 sp0_12 v2_12 im0_12
  go_wp2_with fail
  refine (eqIntS_same _ _ m_im0 m_sp0 _ _ _ _ im0_13.has sp0_13 (by omega)).mono ?_
  rintro e w14 ⟨rfl, b14⟩
  have s14 := b14.size
  have B14 := B13.trans (b14.mono (by omega))
  have a1_14 := a1_13.below b14
  have a2_14 := a2_13.below b14
  have sp0_14 := sp0_13.below b14
  have im0_14 := im0_13.below b14
  clear b14 B13 a1_13 a2_13 sp0_13 im0_13
  go_wp2_with fail
  refine (markIntS_any _ _ _ _ _ _ _ im0_14 (by omega) (by omega) (by omega)).mono ?_
  rintro e w15 ⟨rfl, im0_15, q15⟩
  have g15 := spanOfI q15 im0_b
  have s15 := g15.size
  have B15 := belowSpan B14 g15 (by omega) (by omega)
  have a1_15 := a1_14.span g15 (fun h0 ad e => Nat.lt_of_lt_of_le (old_a1 h0 ad e) (by omega))
  have a2_15 := a2_14.span g15 (fun h0 ad e => Nat.lt_of_lt_of_le (old_a2 h0 ad e) (by omega))
  have sp0_15 := sp0_14.span g15 (fun h0 ad e => Nat.lt_of_lt_of_le (old_sp0 h0 ad e) (by omega))
  clear g15 q15 B14 a1_14 a2_14 sp0_14 im0_14
  go_wp2_with fail
  refine (heldIntS_any _ _ _ _ _ im0_15.has (by omega) (by omega) (by omega)).mono ?_
  rintro e w16 ⟨rfl, b16⟩
  have s16 := b16.size
  have B16 := B15.trans (b16.mono (by omega))
  have a1_16 := a1_15.below b16
  have a2_16 := a2_15.below b16
  have sp0_16 := sp0_15.below b16
  have im0_16 := im0_15.below b16
  clear b16 B15 a1_15 a2_15 sp0_15 im0_15
  go_wp2_with fail
  refine (toStepS_any A1 n1 c1 l1 _ a1_16 (by omega)).mono ?_
  rintro e w17 ⟨X_t1, rfl, t1_17, b17⟩
  have s17 := b17.size
  have B17 := B16.trans (b17.mono (by omega))
  have a1_17 := a1_16.below b17
  have a2_17 := a2_16.below b17
  have sp0_17 := sp0_16.below b17
  have im0_17 := im0_16.below b17
  clear b17 B16 a1_16 a2_16 sp0_16 im0_16
  have t1_b := t1_17
  go_wp2_with fail
  refine (toIntS_any A2 n2 c2 zs2 _ a2_17 (by omega)).mono ?_
  rintro e w18 ⟨X_t2, rfl, t2_18, b18⟩
  have s18 := b18.size
  have B18 := B17.trans (b18.mono (by omega))
  have a1_18 := a1_17.below b18
  have a2_18 := a2_17.below b18
  have sp0_18 := sp0_17.below b18
  have im0_18 := im0_17.below b18
  have t1_18 := t1_17.below b18
  clear b18 B17 a1_17 a2_17 sp0_17 im0_17 t1_17
  have t2_b := t2_18
  go_wp2_with fail
  refine (impl_SortWith x0 X_t1 n1 n1 l1 X_t2 n2 n2 zs2 rs0 rb1 _ hx0 t1_18.has (by omega) t1_18.nilOk t2_18.has (by omega) (own_nilOk t2_18) HM.out).mono ?_
  rintro e w19 ⟨R_ag0, m_ag0, c_ag0, rfl, ag0_19, l_ag0, b19⟩
  have s19 := b19.size
  have B19 := B18.trans (b19.mono (by omega))
  have a1_19 := a1_18.below b19
  have a2_19 := a2_18.below b19
  have sp0_19 := sp0_18.below b19
  have im0_19 := im0_18.below b19
  have t1_19 := t1_18.below b19
  have t2_19 := t2_18.below b19
  clear b19 B18 a1_18 a2_18 sp0_18 im0_18 t1_18 t2_18
  have ag0_b := ag0_19
  go_wp2_with fail
  refine (eqIntS_same _ _ m_ag0 m_sp0 _ _ _ _ ag0_19.has sp0_19 (by omega)).mono ?_
  rintro e w20 ⟨rfl, b20⟩
  have s20 := b20.size
  have B20 := B19.trans (b20.mono (by omega))
  have a1_20 := a1_19.below b20
  have a2_20 := a2_19.below b20
  have sp0_20 := sp0_19.below b20
  have im0_20 := im0_19.below b20
  have ag0_20 := ag0_19.below b20
  clear b20 B19 a1_19 a2_19 sp0_19 im0_19 ag0_19
  go_wp2_with fail
  refine (heldIntS_any _ _ _ _ _ im0_20.has (by omega) (by omega) (by omega)).mono ?_
  rintro e w21 ⟨rfl, b21⟩
  have s21 := b21.size
  have B21 := B20.trans (b21.mono (by omega))
  have a1_21 := a1_20.below b21
  have a2_21 := a2_20.below b21
  have sp0_21 := sp0_20.below b21
  have im0_21 := im0_20.below b21
  have ag0_21 := ag0_20.below b21
  clear b21 B20 a1_20 a2_20 sp0_20 im0_20 ag0_20
  go_wp2_with fail
  go_ret
  exact ⟨rfl, B21⟩

set_option maxRecDepth 100000 in
theorem lifted (os : Os) (started : os.Started) (H : Type) (enc : TypeId × Value → H) :
    ReturnsInHanded {} Try.checked os 6 .any (Rows.fnExactSortWithSpec.pre6 enc Try.prog Try.f6 Rows.fnExactSortWithRow.domain false) (Rows.fnExactSortWithSpec.post enc Try.prog Try.f6 false true false false) := by
  refine returnsInHanded_of_change (C := Try.checked) own started (by kernel_rfl) Try.func6
    (ChangeSpec.witness6 (enc := enc) (C := Try.checked) false ⟨#[], #[.int .i64 0, .slice none 0 0, .slice none 0 0], []⟩ 8 (by kernel_rfl) (by kernel_rfl) (by kernel_rfl) (by kernel_rfl)) ?_
  intro W base args ds gs before hval0 hW hcnd _
  have hval : ∀ (j : Nat) t v, Try.f6.params[j]? = some t → args[j]? = some v → Value.okWide Try.prog W .any base t v := hval0
  have hW' := hW
  obtain ⟨p, q, hA0, hV, rfl, hfz, hnd⟩ := hW
  have hA : DataW.TrodAll enc Try.prog W 0 (fun _ => true) true Try.f6.params.toList args.toList ds p := hA0
  rw [Try.params6] at hA hval
  obtain ⟨v0, vs0, d0, ds0, p0, q0, hargs, rfl, rfl, h0, r0⟩ := trodAll_cons hA
  obtain ⟨v1, vs1, d1, ds1, p1, q1, hargs1, rfl, rfl, h1, r1⟩ := trodAll_cons r0
  obtain ⟨v2, vs2, d2, ds2, p2, q2, hargs2, rfl, rfl, h2, r2⟩ := trodAll_cons r1
  obtain ⟨rfl, rfl, rfl⟩ := trodAll_nil r2
  obtain rfl : args = #[v0, v1, v2] := by cases args; simp_all
  obtain ⟨rfl, rfl⟩ := trodVars_none hV
  clear hA0 hval0
  obtain ⟨x0, rfl, rfl, rfl, wx0⟩ := open_int Try.underlying3 (hval 0 _ v0 rfl rfl) h0
  have hlt1 : ∀ x ∈ p1, x.block < W.heap.size := fun x hx => by simpa using hW'.lt x (by simp [hx])
  obtain ⟨a1, n1, c1, l1, rfl, g1, mx1, _, _, _⟩ := openSteps (hval 1 _ v1 rfl rfl) h1
  have hlt2 : ∀ x ∈ p2, x.block < W.heap.size := fun x hx => by simpa using hW'.lt x (by simp [hx])
  obtain ⟨a2, n2, c2, zs2, rfl, g2, wf2⟩ := openInts (hval 2 _ v2 rfl rfl) h2
  simp only [List.append_nil] at hW'
  refine (walk x0 a1 n1 c1 l1 a2 n2 c2 zs2 W (I64.of wx0) g1 mx1 g2).mono fun e W' ⟨he, hb⟩ => ?_
  subst he
  exact ⟨_, rfl, lawPost (pa := [] ++ (p1 ++ (p2))) (pv := []) hW' (fun _ _ _ => trodAll_mk1 (shut_bool Try.underlying4 _)) (trodAll_mk3 (shut_int Try.underlying3 wx0) (Below.trod laidOut (by kernel_rfl) (of_decide_eq_true (by kernel_rfl)) h1 hb hlt1) (Below.trod laidOut (by kernel_rfl) (of_decide_eq_true (by kernel_rfl)) h2 hb hlt2)) rfl (by simp) hb⟩

theorem proved : Rows.FnExactSortWithSaid :=
  OpenClaim.holds_of_wide 6 Try.f6 rfl rfl rfl rfl rfl rfl rfl ⟨rfl, rfl, rfl, rfl, rfl⟩ rfl rfl rfl rfl rfl (by kernel_rfl) Try.func6 (by kernel_rfl)
    (of_decide_eq_true (by kernel_rfl)) (by unfold Func.isWrapper; first | (rw [if_pos (by decide +kernel)]; kernel_rfl) | (rw [if_neg (by decide +kernel)]; exact ⟨rfl, rfl⟩))
    (fun os started H enc _ => lifted os started H enc)

end Go.Proofs.Yteiibneaihdmbaa.lawSortWith
