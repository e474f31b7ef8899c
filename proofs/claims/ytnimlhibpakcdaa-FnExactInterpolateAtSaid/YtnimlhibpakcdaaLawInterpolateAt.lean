/- The exact law of InterpolateAt: for every input the program's function and the model's answer alike, and the argument reads as it did. -/
import Derived.Test.YtnimlhibpakcdaaHelp
import Derived.Test.YtnimlhibpakcdaaClose
import Derived.Test.YtnimlhibpakcdaaFld12
namespace Go.Proofs.Ytnimlhibpakcdaa.lawInterpolateAt
open Go.ChangeShapes Go.WideShapes Go.ChangeAt Go.RowKit

set_option maxHeartbeats 1000000 in
theorem walk (x0 : Int) (A1 : Option Addr) (n1 c1 : Nat) (zs1 : List Int) (A2 : Option Addr) (n2 c2 : Nat) (zs2 : List Int) (x3 : Int) (W : World) (hx0 : I64 x0) (a1_0 : Has W A1 n1 zs1) (a2_0 : Has W A2 n2 zs2) (hx3 : I64 x3) :
    Calls Try.prog 11 #[.int .i64 x0, .slice A1 n1 c1, .slice A2 n2 c2, .int .i64 x3] W fun e W' => e = .returned (.bool true) ∧ Below W.heap.size W W' := by
  by_cases hn1 : 1048576 < n1
  · go_enter Try.func11, Try.ntmps11
    go_wp2_with fail
    go_ret
    exact ⟨rfl, Below.refl _ _⟩
  by_cases hn2 : 1048576 < n2
  · go_enter Try.func11, Try.ntmps11
    go_wp2_with fail
    go_ret
    exact ⟨rfl, Below.refl _ _⟩
  obtain ⟨r, hm⟩ : ∃ r, m_InterpolateAt x0 zs1 zs2 x3 = r := ⟨_, rfl⟩
  obtain ⟨ry0, rb1⟩ := r
  have HM := Lib.hid hm
  clear hm
  have B0 : Below W.heap.size W W := Below.refl _ _
  have s0 : W.heap.size ≤ W.heap.size := Nat.le_refl _
  have old_a1 := a1_0.old
  have old_a2 := a2_0.old
  go_enter Try.func11, Try.ntmps11
  go_wp2_with fail
  refine (toIntS_any A1 n1 c1 zs1 _ a1_0 (by omega)).mono ?_
  rintro e w1 ⟨X_u1, rfl, u1_1, b1⟩
  have s1 := b1.size
  have B1 := B0.trans (b1.mono (by omega))
  have a1_1 := a1_0.below b1
  have a2_1 := a2_0.below b1
  clear b1 B0 a1_0 a2_0
  have u1_b := u1_1
  go_wp2_with fail
  refine (toIntS_any A2 n2 c2 zs2 _ a2_1 (by omega)).mono ?_
  rintro e w2 ⟨X_u2, rfl, u2_2, b2⟩
  have s2 := b2.size
  have B2 := B1.trans (b2.mono (by omega))
  have a1_2 := a1_1.below b2
  have a2_2 := a2_1.below b2
  have u1_2 := u1_1.below b2
  clear b2 B1 a1_1 a2_1 u1_1
  have u2_b := u2_2
  go_wp2_with fail
  refine (spec_InterpolateAt x0 X_u1 n1 n1 zs1 X_u2 n2 n2 zs2 x3 ry0 rb1 _ hx0 u1_2.has (by omega) u2_2.has (by omega) hx3 HM.out).mono ?_
  rintro e w3 ⟨rfl, b3⟩
  have s3 := b3.size
  have B3 := B2.trans (b3.mono (by omega))
  have a1_3 := a1_2.below b3
  have a2_3 := a2_2.below b3
  have u1_3 := u1_2.below b3
  have u2_3 := u2_2.below b3
  clear b3 B2 a1_2 a2_2 u1_2 u2_2
  go_wp2_with fail
  refine (toIntS_any A1 n1 c1 zs1 _ a1_3 (by omega)).mono ?_
  rintro e w4 ⟨X_v1, rfl, v1_4, b4⟩
  have s4 := b4.size
  have B4 := B3.trans (b4.mono (by omega))
  have a1_4 := a1_3.below b4
  have a2_4 := a2_3.below b4
  clear b4 B3 a1_3 a2_3
  have v1_b := v1_4
  go_wp2_with fail
  refine (toIntS_any A2 n2 c2 zs2 _ a2_4 (by omega)).mono ?_
  rintro e w5 ⟨X_v2, rfl, v2_5, b5⟩
  have s5 := b5.size
  have B5 := B4.trans (b5.mono (by omega))
  have a1_5 := a1_4.below b5
  have a2_5 := a2_4.below b5
  have v1_5 := v1_4.below b5
  clear b5 B4 a1_4 a2_4 v1_4
  have v2_b := v2_5
  go_wp2_with fail
  refine (impl_InterpolateAt x0 X_v1 n1 n1 zs1 X_v2 n2 n2 zs2 x3 ry0 rb1 _ hx0 v1_5.has (by omega) v2_5.has (by omega) hx3 HM.out).mono ?_
  rintro e w6 ⟨rfl, b6⟩
  have s6 := b6.size
  have B6 := B5.trans (b6.mono (by omega))
  have a1_6 := a1_5.below b6
  have a2_6 := a2_5.below b6
  have v1_6 := v1_5.below b6
  have v2_6 := v2_5.below b6
  clear b6 B5 a1_5 a2_5 v1_5 v2_5
  go_wp2_with fail
  refine (toIntS_any A1 n1 c1 zs1 _ a1_6 (by omega)).mono ?_
  rintro e w7 ⟨X_y1, rfl, y1_7, b7⟩
  have s7 := b7.size
  have B7 := B6.trans (b7.mono (by omega))
  have a1_7 := a1_6.below b7
  have a2_7 := a2_6.below b7
  have v1_7 := v1_6.below b7
  have v2_7 := v2_6.below b7
  clear b7 B6 a1_6 a2_6 v1_6 v2_6
  have y1_b := y1_7
  go_wp2_with fail
  refine (eqIntS_same _ _ n1 n1 _ _ _ _ v1_7.has y1_7.has (by omega)).mono ?_
  rintro e w8 ⟨rfl, b8⟩
  have s8 := b8.size
  have B8 := B7.trans (b8.mono (by omega))
  have a1_8 := a1_7.below b8
  have a2_8 := a2_7.below b8
  have v1_8 := v1_7.below b8
  have v2_8 := v2_7.below b8
  have y1_8 := y1_7.below b8
  clear b8 B7 a1_7 a2_7 v1_7 v2_7 y1_7
  go_wp2_with fail
  refine (toIntS_any A2 n2 c2 zs2 _ a2_8 (by omega)).mono ?_
  rintro e w9 ⟨X_y2, rfl, y2_9, b9⟩
  have s9 := b9.size
  have B9 := B8.trans (b9.mono (by omega))
  have a1_9 := a1_8.below b9
  have a2_9 := a2_8.below b9
  have v1_9 := v1_8.below b9
  have v2_9 := v2_8.below b9
  clear b9 B8 a1_8 a2_8 v1_8 v2_8
  have y2_b := y2_9
  go_wp2_with fail
  refine (eqIntS_same _ _ n2 n2 _ _ _ _ v2_9.has y2_9.has (by omega)).mono ?_
  rintro e w10 ⟨rfl, b10⟩
  have s10 := b10.size
  have B10 := B9.trans (b10.mono (by omega))
  have a1_10 := a1_9.below b10
  have a2_10 := a2_9.below b10
  have v1_10 := v1_9.below b10
  have v2_10 := v2_9.below b10
  have y2_10 := y2_9.below b10
  clear b10 B9 a1_9 a2_9 v1_9 v2_9 y2_9
  go_wp2_with fail
  go_ret
  exact ⟨rfl, B10⟩

set_option maxRecDepth 100000 in
theorem lifted (os : Os) (started : os.Started) (H : Type) (enc : TypeId × Value → H) :
    ReturnsInHanded {} Try.checked os 11 .any (Rows.fnExactInterpolateAtSpec.pre6 enc Try.prog Try.f11 Rows.fnExactInterpolateAtRow.domain false) (Rows.fnExactInterpolateAtSpec.post enc Try.prog Try.f11 false true false false) := by
  refine returnsInHanded_of_change (C := Try.checked) own started (by kernel_rfl) Try.func11
    (ChangeSpec.witness6 (enc := enc) (C := Try.checked) false ⟨#[], #[.int .i64 0, .slice none 0 0, .slice none 0 0, .int .i64 0], []⟩ 8 (by kernel_rfl) (by kernel_rfl) (by kernel_rfl) (by kernel_rfl)) ?_
  intro W base args ds gs before hval0 hW hcnd _
  have hval : ∀ (j : Nat) t v, Try.f11.params[j]? = some t → args[j]? = some v → Value.okWide Try.prog W .any base t v := hval0
  have hW' := hW
  obtain ⟨p, q, hA0, hV, rfl, hfz, hnd⟩ := hW
  have hA : DataW.TrodAll enc Try.prog W 0 (fun _ => true) true Try.f11.params.toList args.toList ds p := hA0
  rw [Try.params11] at hA hval
  obtain ⟨v0, vs0, d0, ds0, p0, q0, hargs, rfl, rfl, h0, r0⟩ := trodAll_cons hA
  obtain ⟨v1, vs1, d1, ds1, p1, q1, hargs1, rfl, rfl, h1, r1⟩ := trodAll_cons r0
  obtain ⟨v2, vs2, d2, ds2, p2, q2, hargs2, rfl, rfl, h2, r2⟩ := trodAll_cons r1
  obtain ⟨v3, vs3, d3, ds3, p3, q3, hargs3, rfl, rfl, h3, r3⟩ := trodAll_cons r2
  obtain ⟨rfl, rfl, rfl⟩ := trodAll_nil r3
  obtain rfl : args = #[v0, v1, v2, v3] := by cases args; simp_all
  obtain ⟨rfl, rfl⟩ := trodVars_none hV
  clear hA0 hval0
  obtain ⟨x0, rfl, rfl, rfl, wx0⟩ := open_int Try.underlying3 (hval 0 _ v0 rfl rfl) h0
  have hlt1 : ∀ x ∈ p1, x.block < W.heap.size := fun x hx => by simpa using hW'.lt x (by simp [hx])
  obtain ⟨a1, n1, c1, zs1, rfl, g1, wf1⟩ := openInts (hval 1 _ v1 rfl rfl) h1
  have hlt2 : ∀ x ∈ p2, x.block < W.heap.size := fun x hx => by simpa using hW'.lt x (by simp [hx])
  obtain ⟨a2, n2, c2, zs2, rfl, g2, wf2⟩ := openInts (hval 2 _ v2 rfl rfl) h2
  obtain ⟨x3, rfl, rfl, rfl, wx3⟩ := open_int Try.underlying3 (hval 3 _ v3 rfl rfl) h3
  simp only [List.append_nil] at hW'
  refine (walk x0 a1 n1 c1 zs1 a2 n2 c2 zs2 x3 W (I64.of wx0) g1 g2 (I64.of wx3)).mono fun e W' ⟨he, hb⟩ => ?_
  subst he
  exact ⟨_, rfl, lawPost (pa := [] ++ (p1 ++ (p2 ++ ([])))) (pv := []) hW' (fun _ _ _ => trodAll_mk1 (shut_bool Try.underlying4 _)) (trodAll_mk4 (shut_int Try.underlying3 wx0) (Below.trod laidOut (by kernel_rfl) (of_decide_eq_true (by kernel_rfl)) h1 hb hlt1) (Below.trod laidOut (by kernel_rfl) (of_decide_eq_true (by kernel_rfl)) h2 hb hlt2) (shut_int Try.underlying3 wx3)) rfl (by simp) hb⟩

theorem proved : Rows.FnExactInterpolateAtSaid :=
  OpenClaim.holds_of_wide 11 Try.f11 rfl rfl rfl rfl rfl rfl rfl ⟨rfl, rfl, rfl, rfl, rfl⟩ rfl rfl rfl rfl rfl (by kernel_rfl) Try.func11 (by kernel_rfl)
    (of_decide_eq_true (by kernel_rfl)) (by unfold Func.isWrapper; first | (rw [if_pos (by decide +kernel)]; kernel_rfl) | (rw [if_neg (by decide +kernel)]; exact ⟨rfl, rfl⟩))
    (fun os started H enc _ => lifted os started H enc)

end Go.Proofs.Ytnimlhibpakcdaa.lawInterpolateAt
