/- The exact law of ParityOf: for every input the program's function and the model's answer alike, and the argument reads as it did. -/
import Derived.Test.YtklnmkpjkadkfaaClose
import Derived.Test.YtklnmkpjkadkfaaBits3
namespace Go.Proofs.Ytklnmkpjkadkfaa.lawParityOf
open Go.ChangeShapes Go.WideShapes Go.ChangeAt Go.RowKit

set_option maxHeartbeats 1000000 in
theorem walk (A0 : Option Addr) (n0 c0 : Nat) (zs0 : List Int) (A1 : Option Addr) (n1 c1 : Nat) (zs1 : List Int) (W : World) (a0_0 : Has W A0 n0 zs0) (a1_0 : Has W A1 n1 zs1) :
    Calls Try.prog 10 #[.slice A0 n0 c0, .slice A1 n1 c1] W fun e W' => e = .returned (.bool true) ∧ Below W.heap.size W W' := by
  by_cases hn0 : 1048576 < n0
  · go_enter Try.func10, Try.ntmps10
    go_wp2_with fail
    go_ret
    exact ⟨rfl, Below.refl _ _⟩
  by_cases hn1 : 1048576 < n1
  · go_enter Try.func10, Try.ntmps10
    go_wp2_with fail
    go_ret
    exact ⟨rfl, Below.refl _ _⟩
  obtain ⟨r, hm⟩ : ∃ r, m_ParityOf zs0 zs1 = r := ⟨_, rfl⟩
  obtain ⟨ry0, rb1⟩ := r
  have HM := Lib.hid hm
  clear hm
  have B0 : Below W.heap.size W W := Below.refl _ _
  have s0 : W.heap.size ≤ W.heap.size := Nat.le_refl _
  have old_a0 := a0_0.old
  have old_a1 := a1_0.old
  go_enter Try.func10, Try.ntmps10
  go_wp2_with fail
  refine (toIntS_any A0 n0 c0 zs0 _ a0_0 (by omega)).mono ?_
  rintro e w1 ⟨X_u0, rfl, u0_1, b1⟩
  have s1 := b1.size
  have B1 := B0.trans (b1.mono (by omega))
  have a0_1 := a0_0.below b1
  have a1_1 := a1_0.below b1
  clear b1 B0 a0_0 a1_0
  have u0_b := u0_1
  go_wp2_with fail
  refine (toIntS_any A1 n1 c1 zs1 _ a1_1 (by omega)).mono ?_
  rintro e w2 ⟨X_u1, rfl, u1_2, b2⟩
  have s2 := b2.size
  have B2 := B1.trans (b2.mono (by omega))
  have a0_2 := a0_1.below b2
  have a1_2 := a1_1.below b2
  have u0_2 := u0_1.below b2
  clear b2 B1 a0_1 a1_1 u0_1
  have u1_b := u1_2
  go_wp2_with fail
  refine (spec_ParityOf X_u0 n0 n0 zs0 X_u1 n1 n1 zs1 ry0 rb1 _ u0_2.has (by omega) u1_2.has (by omega) HM.out).mono ?_
  rintro e w3 ⟨rfl, b3⟩
  have s3 := b3.size
  have B3 := B2.trans (b3.mono (by omega))
  have a0_3 := a0_2.below b3
  have a1_3 := a1_2.below b3
  have u0_3 := u0_2.below b3
  have u1_3 := u1_2.below b3
  clear b3 B2 a0_2 a1_2 u0_2 u1_2
  go_wp2_with fail
  refine (toIntS_any A0 n0 c0 zs0 _ a0_3 (by omega)).mono ?_
  rintro e w4 ⟨X_v0, rfl, v0_4, b4⟩
  have s4 := b4.size
  have B4 := B3.trans (b4.mono (by omega))
  have a0_4 := a0_3.below b4
  have a1_4 := a1_3.below b4
  clear b4 B3 a0_3 a1_3
  have v0_b := v0_4
  go_wp2_with fail
  refine (toIntS_any A1 n1 c1 zs1 _ a1_4 (by omega)).mono ?_
  rintro e w5 ⟨X_v1, rfl, v1_5, b5⟩
  have s5 := b5.size
  have B5 := B4.trans (b5.mono (by omega))
  have a0_5 := a0_4.below b5
  have a1_5 := a1_4.below b5
  have v0_5 := v0_4.below b5
  clear b5 B4 a0_4 a1_4 v0_4
  have v1_b := v1_5
  go_wp2_with fail
  refine (impl_ParityOf X_v0 n0 n0 zs0 X_v1 n1 n1 zs1 ry0 rb1 _ v0_5.has (by omega) v1_5.has (by omega) HM.out).mono ?_
  rintro e w6 ⟨rfl, b6⟩
  have s6 := b6.size
  have B6 := B5.trans (b6.mono (by omega))
  have a0_6 := a0_5.below b6
  have a1_6 := a1_5.below b6
  have v0_6 := v0_5.below b6
  have v1_6 := v1_5.below b6
  clear b6 B5 a0_5 a1_5 v0_5 v1_5
  go_wp2_with fail
  refine (toIntS_any A0 n0 c0 zs0 _ a0_6 (by omega)).mono ?_
  rintro e w7 ⟨X_y0, rfl, y0_7, b7⟩
  have s7 := b7.size
  have B7 := B6.trans (b7.mono (by omega))
  have a0_7 := a0_6.below b7
  have a1_7 := a1_6.below b7
  have v0_7 := v0_6.below b7
  have v1_7 := v1_6.below b7
  clear b7 B6 a0_6 a1_6 v0_6 v1_6
  have y0_b := y0_7
  go_wp2_with fail
  refine (eqIntS_same _ _ n0 n0 _ _ _ _ v0_7.has y0_7.has (by omega)).mono ?_
  rintro e w8 ⟨rfl, b8⟩
  have s8 := b8.size
  have B8 := B7.trans (b8.mono (by omega))
  have a0_8 := a0_7.below b8
  have a1_8 := a1_7.below b8
  have v0_8 := v0_7.below b8
  have v1_8 := v1_7.below b8
  have y0_8 := y0_7.below b8
  clear b8 B7 a0_7 a1_7 v0_7 v1_7 y0_7
  go_wp2_with fail
  refine (toIntS_any A1 n1 c1 zs1 _ a1_8 (by omega)).mono ?_
  rintro e w9 ⟨X_y1, rfl, y1_9, b9⟩
  have s9 := b9.size
  have B9 := B8.trans (b9.mono (by omega))
  have a0_9 := a0_8.below b9
  have a1_9 := a1_8.below b9
  have v0_9 := v0_8.below b9
  have v1_9 := v1_8.below b9
  clear b9 B8 a0_8 a1_8 v0_8 v1_8
  have y1_b := y1_9
  go_wp2_with fail
  refine (eqIntS_same _ _ n1 n1 _ _ _ _ v1_9.has y1_9.has (by omega)).mono ?_
  rintro e w10 ⟨rfl, b10⟩
  have s10 := b10.size
  have B10 := B9.trans (b10.mono (by omega))
  have a0_10 := a0_9.below b10
  have a1_10 := a1_9.below b10
  have v0_10 := v0_9.below b10
  have v1_10 := v1_9.below b10
  have y1_10 := y1_9.below b10
  clear b10 B9 a0_9 a1_9 v0_9 v1_9 y1_9
  go_wp2_with fail
  go_ret
  exact ⟨rfl, B10⟩

set_option maxRecDepth 100000 in
theorem lifted (os : Os) (started : os.Started) (H : Type) (enc : TypeId × Value → H) :
    ReturnsInHanded {} Try.checked os 10 .any (Rows.fnExactParityOfSpec.pre6 enc Try.prog Try.f10 Rows.fnExactParityOfRow.domain false) (Rows.fnExactParityOfSpec.post enc Try.prog Try.f10 false true false false) := by
  refine returnsInHanded_of_change (C := Try.checked) own started (by kernel_rfl) Try.func10
    (ChangeSpec.witness6 (enc := enc) (C := Try.checked) false ⟨#[], #[.slice none 0 0, .slice none 0 0], []⟩ 8 (by kernel_rfl) (by kernel_rfl) (by kernel_rfl) (by kernel_rfl)) ?_
  intro W base args ds gs before hval0 hW hcnd _
  have hval : ∀ (j : Nat) t v, Try.f10.params[j]? = some t → args[j]? = some v → Value.okWide Try.prog W .any base t v := hval0
  have hW' := hW
  obtain ⟨p, q, hA0, hV, rfl, hfz, hnd⟩ := hW
  have hA : DataW.TrodAll enc Try.prog W 0 (fun _ => true) true Try.f10.params.toList args.toList ds p := hA0
  rw [Try.params10] at hA hval
  obtain ⟨v0, vs0, d0, ds0, p0, q0, hargs, rfl, rfl, h0, r0⟩ := trodAll_cons hA
  obtain ⟨v1, vs1, d1, ds1, p1, q1, hargs1, rfl, rfl, h1, r1⟩ := trodAll_cons r0
  obtain ⟨rfl, rfl, rfl⟩ := trodAll_nil r1
  obtain rfl : args = #[v0, v1] := by cases args; simp_all
  obtain ⟨rfl, rfl⟩ := trodVars_none hV
  clear hA0 hval0
  have hlt0 : ∀ x ∈ p0, x.block < W.heap.size := fun x hx => by simpa using hW'.lt x (by simp [hx])
  obtain ⟨a0, n0, c0, zs0, rfl, g0, wf0⟩ := openInts (hval 0 _ v0 rfl rfl) h0
  have hlt1 : ∀ x ∈ p1, x.block < W.heap.size := fun x hx => by simpa using hW'.lt x (by simp [hx])
  obtain ⟨a1, n1, c1, zs1, rfl, g1, wf1⟩ := openInts (hval 1 _ v1 rfl rfl) h1
  simp only [List.append_nil] at hW'
  refine (walk a0 n0 c0 zs0 a1 n1 c1 zs1 W g0 g1).mono fun e W' ⟨he, hb⟩ => ?_
  subst he
  exact ⟨_, rfl, lawPost (pa := p0 ++ (p1)) (pv := []) hW' (fun _ _ _ => trodAll_mk1 (shut_bool Try.underlying4 _)) (trodAll_mk2 (Below.trod laidOut (by kernel_rfl) (of_decide_eq_true (by kernel_rfl)) h0 hb hlt0) (Below.trod laidOut (by kernel_rfl) (of_decide_eq_true (by kernel_rfl)) h1 hb hlt1)) rfl (by simp) hb⟩

theorem proved : Rows.FnExactParityOfSaid :=
  OpenClaim.holds_of_wide 10 Try.f10 rfl rfl rfl rfl rfl rfl rfl ⟨rfl, rfl, rfl, rfl, rfl⟩ rfl rfl rfl rfl rfl (by kernel_rfl) Try.func10 (by kernel_rfl)
    (of_decide_eq_true (by kernel_rfl)) (by unfold Func.isWrapper; first | (rw [if_pos (by decide +kernel)]; kernel_rfl) | (rw [if_neg (by decide +kernel)]; exact ⟨rfl, rfl⟩))
    (fun os started H enc _ => lifted os started H enc)

end Go.Proofs.Ytklnmkpjkadkfaa.lawParityOf
