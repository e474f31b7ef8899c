/- The exact law of SortsAll: for every input that the row allows, the program and the model answer the same, the arguments are left as they were, and the answer owns its memory. -/
import Derived.Test.YteiibneaihdmbaaHelp
import Derived.Test.YteiibneaihdmbaaClose
import Derived.Test.YteiibneaihdmbaaSo1
import Derived.Test.YteiibneaihdmbaaSoG3
import Derived.Test.YteiibneaihdmbaaSoI5
namespace Go.Proofs.Yteiibneaihdmbaa.lawSortsAll
open Go.ChangeShapes Go.WideShapes Go.ChangeAt Go.RowKit
set_option maxRecDepth 100000

set_option maxHeartbeats 1000000 in
theorem walk (x0 : Int) (A1 : Option Addr) (n1 c1 : Nat) (l1 : List St) (W : World) (hx0 : I64 x0) (a1_0 : HasT W A1 n1 l1) (mx1 : n1 ≤ maxLen) :
    Calls Try.prog 7 #[.int .i64 x0, .slice A1 n1 c1] W fun e W' => e = .returned (.bool true) ∧ Below W.heap.size W W' := by
  obtain ⟨r, hm⟩ : ∃ r, m_SortsAll x0 l1 = r := ⟨_, rfl⟩
  obtain ⟨rb0, rb1⟩ := r
  have HM := Lib.hid hm
  clear hm
  have B0 : Below W.heap.size W W := Below.refl _ _
  have s0 : W.heap.size ≤ W.heap.size := Nat.le_refl _
  have old_a1 := a1_0.old
  go_enter Try.func7, Try.ntmps7
  go_wp2_with fail
  refine (szStepS_any A1 n1 c1 1048576 W (by omega) (by omega) (by unfold maxLen at mx1; omega)).mono ?_
  rintro e w' ⟨rfl, rfl⟩
  by_cases hn1 : 1048576 < n1
  · rw [if_pos (by omega)]
    go_wp2_with fail
    go_ret
    exact ⟨rfl, B0⟩
  rw [if_neg (by omega)]
  go_wp2_with fail
  refine (toStepS_any A1 n1 c1 l1 _ a1_0 (by omega)).mono ?_
  rintro e w1 ⟨X_u1, rfl, u1_1, b1⟩
  have s1 := b1.size
  have B1 := B0.trans (b1.mono (by omega))
  have a1_1 := a1_0.below b1
  clear b1 B0 a1_0
  have u1_b := u1_1
  go_wp2_with fail
  refine (spec_SortsAll x0 X_u1 n1 n1 l1 rb0 rb1 _ hx0 u1_1.has (by omega) u1_1.nilOk HM.out).mono ?_
  rintro e w2 ⟨rfl, b2⟩
  have s2 := b2.size
  have B2 := B1.trans (b2.mono (by omega))
  have a1_2 := a1_1.below b2
  have u1_2 := u1_1.below b2
  clear b2 B1 a1_1 u1_1
  go_wp2_with fail
  refine (toStepS_any A1 n1 c1 l1 _ a1_2 (by omega)).mono ?_
  rintro e w3 ⟨X_v1, rfl, v1_3, b3⟩
  have s3 := b3.size
  have B3 := B2.trans (b3.mono (by omega))
  have a1_3 := a1_2.below b3
  clear b3 B2 a1_2
  have v1_b := v1_3
  go_wp2_with fail
  refine (impl_SortsAll x0 X_v1 n1 n1 l1 rb0 rb1 _ hx0 v1_3.has (by omega) v1_3.nilOk HM.out).mono ?_
  rintro e w4 ⟨rfl, b4⟩
  have s4 := b4.size
  have B4 := B3.trans (b4.mono (by omega))
  have a1_4 := a1_3.below b4
  have v1_4 := v1_3.below b4
  clear b4 B3 a1_3 v1_3
  go_wp2_with fail
  refine (toStepS_any A1 n1 c1 l1 _ a1_4 (by omega)).mono ?_
  rintro e w5 ⟨X_y1, rfl, y1_5, b5⟩
  have s5 := b5.size
  have B5 := B4.trans (b5.mono (by omega))
  have a1_5 := a1_4.below b5
  have v1_5 := v1_4.below b5
  clear b5 B4 a1_4 v1_4
  have y1_b := y1_5
  go_wp2_with fail
  refine (eqStepS_same _ _ n1 n1 _ _ _ _ v1_5.has y1_5.has (by omega)).mono ?_
  rintro e w6 ⟨rfl, b6⟩
  have s6 := b6.size
  have B6 := B5.trans (b6.mono (by omega))
  have a1_6 := a1_5.below b6
  have v1_6 := v1_5.below b6
  have y1_6 := y1_5.below b6
  clear b6 B5 a1_5 v1_5 y1_5
  go_wp2_with fail
  go_ret
  exact ⟨rfl, B6⟩

set_option maxRecDepth 100000 in
theorem lifted (os : Os) (started : os.Started) (H : Type) (enc : TypeId × Value → H) :
    ReturnsInHanded {} Try.checked os 7 .any (Rows.fnExactSortsAllSpec.pre6 enc Try.prog Try.f7 Rows.fnExactSortsAllRow.domain false) (Rows.fnExactSortsAllSpec.post enc Try.prog Try.f7 false true false false) := by
  refine returnsInHanded_of_change (C := Try.checked) own started (by kernel_rfl) Try.func7
    (ChangeSpec.witness6 (enc := enc) (C := Try.checked) false ⟨#[], #[.int .i64 0, .slice none 0 0], []⟩ 8 (by kernel_rfl) (by kernel_rfl) (by kernel_rfl) (by kernel_rfl)) ?_
  intro W base args ds gs before hval0 hW hcnd _
  have hval : ∀ (j : Nat) t v, Try.f7.params[j]? = some t → args[j]? = some v → Value.okWide Try.prog W .any base t v := hval0
  have hW' := hW
  obtain ⟨p, q, hA0, hV, rfl, hfz, hnd⟩ := hW
  have hA : DataW.TrodAll enc Try.prog W 0 (fun _ => true) true Try.f7.params.toList args.toList ds p := hA0
  rw [Try.params7] at hA hval
  obtain ⟨v0, vs0, d0, ds0, p0, q0, hargs, rfl, rfl, h0, r0⟩ := trodAll_cons hA
  obtain ⟨v1, vs1, d1, ds1, p1, q1, hargs1, rfl, rfl, h1, r1⟩ := trodAll_cons r0
  obtain ⟨rfl, rfl, rfl⟩ := trodAll_nil r1
  obtain rfl : args = #[v0, v1] := by cases args; simp_all
  obtain ⟨rfl, rfl⟩ := trodVars_none hV
  clear hA0 hval0
  obtain ⟨x0, rfl, rfl, rfl, wx0⟩ := open_int Try.underlying3 (hval 0 _ v0 rfl rfl) h0
  have hlt1 : ∀ x ∈ p1, x.block < W.heap.size := fun x hx => by simpa using hW'.lt x (by simp [hx])
  obtain ⟨a1, n1, c1, l1, rfl, g1, mx1, _, _, _⟩ := openSteps (hval 1 _ v1 rfl rfl) h1
  simp only [List.append_nil] at hW'
  refine (walk x0 a1 n1 c1 l1 W (I64.of wx0) g1 mx1).mono fun e W' ⟨he, hb⟩ => ?_
  subst he
  exact ⟨_, rfl, lawPost (pa := [] ++ (p1)) (pv := []) hW' (fun _ _ _ => trodAll_mk1 (shut_bool Try.underlying4 _)) (trodAll_mk2 (shut_int Try.underlying3 wx0) (Below.trod laidOut (by kernel_rfl) (of_decide_eq_true (by kernel_rfl)) h1 hb hlt1)) rfl (by simp) hb⟩

theorem proved : Rows.FnExactSortsAllSaid :=
  OpenClaim.holds_of_wide 7 Try.f7 rfl rfl rfl rfl rfl rfl rfl ⟨rfl, rfl, rfl, rfl, rfl⟩ rfl rfl rfl rfl rfl (by kernel_rfl) Try.func7 (by kernel_rfl)
    (of_decide_eq_true (by kernel_rfl)) (by unfold Func.isWrapper; first | (rw [if_pos (by decide +kernel)]; kernel_rfl) | (rw [if_neg (by decide +kernel)]; exact ⟨rfl, rfl⟩))
    (fun os started H enc _ => lifted os started H enc)

end Go.Proofs.Yteiibneaihdmbaa.lawSortsAll
