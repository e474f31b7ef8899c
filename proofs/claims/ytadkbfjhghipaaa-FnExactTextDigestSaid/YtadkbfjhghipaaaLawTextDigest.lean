/- The exact law of TextDigest: for every input the program's function and the model's answer alike, and the argument reads as it did. -/
import Derived.Test.YtadkbfjhghipaaaHelp
import Derived.Test.YtadkbfjhghipaaaClose
import Derived.Test.YtadkbfjhghipaaaDg10
namespace Go.Proofs.Ytadkbfjhghipaaa.lawTextDigest
open Go.ChangeShapes Go.WideShapes Go.ChangeAt Go.RowKit
open Go.ChangeMaps (open_string shut_string)

set_option maxHeartbeats 1000000 in
theorem walk (st0 : ByteArray) (W : World) (_hst0 : st0.size ≤ maxLen) :
    Calls Try.prog 3 #[.string st0] W fun e W' => e = .returned (.bool true) ∧ Below W.heap.size W W' := by
  by_cases hn0 : 1048576 < st0.size
  · go_enter Try.func3, Try.ntmps3
    go_wp2_with fail
    go_ret
    exact ⟨rfl, Below.refl _ _⟩
  obtain ⟨r, hm⟩ : ∃ r, m_TextDigest st0 = r := ⟨_, rfl⟩
  have HM := Lib.hid hm
  clear hm
  have B0 : Below W.heap.size W W := Below.refl _ _
  have s0 : W.heap.size ≤ W.heap.size := Nat.le_refl _
  go_enter Try.func3, Try.ntmps3
  go_wp2_with fail
  refine (spec_TextDigest st0 r _ (by omega) HM.out).mono ?_
  rintro e w1 ⟨rfl, b1⟩
  have s1 := b1.size
  have B1 := B0.trans (b1.mono (by omega))
  clear b1 B0 
  go_wp2_with fail
  refine (impl_TextDigest st0 r _ (by omega) HM.out).mono ?_
  rintro e w2 ⟨rfl, b2⟩
  have s2 := b2.size
  have B2 := B1.trans (b2.mono (by omega))
  clear b2 B1 
  go_wp2_with fail
  go_ret
  exact ⟨rfl, B2⟩

set_option maxRecDepth 100000 in
theorem lifted (os : Os) (started : os.Started) (H : Type) (enc : TypeId × Value → H) :
    ReturnsInHanded {} Try.checked os 3 .any (Rows.fnExactTextDigestSpec.pre6 enc Try.prog Try.f3 Rows.fnExactTextDigestRow.domain false) (Rows.fnExactTextDigestSpec.post enc Try.prog Try.f3 false true false false) := by
  refine returnsInHanded_of_change (C := Try.checked) own started (by kernel_rfl) Try.func3
    (ChangeSpec.witness6 (enc := enc) (C := Try.checked) false ⟨#[], #[.string .empty], []⟩ 8 (by kernel_rfl) (by kernel_rfl) (by kernel_rfl) (by kernel_rfl)) ?_
  intro W base args ds gs before hval0 hW hcnd _
  have hval : ∀ (j : Nat) t v, Try.f3.params[j]? = some t → args[j]? = some v → Value.okWide Try.prog W .any base t v := hval0
  have hW' := hW
  obtain ⟨p, q, hA0, hV, rfl, hfz, hnd⟩ := hW
  have hA : DataW.TrodAll enc Try.prog W 0 (fun _ => true) true Try.f3.params.toList args.toList ds p := hA0
  rw [Try.params3] at hA hval
  obtain ⟨v0, vs0, d0, ds0, p0, q0, hargs, rfl, rfl, h0, r0⟩ := trodAll_cons hA
  obtain ⟨rfl, rfl, rfl⟩ := trodAll_nil r0
  obtain rfl : args = #[v0] := by cases args; simp_all
  obtain ⟨rfl, rfl⟩ := trodVars_none hV
  clear hA0 hval0
  obtain ⟨s0, rfl, rfl, rfl, ws0⟩ := open_string Try.underlying9 (hval 0 _ v0 rfl rfl) h0
  simp only [List.append_nil] at hW'
  refine (walk s0 W ws0).mono fun e W' ⟨he, hb⟩ => ?_
  subst he
  exact ⟨_, rfl, lawPost (pa := []) (pv := []) hW' (fun _ _ _ => trodAll_mk1 (shut_bool Try.underlying4 _)) (trodAll_mk1 (shut_string Try.underlying9 ws0)) rfl (by simp) hb⟩

theorem proved : Rows.FnExactTextDigestSaid :=
  OpenClaim.holds_of_wide 3 Try.f3 rfl rfl rfl rfl rfl rfl rfl ⟨rfl, rfl, rfl, rfl, rfl⟩ rfl rfl rfl rfl rfl (by kernel_rfl) Try.func3 (by kernel_rfl)
    (of_decide_eq_true (by kernel_rfl)) (by unfold Func.isWrapper; first | (rw [if_pos (by decide +kernel)]; kernel_rfl) | (rw [if_neg (by decide +kernel)]; exact ⟨rfl, rfl⟩))
    (fun os started H enc _ => lifted os started H enc)

end Go.Proofs.Ytadkbfjhghipaaa.lawTextDigest
