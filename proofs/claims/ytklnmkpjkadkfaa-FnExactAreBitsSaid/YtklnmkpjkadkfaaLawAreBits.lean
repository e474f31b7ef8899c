/- The exact law of AreBits: for every list of integers the program's AreBits answers as the model's does, and leaves its argument as it was. -/
import Derived.Test.YtklnmkpjkadkfaaClose
import Derived.Test.YtklnmkpjkadkfaaBits1
namespace Go.Proofs.Ytklnmkpjkadkfaa.lawAreBits
open Go.ChangeShapes Go.WideShapes Go.ChangeAt Go.RowKit

set_option maxHeartbeats 400000 in
theorem walk (A : Option Addr) (n c : Nat) (zs : List Int) (W : World) (h : Has W A n zs) :
    Calls Try.prog 3 #[.slice A n c] W fun e W' => e = .returned (.bool true) ∧ Below W.heap.size W W' := by
  by_cases hn : 1048576 < n
  · go_enter Try.func3, Try.ntmps3
    go_wp2_with fail
    go_ret
    exact ⟨rfl, Below.refl _ _⟩
  · obtain ⟨b, hb⟩ : ∃ b, good 64 zs = b := ⟨_, rfl⟩
    have HB := Lib.hid hb
    clear hb
    go_enter Try.func3, Try.ntmps3
    go_wp2_with fail
    refine (toIntS_any A n c zs _ h (by omega)).mono ?_
    rintro e w1 ⟨A1, rfl, o1, b1⟩
    go_wp2_with fail
    refine (specAreBits A1 n n zs b _ o1.has (by omega) HB.out).mono ?_
    rintro e w2 ⟨rfl, rfl⟩
    have h1 := h.below b1
    go_wp2_with fail
    refine (toIntS_any A n c zs _ h1 (by omega)).mono ?_
    rintro e w3 ⟨A3, rfl, o3, b3⟩
    go_wp2_with fail
    refine (implAreBits A3 n n zs b _ o3.has (by omega) HB.out).mono ?_
    rintro e w4 ⟨rfl, rfl⟩
    have h3 := h1.below b3
    go_wp2_with fail
    refine (toIntS_any A n c zs _ h3 (by omega)).mono ?_
    rintro e w5 ⟨A5, rfl, o5, b5⟩
    go_wp2_with fail
    refine (eqIntS_same A3 A5 n n n zs _ (o3.below b5).has o5.has (by omega)).mono ?_
    rintro e w6 ⟨rfl, b6⟩
    go_wp2_with fail
    go_ret
    exact ⟨rfl, b1.trans ((b3.mono b1.size).trans ((b5.mono (Nat.le_trans b1.size b3.size)).trans (b6.mono (Nat.le_trans b1.size (Nat.le_trans b3.size b5.size)))))⟩

set_option maxRecDepth 100000 in
theorem lifted (os : Os) (started : os.Started) (H : Type) (enc : TypeId × Value → H) :
    ReturnsInHanded {} Try.checked os 3 .any (Rows.fnExactAreBitsSpec.pre6 enc Try.prog Try.f3 Rows.fnExactAreBitsRow.domain false) (Rows.fnExactAreBitsSpec.post enc Try.prog Try.f3 false true false false) := by
  refine returnsInHanded_of_change (C := Try.checked) own started (by kernel_rfl) Try.func3
    (ChangeSpec.witness6 (enc := enc) (C := Try.checked) false ⟨#[], #[.slice none 0 0], []⟩ 8 (by kernel_rfl) (by kernel_rfl) (by kernel_rfl) (by kernel_rfl)) ?_
  intro W base args ds gs before hval0 hW hcnd _
  have hval : ∀ (j : Nat) t v, Try.f3.params[j]? = some t → args[j]? = some v → Value.okWide Try.prog W .any base t v := hval0
  have hW' := hW
  obtain ⟨p, q, hA0, hV, rfl, hfz, hnd⟩ := hW
  have hA : DataW.TrodAll enc Try.prog W 0 (fun _ => true) true Try.f3.params.toList args.toList ds p := hA0
  rw [Try.params3] at hA hval
  obtain ⟨v0, vs0, d0, ds0, p0, q0, hargs, rfl, rfl, h0, r0⟩ := trodAll_cons hA
  obtain ⟨rfl, rfl, rfl⟩ := trodAll_nil r0
  obtain rfl : args = #[v0] := by cases args; simp_all
  obtain ⟨rfl, rfl⟩ := trodVars_none hV
  clear hA0 hval0
  simp only [List.append_nil] at hW'
  have hlt : ∀ x ∈ p0, x.block < W.heap.size := fun x hx => by simpa using hW'.lt x (by simp [hx])
  obtain ⟨a0, n0, c0, zs0, rfl, g0, _⟩ := openInts (hval 0 _ v0 rfl rfl) h0
  refine (walk a0 n0 c0 zs0 W g0).mono fun e W' ⟨he, hb⟩ => ?_
  subst he
  exact ⟨_, rfl, lawPost (pa := p0) (pv := []) hW' (fun _ _ _ => trodAll_mk1 (shut_bool Try.underlying4 _)) (trodAll_mk1 (Below.trod laidOut (by kernel_rfl) (of_decide_eq_true (by kernel_rfl)) h0 hb hlt)) rfl (by simp) hb⟩

theorem proved : Rows.FnExactAreBitsSaid :=
  OpenClaim.holds_of_wide 3 Try.f3 rfl rfl rfl rfl rfl rfl rfl ⟨rfl, rfl, rfl, rfl, rfl⟩ rfl rfl rfl rfl rfl (by kernel_rfl) Try.func3 (by kernel_rfl)
    (of_decide_eq_true (by kernel_rfl)) (by unfold Func.isWrapper; first | (rw [if_pos (by decide +kernel)]; kernel_rfl) | (rw [if_neg (by decide +kernel)]; exact ⟨rfl, rfl⟩))
    (fun os started H enc _ => lifted os started H enc)

end Go.Proofs.Ytklnmkpjkadkfaa.lawAreBits
