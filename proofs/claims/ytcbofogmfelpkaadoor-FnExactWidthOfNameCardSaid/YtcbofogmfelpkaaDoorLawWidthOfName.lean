/- The exact law of WidthOfName: for every list of lines and name that the row allows, the program and the model answer the same, and the argument is left as it was. The forms of the lines and the words of the operations are as start-up lays them. -/
import Derived.Test.YtcbofogmfelpkaaDoorHelp
import Derived.Test.YtcbofogmfelpkaaDoorClose
import Derived.Test.YtcbofogmfelpkaaDoorLn8
import Derived.Test.YtcbofogmfelpkaaDoorLnO
import Derived.Test.YtcbofogmfelpkaaDoorLnF2
import Derived.Test.YtcbofogmfelpkaaDoorLaid4
import Derived.Test.YtcbofogmfelpkaaDoorCards
import Derived.Test.YtcbofogmfelpkaaDoorTie
import Derived.Lay
namespace Go.Proofs.YtcbofogmfelpkaaDoor.lawWidthOfName
open Go.ChangeShapes Go.WideShapes Go.ChangeAt Go.RowKit
set_option maxRecDepth 100000
open Go.ChangeMaps (open_string shut_string)

set_option maxRecDepth 100000 in
set_option maxHeartbeats 4000000 in
theorem walk (A0 : Option Addr) (n0 c0 : Nat) (ls0 : List Ln) (st1 : ByteArray) (W : World) (a0_0 : HasL W A0 n0 ls0) (hx0 : n0 ≤ maxLen) (wz0 : ∀ j, j < n0 → BigL (lnAt ls0 j)) (_hst1 : st1.size ≤ maxLen) (hF0 : Forms W) (hW0 : OpWords W) :
    Calls Tryd.prog 4 #[.slice A0 n0 c0, .string st1] W fun e W' => e = .returned (.bool true) ∧ Below W.heap.size W W' := by
  have HA0 := Lib.hid a0_0
  have HWz0 := Lib.hid wz0
  clear a0_0 wz0
  have HT0 := Lib.hid hF0
  clear hF0
  have HT1 := Lib.hid hW0
  clear hW0
  have B0 : Below W.heap.size W W := Below.refl _ _
  have s0 : W.heap.size ≤ W.heap.size := Nat.le_refl _
  by_cases hn1 : 1048576 < st1.size
  · go_enter Tryd.func4, Tryd.ntmps4
    go_wp2_with fail
    go_ret
    exact ⟨rfl, B0⟩
  obtain ⟨r, hm⟩ : ∃ r, m_WidthOfName ls0 st1 = r := ⟨_, rfl⟩
  obtain ⟨ry0, rb1⟩ := r
  have HM := Lib.hid hm
  clear hm
  go_enter Tryd.func4, Tryd.ntmps4
  go_wp2_with fail
  refine (szLineS_any A0 n0 c0 ls0 1048576 W (HA0.out.below B0) (by omega) (by omega) hx0 HWz0.out).mono ?_
  rintro e w1 ⟨l0, rfl, la0, lb0, lf0, b1⟩
  have s1 := b1.size
  have B1 := B0.trans (b1.mono (by omega))
  clear b1 B0 
  by_cases hneg0 : l0 < 0
  · go_wp2_with fail
    go_ret
    exact ⟨rfl, B1⟩
  have HF0 : Hid (n0 + partsTo ls0 n0 ≤ 1048576 ∧ ∀ j, j < n0 → FitL (lnAt ls0 j)) := lf0.out (by omega)
  have hn0 : n0 ≤ 1048576 := by have := HF0.out.1; omega
  clear lf0 la0 lb0
  go_wp2_with fail
  refine (toLineS_any A0 n0 c0 ls0 _ (HA0.out.below B1) hn0 HF0.out.2).mono ?_
  rintro e w2 ⟨X_sp_u0, F_sp_u0, rfl, sp_u0_2, b2⟩
  have s2 := b2.size
  have B2 := B1.trans (b2.mono (by omega))
  clear b2 B1 
  have ob_sp_u0 := sp_u0_2
  go_wp2_with fail
  refine (spec_WidthOfName X_sp_u0 n0 n0 ls0 st1 ry0 rb1 w2 sp_u0_2.has hn0 (Nat.le_refl _) HF0.out.2 (by omega) HM.out).mono ?_
  rintro e w3 ⟨rfl, b3⟩
  have s3 := b3.size
  have B3 := B2.trans (b3.mono (by omega))
  have sp_u0_3 := sp_u0_2.below b3
  clear b3 B2 sp_u0_2
  clear sp_u0_3
  go_wp2_with fail
  refine (toLineS_any A0 n0 c0 ls0 _ (HA0.out.below B3) hn0 HF0.out.2).mono ?_
  rintro e w4 ⟨X_v0, F_v0, rfl, v0_4, b4⟩
  have s4 := b4.size
  have B4 := B3.trans (b4.mono (by omega))
  clear b4 B3 
  have ob_v0 := v0_4
  go_wp2_with fail
  refine (impl_WidthOfName X_v0 n0 n0 ls0 st1 ry0 rb1 w4 v0_4.has hn0 (Nat.le_refl _) HF0.out.2 (by omega) (HT0.out.below B4) (HT1.out.below B4) HM.out).mono ?_
  rintro e w5 ⟨rfl, b5⟩
  have s5 := b5.size
  have B5 := B4.trans (b5.mono (by omega))
  have v0_5 := v0_4.below b5
  clear b5 B4 v0_4
  go_wp2_with fail
  refine (toLineS_any A0 n0 c0 ls0 _ (HA0.out.below B5) hn0 HF0.out.2).mono ?_
  rintro e w6 ⟨X_y0, F_y0, rfl, y0_6, b6⟩
  have s6 := b6.size
  have B6 := B5.trans (b6.mono (by omega))
  have v0_6 := v0_5.below b6
  clear b6 B5 v0_5
  have ob_y0 := y0_6
  go_wp2_with fail
  refine (eqLineS_same _ _ n0 n0 _ _ _ _ v0_6.has y0_6.has hn0 (fun j hj => (HF0.out.2 j hj).plen)).mono ?_
  rintro e w7 ⟨rfl, b7⟩
  have s7 := b7.size
  have B7 := B6.trans (b7.mono (by omega))
  have v0_7 := v0_6.below b7
  have y0_7 := y0_6.below b7
  clear b7 B6 v0_6 y0_6
  clear y0_7
  go_wp2_with fail
  go_ret
  exact ⟨rfl, B7⟩

theorem lifted (os : Os) (started : os.Started) (H : Type) (enc : TypeId × Value → H) :
    ReturnsInHanded {} Tryd.checked os 4 .any (fun w args => (Rows.fnExactWidthOfNameSpec.pre enc Tryd.prog Tryd.f4 [] false w args ∧ laidMetH Tryd.prog Rows.fnExactWidthOfNameRow.laid w) ∧ sizedMet enc Tryd.prog Tryd.f4 (OpenSpec.ofChange Rows.fnExactWidthOfNameSpec) false w args) (Rows.fnExactWidthOfNameSpec.post enc Tryd.prog Tryd.f4 false true false false) := by
  refine Go.handedShaped (C := Tryd.checked) (X := fun w _ => laidMetH Tryd.prog Rows.fnExactWidthOfNameRow.laid w) (fun _ _ _ hh h => h.of_heap hh) own started (by kernel_rfl) Tryd.func4
    (ChangeSpec.witness_shaped (enc := enc) (C := Tryd.checked) (os := os) (X := fun w _ => laidMetH Tryd.prog Rows.fnExactWidthOfNameRow.laid w) false (World.laidAll Tryd.prog os Rows.fnExactWidthOfNameRow.laid) #[.slice none 0 0, .string .empty] 8 (World.laidAll_os _ _ _) (World.shaped_of_ZipB (by kernel_rfl) (by kernel_rfl)) (by kernel_rfl) (by kernel_rfl) (by kernel_rfl) (by rw [MakeChecks.laidMetH_plain _ _ _ (by kernel_rfl)]; exact laidMet_laidAll _ (by kernel_rfl) (by kernel_rfl))) ?_
  intro W base args ds gs before hval0 hW hL hsh
  have hval : ∀ (j : Nat) t v, Tryd.f4.params[j]? = some t → args[j]? = some v → Value.okWide Tryd.prog W .any base t v := hval0
  have hW' := hW
  obtain ⟨p, q, hA0, hV, rfl, hfz, hnd⟩ := hW
  have hA : DataW.TrodAll enc Tryd.prog W 0 (fun _ => true) true Tryd.f4.params.toList args.toList ds p := hA0
  rw [Tryd.params4] at hA hval
  obtain ⟨v0, vs0, d0, ds0, p0, q0, hargs, rfl, rfl, h0, r0⟩ := trodAll_cons hA
  obtain ⟨v1, vs1, d1, ds1, p1, q1, hargs1, rfl, rfl, h1, r1⟩ := trodAll_cons r0
  obtain ⟨rfl, rfl, rfl⟩ := trodAll_nil r1
  obtain rfl : args = #[v0, v1] := by cases args; simp_all
  have hT0 := laidLines (by kernel_rfl) (by kernel_rfl) hL
  have hVlt : ∀ x ∈ q, x.block < W.heap.size := fun x hx => by simpa using hW'.lt x (by simp [hx])
  have hagain : ∀ W', Below W.heap.size W W' → DataW.TrodVars enc Tryd.prog W' (fun b => decide (b < W.heap.size)) Rows.fnExactWidthOfNameSpec.vars gs q := fun W' hb => varsAgain laidOut hb (by kernel_rfl) hV hVlt
  obtain ⟨g0v, g1v, rfl⟩ := vars2 hV
  clear hA0 hval0
  have hlt0 : ∀ x ∈ p0, x.block < W.heap.size := fun x hx => by simpa using hW'.lt x (by simp [hx])
  obtain ⟨a0, n0, c0, ls0, rfl, g0, hm0, _, _, wf0⟩ := openLs (hval 0 _ v0 rfl rfl) h0
  obtain ⟨s1, rfl, rfl, rfl, ws1⟩ := open_string Tryd.underlying9 (hval 1 _ v1 rfl rfl) h1
  refine (walk a0 n0 c0 ls0 s1 W g0 hm0 wf0 ws1 hT0.1 hT0.2).mono fun e W' ⟨he, hb⟩ => ?_
  subst he
  exact ⟨_, rfl, lawPost (pa := p0 ++ ([])) (pv := q) hW' (fun _ _ _ => trodAll_mk1 (shut_bool Tryd.underlying4 _)) (trodAll_mk2 (Below.trod laidOut (by kernel_rfl) (of_decide_eq_true (by kernel_rfl)) h0 hb hlt0) (shut_string Tryd.underlying9 ws1)) (hagain W' hb) (by simp) hb⟩

theorem row_holds : Rows.FnExactWidthOfNameSaid :=
  OpenClaim.holds_of_wide 4 Tryd.f4 rfl rfl rfl rfl rfl rfl rfl ⟨rfl, rfl, rfl, rfl, rfl⟩ rfl rfl rfl rfl rfl (by kernel_rfl) Tryd.func4 (by kernel_rfl)
    (of_decide_eq_true (by kernel_rfl)) (by unfold Func.isWrapper; first | (rw [if_pos (by decide +kernel)]; kernel_rfl) | (rw [if_neg (by decide +kernel)]; exact ⟨rfl, rfl⟩))
    (fun os started H enc _ => lifted os started H enc)

theorem proved : Rows.FnExactWidthOfNameCardSaid :=
  Claim7.holds_tied_plain_at .later [] [.data, .data, .data, .pinned] true _ false row_holds (fun _ h => by cases h) (by kernel_rfl) (fun _ h => by cases h) fnExactWidthOfName_row_tie rfl ⟨rfl, rfl⟩ (by kernel_rfl) rfl
    (fun f fn hf hfn => by
      obtain rfl : f = 4 := (Option.some.inj ((show Tryd.prog.funcNamed Rows.fnExactWidthOfNameRow.func = some 4 by kernel_rfl).symm.trans hf)).symm
      obtain rfl : fn = Tryd.f4 := (Option.some.inj (Tryd.func4.symm.trans hfn)).symm
      exact ⟨by kernel_rfl, noStandIn (by kernel_rfl)⟩)
    (by kernel_rfl)

end Go.Proofs.YtcbofogmfelpkaaDoor.lawWidthOfName
