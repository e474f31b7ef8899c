/- The exact law of OnesOf: for every circuit and number that the row allows, the program and the model answer the same, and the argument is left as it was. -/
import Derived.Test.YtnelcbjegbchkaaHelp
import Derived.Test.YtnelcbjegbchkaaClose
import Derived.Test.YtnelcbjegbchkaaCirAll
import Derived.Test.YtnelcbjegbchkaaSiG5
import Derived.Test.YtnelcbjegbchkaaSiI3
import Derived.Deep.RegionHeld3
namespace Go.Proofs.Ytnelcbjegbchkaa.lawOnesOf
open Go.ChangeShapes Go.WideShapes Go.ChangeAt Go.RowKit
set_option maxRecDepth 100000

set_option maxRecDepth 100000 in
set_option maxHeartbeats 2000000 in
theorem walk (v0 : Value) (C0 : Ci) (x1 : Int) (W : World) (a0_0 : HasC W v0 C0) (fa0 : C0.gs.length ≤ maxLen) (fb0 : C0.os.length ≤ maxLen) (wz0 : C64 C0) (hx1 : I64 x1) :
    Calls Try.prog 12 #[v0, .int .i64 x1] W fun e W' => e = .returned (.bool true) ∧ Below W.heap.size W W' := by
  obtain ⟨Gz0, nz0, cz0, Oz0, mz0, dz0, rfl, hgz0, hoz0, _, _, _, _⟩ := id a0_0
  have hgl0 := hgz0.1
  have hol0 := hoz0.1
  have ob_a0 := a0_0
  clear hgz0 hoz0
  have B0 : Below W.heap.size W W := Below.refl _ _
  have s0 : W.heap.size ≤ W.heap.size := Nat.le_refl _
  have b1 := belowNew W (.cells #[.int .i64 C0.in0, .int .i64 C0.in1, .slice Gz0 nz0 cz0, .slice Oz0 mz0 dz0] 28)
  have s1 := b1.size
  have t1 : (W.alloc (.cells #[.int .i64 C0.in0, .int .i64 C0.in1, .slice Gz0 nz0 cz0, .slice Oz0 mz0 dz0] 28)).heap.size = W.heap.size + 1 := by simp
  have box0_1 := Blk.new W #[.int .i64 C0.in0, .int .i64 C0.in1, .slice Gz0 nz0 cz0, .slice Oz0 mz0 dz0] 28
  have B1 := B0.trans (b1.mono (by omega))
  have a0_1 := a0_0.below b1
  clear b1 B0 a0_0
  generalize hw1 : W.alloc (.cells #[.int .i64 C0.in0, .int .i64 C0.in1, .slice Gz0 nz0 cz0, .slice Oz0 mz0 dz0] 28) = w1 at *
  obtain ⟨r, hm⟩ : ∃ r, m_OnesOf C0 x1 = r := ⟨_, rfl⟩
  obtain ⟨ry0, rb1⟩ := r
  have HM := Lib.hid hm
  clear hm
  go_enter Try.func12, Try.ntmps12
  have box0_c0 := box0_1.cell (i := 0) rfl
  have box0_c1 := box0_1.cell (i := 1) rfl
  have box0_c2 := box0_1.cell (i := 2) rfl
  have box0_c3 := box0_1.cell (i := 3) rfl
  go_wp2_with fail
  try rw [hw1]
  clear hw1
  clear box0_c0 box0_c1 box0_c2 box0_c3
  refine (szCircuit_any C0.in0 C0.in1 Gz0 nz0 cz0 Oz0 mz0 dz0 C0 1048576 w1 hgl0 hol0 (by omega) (by omega) (by omega) (by omega)).mono ?_
  rintro e w2 ⟨rfl, b2⟩
  have s2 := b2.size
  have B2 := B1.trans (b2.mono (by omega))
  have a0_2 := a0_1.below b2
  have box0_2 := box0_1.below' b2
  clear b2 B1 a0_1 box0_1
  generalize hlf0 : leftOf C0 1048576 = lf0
  by_cases hneg0 : lf0 < 0
  · go_wp2_with fail
    go_ret
    exact ⟨rfl, B2⟩
  obtain ⟨l0a, l0b, l0c⟩ := leftFit hlf0 hneg0 (by omega)
  have fit0 : Fit C0 := ⟨l0a, l0b, wz0⟩
  clear hlf0
  have box0_c0 := box0_2.cell (i := 0) rfl
  have box0_c1 := box0_2.cell (i := 1) rfl
  have box0_c2 := box0_2.cell (i := 2) rfl
  have box0_c3 := box0_2.cell (i := 3) rfl
  go_wp2_with fail
  clear box0_c0 box0_c1 box0_c2 box0_c3
  refine (toCircuit_any _ C0 w2 a0_2 l0a l0b).mono ?_
  rintro e w3 ⟨u_sp_u0, rfl, sp_u0_3, b3⟩
  have s3 := b3.size
  have B3 := B2.trans (b3.mono (by omega))
  have a0_3 := a0_2.below b3
  have box0_3 := box0_2.below' b3
  clear b3 B2 a0_2 box0_2
  have ob_sp_u0 := sp_u0_3
  go_wp2_with fail
  refine (spec_OnesOf u_sp_u0 C0 x1 ry0 rb1 w3 sp_u0_3.has fit0 hx1 HM.out).mono ?_
  rintro e w4 ⟨rfl, b4⟩
  have s4 := b4.size
  have B4 := B3.trans (b4.mono (by omega))
  have a0_4 := a0_3.below b4
  have box0_4 := box0_3.below' b4
  have sp_u0_4 := sp_u0_3.below b4
  clear b4 B3 a0_3 box0_3 sp_u0_3
  have box0_c0 := box0_4.cell (i := 0) rfl
  have box0_c1 := box0_4.cell (i := 1) rfl
  have box0_c2 := box0_4.cell (i := 2) rfl
  have box0_c3 := box0_4.cell (i := 3) rfl
  go_wp2_with fail
  clear box0_c0 box0_c1 box0_c2 box0_c3
  refine (toCircuit_any _ C0 w4 a0_4 l0a l0b).mono ?_
  rintro e w5 ⟨u_v0, rfl, v0_5, b5⟩
  have s5 := b5.size
  have B5 := B4.trans (b5.mono (by omega))
  have a0_5 := a0_4.below b5
  have box0_5 := box0_4.below' b5
  clear b5 B4 a0_4 box0_4
  have ob_v0 := v0_5
  obtain ⟨Gp0, np0, cp0, Op0, mp0, dp0, rfl, _, _⟩ := id v0_5
  have b6 := belowNew w5 (.cells #[.int .i64 C0.in0, .int .i64 C0.in1, .slice Gp0 np0 cp0, .slice Op0 mp0 dp0] 34)
  have s6 := b6.size
  have t6 : (w5.alloc (.cells #[.int .i64 C0.in0, .int .i64 C0.in1, .slice Gp0 np0 cp0, .slice Op0 mp0 dp0] 34)).heap.size = w5.heap.size + 1 := by simp
  have var_v0_6 := Blk.new w5 #[.int .i64 C0.in0, .int .i64 C0.in1, .slice Gp0 np0 cp0, .slice Op0 mp0 dp0] 34
  have B6 := B5.trans (b6.mono (by omega))
  have a0_6 := a0_5.below b6
  have box0_6 := box0_5.below' b6
  have v0_6 := v0_5.below b6
  clear b6 B5 a0_5 box0_5 v0_5
  generalize hw6 : w5.alloc (.cells #[.int .i64 C0.in0, .int .i64 C0.in1, .slice Gp0 np0 cp0, .slice Op0 mp0 dp0] 34) = w6 at *
  have var_v0_c0 := var_v0_6.cell (i := 0) rfl
  have var_v0_c1 := var_v0_6.cell (i := 1) rfl
  have var_v0_c2 := var_v0_6.cell (i := 2) rfl
  have var_v0_c3 := var_v0_6.cell (i := 3) rfl
  go_wp2_with fail
  try rw [hw6]
  clear hw6
  clear var_v0_c0 var_v0_c1 var_v0_c2 var_v0_c3
  refine (impl_OnesOf (.agg #[.int .i64 C0.in0, .int .i64 C0.in1, .slice Gp0 np0 cp0, .slice Op0 mp0 dp0]) C0 x1 ry0 rb1 w6 v0_6.has fit0 hx1 HM.out).mono ?_
  rintro e w7 ⟨rfl, b7⟩
  have s7 := b7.size
  have B7 := B6.trans (b7.mono (by omega))
  have a0_7 := a0_6.below b7
  have box0_7 := box0_6.below' b7
  have v0_7 := v0_6.below b7
  have var_v0_7 := var_v0_6.below' b7
  clear b7 B6 a0_6 box0_6 v0_6 var_v0_6
  have box0_c0 := box0_7.cell (i := 0) rfl
  have box0_c1 := box0_7.cell (i := 1) rfl
  have box0_c2 := box0_7.cell (i := 2) rfl
  have box0_c3 := box0_7.cell (i := 3) rfl
  have var_v0_c0 := var_v0_7.cell (i := 0) rfl
  have var_v0_c1 := var_v0_7.cell (i := 1) rfl
  have var_v0_c2 := var_v0_7.cell (i := 2) rfl
  have var_v0_c3 := var_v0_7.cell (i := 3) rfl
  go_wp2_with fail
  clear box0_c0 box0_c1 box0_c2 box0_c3 var_v0_c0 var_v0_c1 var_v0_c2 var_v0_c3
  have hK : Hid (∀ W', Below w7.heap.size w7 W' → W'.cell? ⟨w5.heap.size, 0, none⟩ = some (.int .i64 C0.in0) ∧ W'.cell? ⟨w5.heap.size, 1, none⟩ = some (.int .i64 C0.in1) ∧ W'.cell? ⟨w5.heap.size, 2, none⟩ = some (.slice Gp0 np0 cp0) ∧ W'.cell? ⟨w5.heap.size, 3, none⟩ = some (.slice Op0 mp0 dp0) ∧ W'.cell? ⟨W.heap.size, 0, none⟩ = some (.int .i64 C0.in0) ∧ W'.cell? ⟨W.heap.size, 1, none⟩ = some (.int .i64 C0.in1) ∧ W'.cell? ⟨W.heap.size, 2, none⟩ = some (.slice Gz0 nz0 cz0) ∧ W'.cell? ⟨W.heap.size, 3, none⟩ = some (.slice Oz0 mz0 dz0)) := fun W' hb =>
    ⟨(var_v0_7.below' hb).cell (i := 0) rfl, (var_v0_7.below' hb).cell (i := 1) rfl, (var_v0_7.below' hb).cell (i := 2) rfl, (var_v0_7.below' hb).cell (i := 3) rfl, (box0_7.below' hb).cell (i := 0) rfl, (box0_7.below' hb).cell (i := 1) rfl, (box0_7.below' hb).cell (i := 2) rfl, (box0_7.below' hb).cell (i := 3) rfl⟩
  have D : Below w7.heap.size w7 w7.drew := (Below.refl _ w7).drew
  have sD := D.size
  have HT := Lib.hid (toCircuit_any (.agg #[.int .i64 C0.in0, .int .i64 C0.in1, .slice Gz0 nz0 cz0, .slice Oz0 mz0 dz0]) C0 w7.drew (a0_7.below D) l0a l0b)
  have hE : Hid (∀ u W', Below w7.heap.size w7 W' → HasC W' u C0 → Calls Try.prog 22 #[(.agg #[.int .i64 C0.in0, .int .i64 C0.in1, .slice Gp0 np0 cp0, .slice Op0 mp0 dp0]), u] W' fun e w' => e = .returned (.bool true) ∧ Below W'.heap.size W' w') := fun u W' hb hu => eqCircuit_same _ u C0 W' (v0_7.has.below hb) hu l0a l0b
  go_region_held3 (fun w' => w'.cell? ⟨w5.heap.size, 0, none⟩ = some (.int .i64 C0.in0) ∧ w'.cell? ⟨w5.heap.size, 1, none⟩ = some (.int .i64 C0.in1) ∧ w'.cell? ⟨w5.heap.size, 2, none⟩ = some (.slice Gp0 np0 cp0) ∧ w'.cell? ⟨w5.heap.size, 3, none⟩ = some (.slice Op0 mp0 dp0) ∧ w'.cell? ⟨W.heap.size, 0, none⟩ = some (.int .i64 C0.in0) ∧ w'.cell? ⟨W.heap.size, 1, none⟩ = some (.int .i64 C0.in1) ∧ w'.cell? ⟨W.heap.size, 2, none⟩ = some (.slice Gz0 nz0 cz0) ∧ w'.cell? ⟨W.heap.size, 3, none⟩ = some (.slice Oz0 mz0 dz0)) (first | exact hK.out _ D | exact hK.out _ Bq1 | exact hK.out _ b8 | go_keep) (first | (go_at_call 22; refine (hE.out uq1 wq1 Bq1 oq1.has).mono ?_; rintro e w8 ⟨rfl, bq2⟩; have b8 := Bq1.trans (bq2.mono Bq1.size)) | (go_at_call 19; refine (HT.out).mono ?_; rintro e wq1 ⟨uq1, rfl, oq1, bq1⟩; have Bq1 := D.trans (bq1.mono D.size)))
  clear hK HT hE oq1 bq1 Bq1 bq2 D sD
  have s8 := b8.size
  have B8 := B7.trans (b8.mono (by omega))
  have a0_8 := a0_7.below b8
  have box0_8 := box0_7.below' b8
  have v0_8 := v0_7.below b8
  have var_v0_8 := var_v0_7.below' b8
  clear b8 B7 a0_7 box0_7 v0_7 var_v0_7
  go_wp2_with fail
  go_ret
  exact ⟨rfl, B8⟩

set_option maxRecDepth 100000 in
theorem lifted (os : Os) (started : os.Started) (H : Type) (enc : TypeId × Value → H) :
    ReturnsInHanded {} Try.checked os 12 .any (Rows.fnExactOnesOfSpec.pre6 enc Try.prog Try.f12 Rows.fnExactOnesOfRow.domain false) (Rows.fnExactOnesOfSpec.post enc Try.prog Try.f12 false true false false) := by
  refine returnsInHanded_of_change (C := Try.checked) own started (by kernel_rfl) Try.func12
    (ChangeSpec.witness6 (enc := enc) (C := Try.checked) false ⟨#[], #[.agg #[.int .i64 0, .int .i64 0, .slice none 0 0, .slice none 0 0], .int .i64 0], []⟩ 8 (by kernel_rfl) (by kernel_rfl) (by kernel_rfl) (by kernel_rfl)) ?_
  intro W base args ds gs before hval0 hW hcnd _
  have hval : ∀ (j : Nat) t v, Try.f12.params[j]? = some t → args[j]? = some v → Value.okWide Try.prog W .any base t v := hval0
  have hW' := hW
  obtain ⟨p, q, hA0, hV, rfl, hfz, hnd⟩ := hW
  have hA : DataW.TrodAll enc Try.prog W 0 (fun _ => true) true Try.f12.params.toList args.toList ds p := hA0
  rw [Try.params12] at hA hval
  obtain ⟨v0, vs0, d0, ds0, p0, q0, hargs, rfl, rfl, h0, r0⟩ := trodAll_cons hA
  obtain ⟨v1, vs1, d1, ds1, p1, q1, hargs1, rfl, rfl, h1, r1⟩ := trodAll_cons r0
  obtain ⟨rfl, rfl, rfl⟩ := trodAll_nil r1
  obtain rfl : args = #[v0, v1] := by cases args; simp_all
  obtain ⟨rfl, rfl⟩ := trodVars_none hV
  clear hA0 hval0
  have hlt0 : ∀ x ∈ p0, x.block < W.heap.size := fun x hx => by simpa using hW'.lt x (by simp [hx])
  obtain ⟨C0, g0, fa0, fb0, wf0⟩ := openC (hval 0 _ v0 rfl rfl) h0
  obtain ⟨x1, rfl, rfl, rfl, wx1⟩ := open_int Try.underlying3 (hval 1 _ v1 rfl rfl) h1
  simp only [List.append_nil] at hW'
  refine (walk v0 C0 x1 W g0 fa0 fb0 wf0 (I64.of wx1)).mono fun e W' ⟨he, hb⟩ => ?_
  subst he
  exact ⟨_, rfl, lawPost (pa := p0 ++ ([])) (pv := []) hW' (fun _ _ _ => trodAll_mk1 (shut_bool Try.underlying4 _)) (trodAll_mk2 (Below.trod laidOut (by kernel_rfl) (of_decide_eq_true (by kernel_rfl)) h0 hb hlt0) (shut_int Try.underlying3 wx1)) rfl (by simp) hb⟩

theorem proved : Rows.FnExactOnesOfSaid :=
  OpenClaim.holds_of_wide 12 Try.f12 rfl rfl rfl rfl rfl rfl rfl ⟨rfl, rfl, rfl, rfl, rfl⟩ rfl rfl rfl rfl rfl (by kernel_rfl) Try.func12 (by kernel_rfl)
    (of_decide_eq_true (by kernel_rfl)) (by unfold Func.isWrapper; first | (rw [if_pos (by decide +kernel)]; kernel_rfl) | (rw [if_neg (by decide +kernel)]; exact ⟨rfl, rfl⟩))
    (fun os started H enc _ => lifted os started H enc)

end Go.Proofs.Ytnelcbjegbchkaa.lawOnesOf
