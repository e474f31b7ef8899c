/- The exact law of ProductCircuit: for every width the program and the model answer the same, and the answer owns its memory. -/
import Derived.Test.YtnmjnffnelkciaaHelp
import Derived.Test.YtnmjnffnelkciaaClose
import Derived.Test.YtnmjnffnelkciaaCirAll
import Derived.Test.YtnmjnffnelkciaaGdT2
import Derived.Test.YtnmjnffnelkciaaGdT5
import Derived.Deep.RegionHeld3
namespace Go.Proofs.Ytnmjnffnelkciaa.lawProductCircuit
open Go.ChangeShapes Go.WideShapes Go.ChangeAt Go.RowKit
set_option maxRecDepth 100000

set_option maxRecDepth 100000 in
set_option maxHeartbeats 2000000 in
theorem walk (x0 : Int) (W : World) (hx0 : I64 x0) :
    Calls Try.prog 9 #[.int .i64 x0] W fun e W' => e = .returned (.bool true) ∧ Below W.heap.size W W' := by
  have B0 : Below W.heap.size W W := Below.refl _ _
  have s0 : W.heap.size ≤ W.heap.size := Nat.le_refl _
  obtain ⟨r, hm⟩ : ∃ r, m_ProductCircuit x0 = r := ⟨_, rfl⟩
  obtain ⟨RC0, rb1⟩ := r
  have HM := Lib.hid hm
  clear hm
  go_enter Try.func9, Try.ntmps9
  go_wp2_with fail
  refine (spec_ProductCircuit x0 RC0 rb1 W hx0 HM.out).mono ?_
  rintro e w1 ⟨u_sp0, rfl, sp0_1, la_sp0, lb_sp0, b1⟩
  have s1 := b1.size
  have B1 := B0.trans (b1.mono (by omega))
  clear b1 B0 
  have ob_sp0 := sp0_1
  obtain ⟨Gsp0, nsp0, csp0, Osp0, msp0, dsp0, rfl, _, _, _, _, _, _⟩ := id sp0_1
  have b2 := belowNew w1 (.cells #[.int .i64 RC0.in0, .int .i64 RC0.in1, .slice Gsp0 nsp0 csp0, .slice Osp0 msp0 dsp0] 25)
  have s2 := b2.size
  have t2 : (w1.alloc (.cells #[.int .i64 RC0.in0, .int .i64 RC0.in1, .slice Gsp0 nsp0 csp0, .slice Osp0 msp0 dsp0] 25)).heap.size = w1.heap.size + 1 := by simp
  have var_sp0_2 := Blk.new w1 #[.int .i64 RC0.in0, .int .i64 RC0.in1, .slice Gsp0 nsp0 csp0, .slice Osp0 msp0 dsp0] 25
  have B2 := B1.trans (b2.mono (by omega))
  have sp0_2 := sp0_1.below b2
  clear b2 B1 sp0_1
  generalize hw2 : w1.alloc (.cells #[.int .i64 RC0.in0, .int .i64 RC0.in1, .slice Gsp0 nsp0 csp0, .slice Osp0 msp0 dsp0] 25) = w2 at *
  go_wp2_with fail
  try rw [hw2]
  clear hw2
  refine (impl_ProductCircuit x0 RC0 rb1 w2 hx0 HM.out).mono ?_
  rintro e w3 ⟨u_im0, rfl, im0_3, la_im0, lb_im0, b3⟩
  have s3 := b3.size
  have B3 := B2.trans (b3.mono (by omega))
  have sp0_3 := sp0_2.below b3
  have var_sp0_3 := var_sp0_2.below' b3
  clear b3 B2 sp0_2 var_sp0_2
  have ob_im0 := im0_3
  obtain ⟨Gim0, nim0, cim0, Oim0, mim0, dim0, rfl, _, _⟩ := id im0_3
  have b4 := belowNew w3 (.cells #[.int .i64 RC0.in0, .int .i64 RC0.in1, .slice Gim0 nim0 cim0, .slice Oim0 mim0 dim0] 25)
  have s4 := b4.size
  have t4 : (w3.alloc (.cells #[.int .i64 RC0.in0, .int .i64 RC0.in1, .slice Gim0 nim0 cim0, .slice Oim0 mim0 dim0] 25)).heap.size = w3.heap.size + 1 := by simp
  have var_im0_4 := Blk.new w3 #[.int .i64 RC0.in0, .int .i64 RC0.in1, .slice Gim0 nim0 cim0, .slice Oim0 mim0 dim0] 25
  have B4 := B3.trans (b4.mono (by omega))
  have sp0_4 := sp0_3.below b4
  have var_sp0_4 := var_sp0_3.below' b4
  have im0_4 := im0_3.below b4
  clear b4 B3 sp0_3 var_sp0_3 im0_3
  generalize hw4 : w3.alloc (.cells #[.int .i64 RC0.in0, .int .i64 RC0.in1, .slice Gim0 nim0 cim0, .slice Oim0 mim0 dim0] 25) = w4 at *
  have var_im0_c0 := var_im0_4.cell (i := 0) rfl
  have var_im0_c1 := var_im0_4.cell (i := 1) rfl
  have var_im0_c2 := var_im0_4.cell (i := 2) rfl
  have var_im0_c3 := var_im0_4.cell (i := 3) rfl
  have var_sp0_c0 := var_sp0_4.cell (i := 0) rfl
  have var_sp0_c1 := var_sp0_4.cell (i := 1) rfl
  have var_sp0_c2 := var_sp0_4.cell (i := 2) rfl
  have var_sp0_c3 := var_sp0_4.cell (i := 3) rfl
  go_wp2_with fail
  try rw [hw4]
  clear hw4
  clear var_im0_c0 var_im0_c1 var_im0_c2 var_im0_c3 var_sp0_c0 var_sp0_c1 var_sp0_c2 var_sp0_c3
  refine (eqCircuit_same _ _ RC0 w4 im0_4.has sp0_4 la_sp0 lb_sp0).mono ?_
  rintro e w5 ⟨rfl, b5⟩
  have s5 := b5.size
  have B5 := B4.trans (b5.mono (by omega))
  have sp0_5 := sp0_4.below b5
  have var_sp0_5 := var_sp0_4.below' b5
  have im0_5 := im0_4.below b5
  have var_im0_5 := var_im0_4.below' b5
  clear b5 B4 sp0_4 var_sp0_4 im0_4 var_im0_4
  have hr0 : 0 ≤ sizeC RC0 ∧ sizeC RC0 ≤ 4194304 := by unfold sizeC; omega
  have var_im0_c0 := var_im0_5.cell (i := 0) rfl
  have var_im0_c1 := var_im0_5.cell (i := 1) rfl
  have var_im0_c2 := var_im0_5.cell (i := 2) rfl
  have var_im0_c3 := var_im0_5.cell (i := 3) rfl
  go_wp2_with fail
  clear var_im0_c0 var_im0_c1 var_im0_c2 var_im0_c3
  refine (markCircuit_any _ RC0 RC0 _ _ w5 _ im0_5 ob_im0 (by omega) la_sp0 lb_sp0 (by omega) (by omega)).mono ?_
  rintro e w6 ⟨rfl, im0_6, g6⟩
  have s6 := g6.size
  have B6 := belowSpan B5 g6 (by omega) (by omega)
  have sp0_6 := sp0_5.span g6 ob_sp0 (by omega)
  have var_sp0_6 : Blk w6 (w1.heap.size) #[.int .i64 RC0.in0, .int .i64 RC0.in1, .slice Gsp0 nsp0 csp0, .slice Osp0 msp0 dsp0] 25 := by first | exact var_sp0_5.span g6 (by omega) | exact var_sp0_5.spanHi g6 (by omega)
  have var_im0_6 : Blk w6 (w3.heap.size) #[.int .i64 RC0.in0, .int .i64 RC0.in1, .slice Gim0 nim0 cim0, .slice Oim0 mim0 dim0] 25 := by first | exact var_im0_5.span g6 (by omega) | exact var_im0_5.spanHi g6 (by omega)
  clear g6 B5 sp0_5 var_sp0_5 im0_5 var_im0_5
  have var_im0_c0 := var_im0_6.cell (i := 0) rfl
  have var_im0_c1 := var_im0_6.cell (i := 1) rfl
  have var_im0_c2 := var_im0_6.cell (i := 2) rfl
  have var_im0_c3 := var_im0_6.cell (i := 3) rfl
  go_wp2_with fail
  clear var_im0_c0 var_im0_c1 var_im0_c2 var_im0_c3
  refine (heldCircuit_any _ RC0 1 w6 im0_6.has la_sp0 lb_sp0 (by omega) (by omega)).mono ?_
  rintro e w7 ⟨rfl, b7⟩
  have s7 := b7.size
  have B7 := B6.trans (b7.mono (by omega))
  have sp0_7 := sp0_6.below b7
  have var_sp0_7 := var_sp0_6.below' b7
  have im0_7 := im0_6.below b7
  have var_im0_7 := var_im0_6.below' b7
  clear b7 B6 sp0_6 var_sp0_6 im0_6 var_im0_6
  go_wp2_with fail
  refine (impl_ProductCircuit x0 RC0 rb1 w7 hx0 HM.out).mono ?_
  rintro e w8 ⟨u_ag0, rfl, ag0_8, la_ag0, lb_ag0, b8⟩
  have s8 := b8.size
  have B8 := B7.trans (b8.mono (by omega))
  have sp0_8 := sp0_7.below b8
  have var_sp0_8 := var_sp0_7.below' b8
  have im0_8 := im0_7.below b8
  have var_im0_8 := var_im0_7.below' b8
  clear b8 B7 sp0_7 var_sp0_7 im0_7 var_im0_7
  have ob_ag0 := ag0_8
  obtain ⟨Gag0, nag0, cag0, Oag0, mag0, dag0, rfl, _, _⟩ := id ag0_8
  have b9 := belowNew w8 (.cells #[.int .i64 RC0.in0, .int .i64 RC0.in1, .slice Gag0 nag0 cag0, .slice Oag0 mag0 dag0] 25)
  have s9 := b9.size
  have t9 : (w8.alloc (.cells #[.int .i64 RC0.in0, .int .i64 RC0.in1, .slice Gag0 nag0 cag0, .slice Oag0 mag0 dag0] 25)).heap.size = w8.heap.size + 1 := by simp
  have var_ag0_9 := Blk.new w8 #[.int .i64 RC0.in0, .int .i64 RC0.in1, .slice Gag0 nag0 cag0, .slice Oag0 mag0 dag0] 25
  have B9 := B8.trans (b9.mono (by omega))
  have sp0_9 := sp0_8.below b9
  have var_sp0_9 := var_sp0_8.below' b9
  have im0_9 := im0_8.below b9
  have var_im0_9 := var_im0_8.below' b9
  have ag0_9 := ag0_8.below b9
  clear b9 B8 sp0_8 var_sp0_8 im0_8 var_im0_8 ag0_8
  generalize hw9 : w8.alloc (.cells #[.int .i64 RC0.in0, .int .i64 RC0.in1, .slice Gag0 nag0 cag0, .slice Oag0 mag0 dag0] 25) = w9 at *
  have var_ag0_c0 := var_ag0_9.cell (i := 0) rfl
  have var_ag0_c1 := var_ag0_9.cell (i := 1) rfl
  have var_ag0_c2 := var_ag0_9.cell (i := 2) rfl
  have var_ag0_c3 := var_ag0_9.cell (i := 3) rfl
  have var_sp0_c0 := var_sp0_9.cell (i := 0) rfl
  have var_sp0_c1 := var_sp0_9.cell (i := 1) rfl
  have var_sp0_c2 := var_sp0_9.cell (i := 2) rfl
  have var_sp0_c3 := var_sp0_9.cell (i := 3) rfl
  go_wp2_with fail
  try rw [hw9]
  clear hw9
  clear var_ag0_c0 var_ag0_c1 var_ag0_c2 var_ag0_c3 var_sp0_c0 var_sp0_c1 var_sp0_c2 var_sp0_c3
  refine (eqCircuit_same _ _ RC0 w9 ag0_9.has sp0_9 la_sp0 lb_sp0).mono ?_
  rintro e w10 ⟨rfl, b10⟩
  have s10 := b10.size
  have B10 := B9.trans (b10.mono (by omega))
  have sp0_10 := sp0_9.below b10
  have var_sp0_10 := var_sp0_9.below' b10
  have im0_10 := im0_9.below b10
  have var_im0_10 := var_im0_9.below' b10
  have ag0_10 := ag0_9.below b10
  have var_ag0_10 := var_ag0_9.below' b10
  clear b10 B9 sp0_9 var_sp0_9 im0_9 var_im0_9 ag0_9 var_ag0_9
  have var_im0_c0 := var_im0_10.cell (i := 0) rfl
  have var_im0_c1 := var_im0_10.cell (i := 1) rfl
  have var_im0_c2 := var_im0_10.cell (i := 2) rfl
  have var_im0_c3 := var_im0_10.cell (i := 3) rfl
  go_wp2_with fail
  clear var_im0_c0 var_im0_c1 var_im0_c2 var_im0_c3
  refine (heldCircuit_any _ RC0 1 w10 im0_10.has la_sp0 lb_sp0 (by omega) (by omega)).mono ?_
  rintro e w11 ⟨rfl, b11⟩
  have s11 := b11.size
  have B11 := B10.trans (b11.mono (by omega))
  have sp0_11 := sp0_10.below b11
  have var_sp0_11 := var_sp0_10.below' b11
  have im0_11 := im0_10.below b11
  have var_im0_11 := var_im0_10.below' b11
  have ag0_11 := ag0_10.below b11
  have var_ag0_11 := var_ag0_10.below' b11
  clear b11 B10 sp0_10 var_sp0_10 im0_10 var_im0_10 ag0_10 var_ag0_10
  go_wp2_with fail
  go_ret
  exact ⟨rfl, B11⟩

set_option maxRecDepth 100000 in
theorem lifted (os : Os) (started : os.Started) (H : Type) (enc : TypeId × Value → H) :
    ReturnsInHanded {} Try.checked os 9 .any (Rows.fnExactProductCircuitSpec.pre6 enc Try.prog Try.f9 Rows.fnExactProductCircuitRow.domain false) (Rows.fnExactProductCircuitSpec.post enc Try.prog Try.f9 false true false false) := by
  refine returnsInHanded_of_change (C := Try.checked) own started (by kernel_rfl) Try.func9
    (ChangeSpec.witness6 (enc := enc) (C := Try.checked) false ⟨#[], #[.int .i64 0], []⟩ 8 (by kernel_rfl) (by kernel_rfl) (by kernel_rfl) (by kernel_rfl)) ?_
  intro W base args ds gs before hval0 hW hcnd _
  have hval : ∀ (j : Nat) t v, Try.f9.params[j]? = some t → args[j]? = some v → Value.okWide Try.prog W .any base t v := hval0
  have hW' := hW
  obtain ⟨p, q, hA0, hV, rfl, hfz, hnd⟩ := hW
  have hA : DataW.TrodAll enc Try.prog W 0 (fun _ => true) true Try.f9.params.toList args.toList ds p := hA0
  rw [Try.params9] at hA hval
  obtain ⟨v0, vs0, d0, ds0, p0, q0, hargs, rfl, rfl, h0, r0⟩ := trodAll_cons hA
  obtain ⟨rfl, rfl, rfl⟩ := trodAll_nil r0
  obtain rfl : args = #[v0] := by cases args; simp_all
  obtain ⟨rfl, rfl⟩ := trodVars_none hV
  clear hA0 hval0
  obtain ⟨x0, rfl, rfl, rfl, wx0⟩ := open_int Try.underlying3 (hval 0 _ v0 rfl rfl) h0
  simp only [List.append_nil] at hW'
  refine (walk x0 W (I64.of wx0)).mono fun e W' ⟨he, hb⟩ => ?_
  subst he
  exact ⟨_, rfl, lawPost (pa := []) (pv := []) hW' (fun _ _ _ => trodAll_mk1 (shut_bool Try.underlying4 _)) (trodAll_mk1 (shut_int Try.underlying3 wx0)) rfl (by simp) hb⟩

theorem proved : Rows.FnExactProductCircuitSaid :=
  OpenClaim.holds_of_wide 9 Try.f9 rfl rfl rfl rfl rfl rfl rfl ⟨rfl, rfl, rfl, rfl, rfl⟩ rfl rfl rfl rfl rfl (by kernel_rfl) Try.func9 (by kernel_rfl)
    (of_decide_eq_true (by kernel_rfl)) (by unfold Func.isWrapper; first | (rw [if_pos (by decide +kernel)]; kernel_rfl) | (rw [if_neg (by decide +kernel)]; exact ⟨rfl, rfl⟩))
    (fun os started H enc _ => lifted os started H enc)

end Go.Proofs.Ytnmjnffnelkciaa.lawProductCircuit
