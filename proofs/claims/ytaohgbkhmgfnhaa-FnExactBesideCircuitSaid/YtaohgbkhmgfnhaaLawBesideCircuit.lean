/- The exact law of BesideCircuit: for every two circuits that the row allows, the program and the model answer the same, the arguments are left as they were, and the answer owns its memory. -/
import Derived.Test.YtaohgbkhmgfnhaaHelp
import Derived.Test.YtaohgbkhmgfnhaaClose
import Derived.Test.YtaohgbkhmgfnhaaCir5
import Derived.Test.YtaohgbkhmgfnhaaCirG15
import Derived.Test.YtaohgbkhmgfnhaaCirI13
import Derived.Deep.RegionHeld3
import Derived.Deep.DeepCutAuto
namespace Go.Proofs.Ytaohgbkhmgfnhaa.lawBesideCircuit
open Go.ChangeShapes Go.WideShapes Go.ChangeAt Go.RowKit
set_option maxRecDepth 100000

set_option maxRecDepth 100000 in
set_option maxHeartbeats 8000000 in
theorem walk (v0 : Value) (C0 : Ci) (v1 : Value) (C1 : Ci) (W : World) (a0_0 : HasC W v0 C0) (fa0 : C0.gs.length ≤ maxLen) (fb0 : C0.os.length ≤ maxLen) (wz0 : C64 C0) (a1_0 : HasC W v1 C1) (fa1 : C1.gs.length ≤ maxLen) (fb1 : C1.os.length ≤ maxLen) (wz1 : C64 C1) :
    Calls Try.prog 10 #[v0, v1] W fun e W' => e = .returned (.bool true) ∧ Below W.heap.size W W' := by
  obtain ⟨Gz0, nz0, cz0, Oz0, mz0, dz0, rfl, hgz0, hoz0, _, _, _, _⟩ := id a0_0
  have hgl0 := hgz0.1
  have hol0 := hoz0.1
  have ob_a0 := a0_0
  clear hgz0 hoz0
  obtain ⟨Gz1, nz1, cz1, Oz1, mz1, dz1, rfl, hgz1, hoz1, _, _, _, _⟩ := id a1_0
  have hgl1 := hgz1.1
  have hol1 := hoz1.1
  have ob_a1 := a1_0
  clear hgz1 hoz1
  have B0 : Below W.heap.size W W := Below.refl _ _
  have s0 : W.heap.size ≤ W.heap.size := Nat.le_refl _
  have b1 := belowNew W (.cells #[.int .i64 C0.in0, .int .i64 C0.in1, .slice Gz0 nz0 cz0, .slice Oz0 mz0 dz0] 25)
  have s1 := b1.size
  have t1 : (W.alloc (.cells #[.int .i64 C0.in0, .int .i64 C0.in1, .slice Gz0 nz0 cz0, .slice Oz0 mz0 dz0] 25)).heap.size = W.heap.size + 1 := by simp
  have box0_1 := Blk.new W #[.int .i64 C0.in0, .int .i64 C0.in1, .slice Gz0 nz0 cz0, .slice Oz0 mz0 dz0] 25
  have B1 := B0.trans (b1.mono (by omega))
  have a0_1 := a0_0.below b1
  have a1_1 := a1_0.below b1
  clear b1 B0 a0_0 a1_0
  generalize hw1 : W.alloc (.cells #[.int .i64 C0.in0, .int .i64 C0.in1, .slice Gz0 nz0 cz0, .slice Oz0 mz0 dz0] 25) = w1 at *
  have b2 := belowNew w1 (.cells #[.int .i64 C1.in0, .int .i64 C1.in1, .slice Gz1 nz1 cz1, .slice Oz1 mz1 dz1] 25)
  have s2 := b2.size
  have t2 : (w1.alloc (.cells #[.int .i64 C1.in0, .int .i64 C1.in1, .slice Gz1 nz1 cz1, .slice Oz1 mz1 dz1] 25)).heap.size = w1.heap.size + 1 := by simp
  have box1_2 := Blk.newAt (k := W.heap.size + 1) w1 #[.int .i64 C1.in0, .int .i64 C1.in1, .slice Gz1 nz1 cz1, .slice Oz1 mz1 dz1] 25 (by omega)
  have B2 := B1.trans (b2.mono (by omega))
  have a0_2 := a0_1.below b2
  have a1_2 := a1_1.below b2
  have box0_2 := box0_1.below' b2
  clear b2 B1 a0_1 a1_1 box0_1
  generalize hw2 : w1.alloc (.cells #[.int .i64 C1.in0, .int .i64 C1.in1, .slice Gz1 nz1 cz1, .slice Oz1 mz1 dz1] 25) = w2 at *
  obtain ⟨r, hm⟩ : ∃ r, m_BesideCircuit C0 C1 = r := ⟨_, rfl⟩
  obtain ⟨RC0, rb1⟩ := r
  have HM := Lib.hid hm
  clear hm
  go_enter Try.func10, Try.ntmps10
  have box0_c0 := box0_2.cell (i := 0) rfl
  have box0_c1 := box0_2.cell (i := 1) rfl
  have box0_c2 := box0_2.cell (i := 2) rfl
  have box0_c3 := box0_2.cell (i := 3) rfl
  go_wp2_with fail
  try rw [hw1]
  try rw [hw2]
  clear hw1
  clear hw2
  clear box0_c0 box0_c1 box0_c2 box0_c3
  refine (szCircuit_any C0.in0 C0.in1 Gz0 nz0 cz0 Oz0 mz0 dz0 C0 1048576 w2 hgl0 hol0 (by omega) (by omega) (by omega) (by omega)).mono ?_
  rintro e w3 ⟨rfl, b3⟩
  have s3 := b3.size
  have B3 := B2.trans (b3.mono (by omega))
  have a0_3 := a0_2.below b3
  have a1_3 := a1_2.below b3
  have box0_3 := box0_2.below' b3
  have box1_3 := box1_2.below' b3
  clear b3 B2 a0_2 a1_2 box0_2 box1_2
  generalize hlf0 : leftOf C0 1048576 = lf0
  by_cases hneg0 : lf0 < 0
  · go_wp2_with fail
    go_ret
    exact ⟨rfl, B3⟩
  obtain ⟨l0a, l0b, l0c⟩ := leftFit hlf0 hneg0 (by omega)
  have fit0 : Fit C0 := ⟨l0a, l0b, wz0⟩
  clear hlf0
  have box1_c0 := box1_3.cell (i := 0) rfl
  have box1_c1 := box1_3.cell (i := 1) rfl
  have box1_c2 := box1_3.cell (i := 2) rfl
  have box1_c3 := box1_3.cell (i := 3) rfl
  go_wp2_with fail
  clear box1_c0 box1_c1 box1_c2 box1_c3
  refine (szCircuit_any C1.in0 C1.in1 Gz1 nz1 cz1 Oz1 mz1 dz1 C1 lf0 w3 hgl1 hol1 (by omega) (by omega) (by omega) (by omega)).mono ?_
  rintro e w4 ⟨rfl, b4⟩
  have s4 := b4.size
  have B4 := B3.trans (b4.mono (by omega))
  have a0_4 := a0_3.below b4
  have a1_4 := a1_3.below b4
  have box0_4 := box0_3.below' b4
  have box1_4 := box1_3.below' b4
  clear b4 B3 a0_3 a1_3 box0_3 box1_3
  generalize hlf1 : leftOf C1 lf0 = lf1
  by_cases hneg1 : lf1 < 0
  · go_wp2_with fail
    go_ret
    exact ⟨rfl, B4⟩
  obtain ⟨l1a, l1b, l1c⟩ := leftFit hlf1 hneg1 (by omega)
  have fit1 : Fit C1 := ⟨l1a, l1b, wz1⟩
  clear hlf1
  have box0_c0 := box0_4.cell (i := 0) rfl
  have box0_c1 := box0_4.cell (i := 1) rfl
  have box0_c2 := box0_4.cell (i := 2) rfl
  have box0_c3 := box0_4.cell (i := 3) rfl
  have box1_c0 := box1_4.cell (i := 0) rfl
  have box1_c1 := box1_4.cell (i := 1) rfl
  have box1_c2 := box1_4.cell (i := 2) rfl
  have box1_c3 := box1_4.cell (i := 3) rfl
  go_wp2_with fail
  clear box0_c0 box0_c1 box0_c2 box0_c3 box1_c0 box1_c1 box1_c2 box1_c3
  have hK : Hid (∀ W', Below w4.heap.size w4 W' → W'.cell? ⟨W.heap.size, 0, none⟩ = some (.int .i64 C0.in0) ∧ W'.cell? ⟨W.heap.size, 1, none⟩ = some (.int .i64 C0.in1) ∧ W'.cell? ⟨W.heap.size, 2, none⟩ = some (.slice Gz0 nz0 cz0) ∧ W'.cell? ⟨W.heap.size, 3, none⟩ = some (.slice Oz0 mz0 dz0) ∧ W'.cell? ⟨W.heap.size + 1, 0, none⟩ = some (.int .i64 C1.in0) ∧ W'.cell? ⟨W.heap.size + 1, 1, none⟩ = some (.int .i64 C1.in1) ∧ W'.cell? ⟨W.heap.size + 1, 2, none⟩ = some (.slice Gz1 nz1 cz1) ∧ W'.cell? ⟨W.heap.size + 1, 3, none⟩ = some (.slice Oz1 mz1 dz1)) := fun W' hb =>
    ⟨(box0_4.below' hb).cell (i := 0) rfl, (box0_4.below' hb).cell (i := 1) rfl, (box0_4.below' hb).cell (i := 2) rfl, (box0_4.below' hb).cell (i := 3) rfl, (box1_4.below' hb).cell (i := 0) rfl, (box1_4.below' hb).cell (i := 1) rfl, (box1_4.below' hb).cell (i := 2) rfl, (box1_4.below' hb).cell (i := 3) rfl⟩
  have D : Below w4.heap.size w4 w4.drew := (Below.refl _ w4).drew
  have sD := D.size
  have HT0 : Hid (∀ W', Below w4.heap.size w4 W' → Calls Try.prog 14 #[(.agg #[.int .i64 C0.in0, .int .i64 C0.in1, .slice Gz0 nz0 cz0, .slice Oz0 mz0 dz0])] W' fun e w' => ∃ v', e = .returned v' ∧ OwnC w' W'.heap.size v' C0 ∧ Below W'.heap.size W' w') := fun W' hb => toCircuit_any _ C0 W' (a0_4.below hb) l0a l0b
  have HT1 : Hid (∀ W', Below w4.heap.size w4 W' → Calls Try.prog 14 #[(.agg #[.int .i64 C1.in0, .int .i64 C1.in1, .slice Gz1 nz1 cz1, .slice Oz1 mz1 dz1])] W' fun e w' => ∃ v', e = .returned v' ∧ OwnC w' W'.heap.size v' C1 ∧ Below W'.heap.size W' w') := fun W' hb => toCircuit_any _ C1 W' (a1_4.below hb) l1a l1b
  go_cut [6, 7] (fun vp vo wx => ∃ (g : Nat) (Gx : Option Addr) (nx cx : Nat) (Ox : Option Addr) (mx dx : Nat), vp = .pointer (some ⟨g, 0, none⟩) ∧ vo = .bool rb1 ∧ Blk wx g #[.int .i64 RC0.in0, .int .i64 RC0.in1, .slice Gx nx cx, .slice Ox mx dx] 30 ∧ OwnC wx w4.heap.size (.agg #[.int .i64 RC0.in0, .int .i64 RC0.in1, .slice Gx nx cx, .slice Ox mx dx]) RC0 ∧ RC0.gs.length ≤ 1048576 ∧ RC0.os.length ≤ 1048576 ∧ w4.heap.size ≤ g ∧ Below w4.heap.size w4 wx)
  case first =>
    have DA := D.trans ((belowNew w4.drew (.cells #[.int .i64 0, .int .i64 0, .slice none 0 0, .slice none 0 0] 30)).mono D.size)
    have zA := Blk.newAt (k := w4.heap.size) w4.drew #[.int .i64 0, .int .i64 0, .slice none 0 0, .slice none 0 0] 30 rfl
    go_region_held3 (fun w' => w'.cell? ⟨W.heap.size, 0, none⟩ = some (.int .i64 C0.in0) ∧ w'.cell? ⟨W.heap.size, 1, none⟩ = some (.int .i64 C0.in1) ∧ w'.cell? ⟨W.heap.size, 2, none⟩ = some (.slice Gz0 nz0 cz0) ∧ w'.cell? ⟨W.heap.size, 3, none⟩ = some (.slice Oz0 mz0 dz0) ∧ w'.cell? ⟨W.heap.size + 1, 0, none⟩ = some (.int .i64 C1.in0) ∧ w'.cell? ⟨W.heap.size + 1, 1, none⟩ = some (.int .i64 C1.in1) ∧ w'.cell? ⟨W.heap.size + 1, 2, none⟩ = some (.slice Gz1 nz1 cz1) ∧ w'.cell? ⟨W.heap.size + 1, 3, none⟩ = some (.slice Oz1 mz1 dz1)) (first | exact hK.out _ D | exact hK.out _ DA | exact hK.out _ Bq0 | exact hK.out _ (Bq0.trans ((belowNew wq0 _).mono Bq0.size)) | exact hK.out _ Bq1 | exact hK.out _ (Bq1.trans ((belowNew wq1 _).mono Bq1.size)) | exact hK.out _ bn | exact hK.out _ (bn.trans ((belowNew wn _).mono bn.size)) | exact hK.out _ ((((bn.setCell Bq1.size _).setCell Bq1.size _).setCell Bq1.size _).setCell Bq1.size _) | exact hK.out _ ((((bn.setCell Bq0.size _).setCell Bq0.size _).setCell Bq0.size _).setCell Bq0.size _) | exact hK.out _ ((((bn.setCell D.size _).setCell D.size _).setCell D.size _).setCell D.size _) | go_keep) (first | (go_at_call 35; refine (spec_BesideCircuit uq0 C0 uq1 C1 RC0 rb1 wq1 (oq0_1.has) fit0 (oq1_1.has) fit1 HM.out).mono ?_; rintro e wn ⟨un, rfl, on, la, lb, bq⟩; have bn := Bq1.trans (bq.mono Bq1.size); have zn := z1.below' bq; obtain ⟨Gx, nx, cx, Ox, mx, dx, rfl, hx1, hx2⟩ := id on; have zc0 := zn.cell (i := 0) rfl; have zc1 := zn.cell (i := 1) rfl; have zc2 := zn.cell (i := 2) rfl; have zc3 := zn.cell (i := 3) rfl; have zf0 := zn.free 0; have zf1 := zn.free 1; have zf2 := zn.free 2; have zf3 := zn.free 3) | (go_at_call 35; refine (spec_BesideCircuit uq0 C0 uq1 C1 RC0 rb1 (wq1.alloc (.cells #[.int .i64 0, .int .i64 0, .slice none 0 0, .slice none 0 0] 30)) (oq0_1.has.below (belowNew wq1 (.cells #[.int .i64 0, .int .i64 0, .slice none 0 0, .slice none 0 0] 30))) fit0 (oq1_1.has.below (belowNew wq1 (.cells #[.int .i64 0, .int .i64 0, .slice none 0 0, .slice none 0 0] 30))) fit1 HM.out).mono ?_; rintro e wn ⟨un, rfl, on, la, lb, bq⟩; have bn := (Bq1.trans ((belowNew wq1 (.cells #[.int .i64 0, .int .i64 0, .slice none 0 0, .slice none 0 0] 30)).mono Bq1.size)).trans (bq.mono (Nat.le_trans Bq1.size (belowNew wq1 (.cells #[.int .i64 0, .int .i64 0, .slice none 0 0, .slice none 0 0] 30)).size)); have zn := (Blk.new wq1 #[.int .i64 0, .int .i64 0, .slice none 0 0, .slice none 0 0] 30).below' bq; obtain ⟨Gx, nx, cx, Ox, mx, dx, rfl, hx1, hx2⟩ := id on; have zc0 := zn.cell (i := 0) rfl; have zc1 := zn.cell (i := 1) rfl; have zc2 := zn.cell (i := 2) rfl; have zc3 := zn.cell (i := 3) rfl; have zf0 := zn.free 0; have zf1 := zn.free 1; have zf2 := zn.free 2; have zf3 := zn.free 3) | (go_at_call 35; refine (spec_BesideCircuit uq0 C0 uq1 C1 RC0 rb1 wq1 (oq0_1.has) fit0 (oq1_1.has) fit1 HM.out).mono ?_; rintro e wn ⟨un, rfl, on, la, lb, bq⟩; have bn := Bq1.trans (bq.mono Bq1.size); obtain ⟨Gx, nx, cx, Ox, mx, dx, rfl, hx1, hx2⟩ := id on) | (go_at_call 14; refine (HT1.out wq0 Bq0).mono ?_; rintro e wq1 ⟨uq1, rfl, oq1_1, bq1⟩; have Bq1 := Bq0.trans (bq1.mono Bq0.size); have oq0_1 := oq0_0.below bq1; have z1 := z0.below' bq1) | (go_at_call 14; refine (HT1.out (wq0.alloc (.cells #[.int .i64 0, .int .i64 0, .slice none 0 0, .slice none 0 0] 30)) (Bq0.trans ((belowNew wq0 (.cells #[.int .i64 0, .int .i64 0, .slice none 0 0, .slice none 0 0] 30)).mono Bq0.size))).mono ?_; rintro e wq1 ⟨uq1, rfl, oq1_1, bq1⟩; have Bq1 := (Bq0.trans ((belowNew wq0 (.cells #[.int .i64 0, .int .i64 0, .slice none 0 0, .slice none 0 0] 30)).mono Bq0.size)).trans (bq1.mono (Nat.le_trans Bq0.size (belowNew wq0 (.cells #[.int .i64 0, .int .i64 0, .slice none 0 0, .slice none 0 0] 30)).size)); have oq0_1 := (oq0_0.below (belowNew wq0 (.cells #[.int .i64 0, .int .i64 0, .slice none 0 0, .slice none 0 0] 30))).below bq1; have z1 := (Blk.new wq0 #[.int .i64 0, .int .i64 0, .slice none 0 0, .slice none 0 0] 30).below' bq1) | (go_at_call 14; refine (HT1.out wq0 Bq0).mono ?_; rintro e wq1 ⟨uq1, rfl, oq1_1, bq1⟩; have Bq1 := Bq0.trans (bq1.mono Bq0.size); have oq0_1 := oq0_0.below bq1) | (go_at_call 14; refine (HT0.out (w4.drew.alloc (.cells #[.int .i64 0, .int .i64 0, .slice none 0 0, .slice none 0 0] 30)) DA).mono ?_; rintro e wq0 ⟨uq0, rfl, oq0_0, bq0⟩; have Bq0 := DA.trans (bq0.mono DA.size); have z0 := zA.below' bq0) | (go_at_call 14; refine (HT0.out w4.drew D).mono ?_; rintro e wq0 ⟨uq0, rfl, oq0_0, bq0⟩; have Bq0 := D.trans (bq0.mono D.size)))
    all_goals go_wp2_with fail
    all_goals go_meet
    all_goals first
      | exact ⟨_, Gx, nx, cx, Ox, mx, dx, rfl, rfl, Blk.new wn _ _, (on.below (belowNew wn _)).mono Bq1.size, la, lb, bn.size, bn.trans ((belowNew wn _).mono bn.size)⟩
      | (obtain ⟨h1, h2, h3⟩ := fourSet (a := .int .i64 RC0.in0) (b := .int .i64 RC0.in1) (c := .slice Gx nx cx) (d := .slice Ox mx dx) on zn z1.lt bn Bq0.size; exact ⟨_, Gx, nx, cx, Ox, mx, dx, rfl, rfl, h1, h2.mono (by first | exact Bq1.size | exact (Bq1.trans ((belowNew wq1 _).mono Bq1.size)).size), la, lb, Bq0.size, h3⟩)
      | (obtain ⟨h1, h2, h3⟩ := fourSet (a := .int .i64 RC0.in0) (b := .int .i64 RC0.in1) (c := .slice Gx nx cx) (d := .slice Ox mx dx) on zn z1.lt bn D.size; exact ⟨_, Gx, nx, cx, Ox, mx, dx, rfl, rfl, h1, h2.mono (by first | exact Bq1.size | exact (Bq1.trans ((belowNew wq1 _).mono Bq1.size)).size), la, lb, D.size, h3⟩)
      | (obtain ⟨h1, h2, h3⟩ := fourSet (a := .int .i64 RC0.in0) (b := .int .i64 RC0.in1) (c := .slice Gx nx cx) (d := .slice Ox mx dx) on zn (by simp) bn Bq1.size; exact ⟨_, Gx, nx, cx, Ox, mx, dx, rfl, rfl, h1, h2.mono (by first | exact Bq1.size | exact (Bq1.trans ((belowNew wq1 _).mono Bq1.size)).size), la, lb, Bq1.size, h3⟩)
  case rest =>
  obtain ⟨gv5, Gsp0, nsp0, csp0, Osp0, msp0, dsp0, rfl, rfl, var_sp0_5, sp0_5, la_sp0, lb_sp0, hgv5, b5⟩ := hcut
  have hgl105 := var_sp0_5.lt
  obtain ⟨w5, rfl⟩ : ∃ x, x = wc := ⟨_, rfl⟩
  clear hK D sD HT0 HT1
  have s5 := b5.size
  have B5 := B4.trans (b5.mono (by omega))
  have a0_5 := a0_4.below b5
  have a1_5 := a1_4.below b5
  have box0_5 := box0_4.below' b5
  have box1_5 := box1_4.below' b5
  clear b5 B4 a0_4 a1_4 box0_4 box1_4
  have sp0_5 := sp0_5.has
  have ob_sp0 := sp0_5
  have box0_c0 := box0_5.cell (i := 0) rfl
  have box0_c1 := box0_5.cell (i := 1) rfl
  have box0_c2 := box0_5.cell (i := 2) rfl
  have box0_c3 := box0_5.cell (i := 3) rfl
  go_wp2_with fail
  clear box0_c0 box0_c1 box0_c2 box0_c3
  refine (toCircuit_any _ C0 w5 a0_5 l0a l0b).mono ?_
  rintro e w6 ⟨u_v0, rfl, v0_6, b6⟩
  have s6 := b6.size
  have B6 := B5.trans (b6.mono (by omega))
  have a0_6 := a0_5.below b6
  have a1_6 := a1_5.below b6
  have box0_6 := box0_5.below' b6
  have box1_6 := box1_5.below' b6
  have sp0_6 := sp0_5.below b6
  have var_sp0_6 := var_sp0_5.below' b6
  clear b6 B5 a0_5 a1_5 box0_5 box1_5 sp0_5 var_sp0_5
  have ob_v0 := v0_6
  obtain ⟨Gp0, np0, cp0, Op0, mp0, dp0, rfl, _, _⟩ := id v0_6
  have b7 := belowNew w6 (.cells #[.int .i64 C0.in0, .int .i64 C0.in1, .slice Gp0 np0 cp0, .slice Op0 mp0 dp0] 30)
  have s7 := b7.size
  have t7 : (w6.alloc (.cells #[.int .i64 C0.in0, .int .i64 C0.in1, .slice Gp0 np0 cp0, .slice Op0 mp0 dp0] 30)).heap.size = w6.heap.size + 1 := by simp
  have var_v0_7 := Blk.new w6 #[.int .i64 C0.in0, .int .i64 C0.in1, .slice Gp0 np0 cp0, .slice Op0 mp0 dp0] 30
  have B7 := B6.trans (b7.mono (by omega))
  have a0_7 := a0_6.below b7
  have a1_7 := a1_6.below b7
  have box0_7 := box0_6.below' b7
  have box1_7 := box1_6.below' b7
  have sp0_7 := sp0_6.below b7
  have var_sp0_7 := var_sp0_6.below' b7
  have v0_7 := v0_6.below b7
  clear b7 B6 a0_6 a1_6 box0_6 box1_6 sp0_6 var_sp0_6 v0_6
  generalize hw7 : w6.alloc (.cells #[.int .i64 C0.in0, .int .i64 C0.in1, .slice Gp0 np0 cp0, .slice Op0 mp0 dp0] 30) = w7 at *
  have box1_c0 := box1_7.cell (i := 0) rfl
  have box1_c1 := box1_7.cell (i := 1) rfl
  have box1_c2 := box1_7.cell (i := 2) rfl
  have box1_c3 := box1_7.cell (i := 3) rfl
  go_wp2_with fail
  try rw [hw7]
  clear hw7
  clear box1_c0 box1_c1 box1_c2 box1_c3
  refine (toCircuit_any _ C1 w7 a1_7 l1a l1b).mono ?_
  rintro e w8 ⟨u_v1, rfl, v1_8, b8⟩
  have s8 := b8.size
  have B8 := B7.trans (b8.mono (by omega))
  have a0_8 := a0_7.below b8
  have a1_8 := a1_7.below b8
  have box0_8 := box0_7.below' b8
  have box1_8 := box1_7.below' b8
  have sp0_8 := sp0_7.below b8
  have var_sp0_8 := var_sp0_7.below' b8
  have v0_8 := v0_7.below b8
  have var_v0_8 := var_v0_7.below' b8
  clear b8 B7 a0_7 a1_7 box0_7 box1_7 sp0_7 var_sp0_7 v0_7 var_v0_7
  have ob_v1 := v1_8
  obtain ⟨Gp1, np1, cp1, Op1, mp1, dp1, rfl, _, _⟩ := id v1_8
  have b9 := belowNew w8 (.cells #[.int .i64 C1.in0, .int .i64 C1.in1, .slice Gp1 np1 cp1, .slice Op1 mp1 dp1] 30)
  have s9 := b9.size
  have t9 : (w8.alloc (.cells #[.int .i64 C1.in0, .int .i64 C1.in1, .slice Gp1 np1 cp1, .slice Op1 mp1 dp1] 30)).heap.size = w8.heap.size + 1 := by simp
  have var_v1_9 := Blk.new w8 #[.int .i64 C1.in0, .int .i64 C1.in1, .slice Gp1 np1 cp1, .slice Op1 mp1 dp1] 30
  have B9 := B8.trans (b9.mono (by omega))
  have a0_9 := a0_8.below b9
  have a1_9 := a1_8.below b9
  have box0_9 := box0_8.below' b9
  have box1_9 := box1_8.below' b9
  have sp0_9 := sp0_8.below b9
  have var_sp0_9 := var_sp0_8.below' b9
  have v0_9 := v0_8.below b9
  have var_v0_9 := var_v0_8.below' b9
  have v1_9 := v1_8.below b9
  clear b9 B8 a0_8 a1_8 box0_8 box1_8 sp0_8 var_sp0_8 v0_8 var_v0_8 v1_8
  generalize hw9 : w8.alloc (.cells #[.int .i64 C1.in0, .int .i64 C1.in1, .slice Gp1 np1 cp1, .slice Op1 mp1 dp1] 30) = w9 at *
  have var_v0_c0 := var_v0_9.cell (i := 0) rfl
  have var_v0_c1 := var_v0_9.cell (i := 1) rfl
  have var_v0_c2 := var_v0_9.cell (i := 2) rfl
  have var_v0_c3 := var_v0_9.cell (i := 3) rfl
  have var_v1_c0 := var_v1_9.cell (i := 0) rfl
  have var_v1_c1 := var_v1_9.cell (i := 1) rfl
  have var_v1_c2 := var_v1_9.cell (i := 2) rfl
  have var_v1_c3 := var_v1_9.cell (i := 3) rfl
  go_wp2_with fail
  try rw [hw9]
  clear hw9
  clear var_v0_c0 var_v0_c1 var_v0_c2 var_v0_c3 var_v1_c0 var_v1_c1 var_v1_c2 var_v1_c3
  refine (impl_BesideCircuit (.agg #[.int .i64 C0.in0, .int .i64 C0.in1, .slice Gp0 np0 cp0, .slice Op0 mp0 dp0]) C0 (.agg #[.int .i64 C1.in0, .int .i64 C1.in1, .slice Gp1 np1 cp1, .slice Op1 mp1 dp1]) C1 RC0 rb1 w9 v0_9.has fit0 v1_9.has fit1 HM.out).mono ?_
  rintro e w10 ⟨u_im0, rfl, im0_10, la_im0, lb_im0, b10⟩
  have s10 := b10.size
  have B10 := B9.trans (b10.mono (by omega))
  have a0_10 := a0_9.below b10
  have a1_10 := a1_9.below b10
  have box0_10 := box0_9.below' b10
  have box1_10 := box1_9.below' b10
  have sp0_10 := sp0_9.below b10
  have var_sp0_10 := var_sp0_9.below' b10
  have v0_10 := v0_9.below b10
  have var_v0_10 := var_v0_9.below' b10
  have v1_10 := v1_9.below b10
  have var_v1_10 := var_v1_9.below' b10
  clear b10 B9 a0_9 a1_9 box0_9 box1_9 sp0_9 var_sp0_9 v0_9 var_v0_9 v1_9 var_v1_9
  have ob_im0 := im0_10
  obtain ⟨Gim0, nim0, cim0, Oim0, mim0, dim0, rfl, _, _⟩ := id im0_10
  have b11 := belowNew w10 (.cells #[.int .i64 RC0.in0, .int .i64 RC0.in1, .slice Gim0 nim0 cim0, .slice Oim0 mim0 dim0] 30)
  have s11 := b11.size
  have t11 : (w10.alloc (.cells #[.int .i64 RC0.in0, .int .i64 RC0.in1, .slice Gim0 nim0 cim0, .slice Oim0 mim0 dim0] 30)).heap.size = w10.heap.size + 1 := by simp
  have var_im0_11 := Blk.new w10 #[.int .i64 RC0.in0, .int .i64 RC0.in1, .slice Gim0 nim0 cim0, .slice Oim0 mim0 dim0] 30
  have B11 := B10.trans (b11.mono (by omega))
  have a0_11 := a0_10.below b11
  have a1_11 := a1_10.below b11
  have box0_11 := box0_10.below' b11
  have box1_11 := box1_10.below' b11
  have sp0_11 := sp0_10.below b11
  have var_sp0_11 := var_sp0_10.below' b11
  have v0_11 := v0_10.below b11
  have var_v0_11 := var_v0_10.below' b11
  have v1_11 := v1_10.below b11
  have var_v1_11 := var_v1_10.below' b11
  have im0_11 := im0_10.below b11
  clear b11 B10 a0_10 a1_10 box0_10 box1_10 sp0_10 var_sp0_10 v0_10 var_v0_10 v1_10 var_v1_10 im0_10
  generalize hw11 : w10.alloc (.cells #[.int .i64 RC0.in0, .int .i64 RC0.in1, .slice Gim0 nim0 cim0, .slice Oim0 mim0 dim0] 30) = w11 at *
  have var_im0_c0 := var_im0_11.cell (i := 0) rfl
  have var_im0_c1 := var_im0_11.cell (i := 1) rfl
  have var_im0_c2 := var_im0_11.cell (i := 2) rfl
  have var_im0_c3 := var_im0_11.cell (i := 3) rfl
  have var_sp0_c0 := var_sp0_11.cell (i := 0) rfl
  have var_sp0_c1 := var_sp0_11.cell (i := 1) rfl
  have var_sp0_c2 := var_sp0_11.cell (i := 2) rfl
  have var_sp0_c3 := var_sp0_11.cell (i := 3) rfl
  go_wp2_with fail
  try rw [hw11]
  clear hw11
  clear var_im0_c0 var_im0_c1 var_im0_c2 var_im0_c3 var_sp0_c0 var_sp0_c1 var_sp0_c2 var_sp0_c3
  refine (eqCircuit_same _ _ RC0 w11 im0_11.has sp0_11 la_sp0 lb_sp0).mono ?_
  rintro e w12 ⟨rfl, b12⟩
  have s12 := b12.size
  have B12 := B11.trans (b12.mono (by omega))
  have a0_12 := a0_11.below b12
  have a1_12 := a1_11.below b12
  have box0_12 := box0_11.below' b12
  have box1_12 := box1_11.below' b12
  have sp0_12 := sp0_11.below b12
  have var_sp0_12 := var_sp0_11.below' b12
  have v0_12 := v0_11.below b12
  have var_v0_12 := var_v0_11.below' b12
  have v1_12 := v1_11.below b12
  have var_v1_12 := var_v1_11.below' b12
  have im0_12 := im0_11.below b12
  have var_im0_12 := var_im0_11.below' b12
  clear b12 B11 a0_11 a1_11 box0_11 box1_11 sp0_11 var_sp0_11 v0_11 var_v0_11 v1_11 var_v1_11 im0_11 var_im0_11
  have box0_c0 := box0_12.cell (i := 0) rfl
  have box0_c1 := box0_12.cell (i := 1) rfl
  have box0_c2 := box0_12.cell (i := 2) rfl
  have box0_c3 := box0_12.cell (i := 3) rfl
  have var_v0_c0 := var_v0_12.cell (i := 0) rfl
  have var_v0_c1 := var_v0_12.cell (i := 1) rfl
  have var_v0_c2 := var_v0_12.cell (i := 2) rfl
  have var_v0_c3 := var_v0_12.cell (i := 3) rfl
  go_wp2_with fail
  clear box0_c0 box0_c1 box0_c2 box0_c3 var_v0_c0 var_v0_c1 var_v0_c2 var_v0_c3
  have hK : Hid (∀ W', Below w12.heap.size w12 W' → W'.cell? ⟨w6.heap.size, 0, none⟩ = some (.int .i64 C0.in0) ∧ W'.cell? ⟨w6.heap.size, 1, none⟩ = some (.int .i64 C0.in1) ∧ W'.cell? ⟨w6.heap.size, 2, none⟩ = some (.slice Gp0 np0 cp0) ∧ W'.cell? ⟨w6.heap.size, 3, none⟩ = some (.slice Op0 mp0 dp0) ∧ W'.cell? ⟨W.heap.size, 0, none⟩ = some (.int .i64 C0.in0) ∧ W'.cell? ⟨W.heap.size, 1, none⟩ = some (.int .i64 C0.in1) ∧ W'.cell? ⟨W.heap.size, 2, none⟩ = some (.slice Gz0 nz0 cz0) ∧ W'.cell? ⟨W.heap.size, 3, none⟩ = some (.slice Oz0 mz0 dz0)) := fun W' hb =>
    ⟨(var_v0_12.below' hb).cell (i := 0) rfl, (var_v0_12.below' hb).cell (i := 1) rfl, (var_v0_12.below' hb).cell (i := 2) rfl, (var_v0_12.below' hb).cell (i := 3) rfl, (box0_12.below' hb).cell (i := 0) rfl, (box0_12.below' hb).cell (i := 1) rfl, (box0_12.below' hb).cell (i := 2) rfl, (box0_12.below' hb).cell (i := 3) rfl⟩
  have D : Below w12.heap.size w12 w12.drew := (Below.refl _ w12).drew
  have sD := D.size
  have HT := Lib.hid (toCircuit_any (.agg #[.int .i64 C0.in0, .int .i64 C0.in1, .slice Gz0 nz0 cz0, .slice Oz0 mz0 dz0]) C0 w12.drew (a0_12.below D) l0a l0b)
  have hE : Hid (∀ u W', Below w12.heap.size w12 W' → HasC W' u C0 → Calls Try.prog 16 #[(.agg #[.int .i64 C0.in0, .int .i64 C0.in1, .slice Gp0 np0 cp0, .slice Op0 mp0 dp0]), u] W' fun e w' => e = .returned (.bool true) ∧ Below W'.heap.size W' w') := fun u W' hb hu => eqCircuit_same _ u C0 W' (v0_12.has.below hb) hu l0a l0b
  go_region_held3 (fun w' => w'.cell? ⟨w6.heap.size, 0, none⟩ = some (.int .i64 C0.in0) ∧ w'.cell? ⟨w6.heap.size, 1, none⟩ = some (.int .i64 C0.in1) ∧ w'.cell? ⟨w6.heap.size, 2, none⟩ = some (.slice Gp0 np0 cp0) ∧ w'.cell? ⟨w6.heap.size, 3, none⟩ = some (.slice Op0 mp0 dp0) ∧ w'.cell? ⟨W.heap.size, 0, none⟩ = some (.int .i64 C0.in0) ∧ w'.cell? ⟨W.heap.size, 1, none⟩ = some (.int .i64 C0.in1) ∧ w'.cell? ⟨W.heap.size, 2, none⟩ = some (.slice Gz0 nz0 cz0) ∧ w'.cell? ⟨W.heap.size, 3, none⟩ = some (.slice Oz0 mz0 dz0)) (first | exact hK.out _ D | exact hK.out _ Bq1 | exact hK.out _ b13 | go_keep) (first | (go_at_call 16; refine (hE.out uq1 wq1 Bq1 oq1.has).mono ?_; rintro e w13 ⟨rfl, bq2⟩; have b13 := Bq1.trans (bq2.mono Bq1.size)) | (go_at_call 14; refine (HT.out).mono ?_; rintro e wq1 ⟨uq1, rfl, oq1, bq1⟩; have Bq1 := D.trans (bq1.mono D.size)))
  clear hK HT hE oq1 bq1 Bq1 bq2 D sD
  have s13 := b13.size
  have B13 := B12.trans (b13.mono (by omega))
  have a0_13 := a0_12.below b13
  have a1_13 := a1_12.below b13
  have box0_13 := box0_12.below' b13
  have box1_13 := box1_12.below' b13
  have sp0_13 := sp0_12.below b13
  have var_sp0_13 := var_sp0_12.below' b13
  have v0_13 := v0_12.below b13
  have var_v0_13 := var_v0_12.below' b13
  have v1_13 := v1_12.below b13
  have var_v1_13 := var_v1_12.below' b13
  have im0_13 := im0_12.below b13
  have var_im0_13 := var_im0_12.below' b13
  clear b13 B12 a0_12 a1_12 box0_12 box1_12 sp0_12 var_sp0_12 v0_12 var_v0_12 v1_12 var_v1_12 im0_12 var_im0_12
  have box1_c0 := box1_13.cell (i := 0) rfl
  have box1_c1 := box1_13.cell (i := 1) rfl
  have box1_c2 := box1_13.cell (i := 2) rfl
  have box1_c3 := box1_13.cell (i := 3) rfl
  have var_v1_c0 := var_v1_13.cell (i := 0) rfl
  have var_v1_c1 := var_v1_13.cell (i := 1) rfl
  have var_v1_c2 := var_v1_13.cell (i := 2) rfl
  have var_v1_c3 := var_v1_13.cell (i := 3) rfl
  go_wp2_with fail
  clear box1_c0 box1_c1 box1_c2 box1_c3 var_v1_c0 var_v1_c1 var_v1_c2 var_v1_c3
  have hK : Hid (∀ W', Below w13.heap.size w13 W' → W'.cell? ⟨w8.heap.size, 0, none⟩ = some (.int .i64 C1.in0) ∧ W'.cell? ⟨w8.heap.size, 1, none⟩ = some (.int .i64 C1.in1) ∧ W'.cell? ⟨w8.heap.size, 2, none⟩ = some (.slice Gp1 np1 cp1) ∧ W'.cell? ⟨w8.heap.size, 3, none⟩ = some (.slice Op1 mp1 dp1) ∧ W'.cell? ⟨W.heap.size + 1, 0, none⟩ = some (.int .i64 C1.in0) ∧ W'.cell? ⟨W.heap.size + 1, 1, none⟩ = some (.int .i64 C1.in1) ∧ W'.cell? ⟨W.heap.size + 1, 2, none⟩ = some (.slice Gz1 nz1 cz1) ∧ W'.cell? ⟨W.heap.size + 1, 3, none⟩ = some (.slice Oz1 mz1 dz1)) := fun W' hb =>
    ⟨(var_v1_13.below' hb).cell (i := 0) rfl, (var_v1_13.below' hb).cell (i := 1) rfl, (var_v1_13.below' hb).cell (i := 2) rfl, (var_v1_13.below' hb).cell (i := 3) rfl, (box1_13.below' hb).cell (i := 0) rfl, (box1_13.below' hb).cell (i := 1) rfl, (box1_13.below' hb).cell (i := 2) rfl, (box1_13.below' hb).cell (i := 3) rfl⟩
  have D : Below w13.heap.size w13 w13.drew := (Below.refl _ w13).drew
  have sD := D.size
  have HT := Lib.hid (toCircuit_any (.agg #[.int .i64 C1.in0, .int .i64 C1.in1, .slice Gz1 nz1 cz1, .slice Oz1 mz1 dz1]) C1 w13.drew (a1_13.below D) l1a l1b)
  have hE : Hid (∀ u W', Below w13.heap.size w13 W' → HasC W' u C1 → Calls Try.prog 16 #[(.agg #[.int .i64 C1.in0, .int .i64 C1.in1, .slice Gp1 np1 cp1, .slice Op1 mp1 dp1]), u] W' fun e w' => e = .returned (.bool true) ∧ Below W'.heap.size W' w') := fun u W' hb hu => eqCircuit_same _ u C1 W' (v1_13.has.below hb) hu l1a l1b
  go_region_held3 (fun w' => w'.cell? ⟨w8.heap.size, 0, none⟩ = some (.int .i64 C1.in0) ∧ w'.cell? ⟨w8.heap.size, 1, none⟩ = some (.int .i64 C1.in1) ∧ w'.cell? ⟨w8.heap.size, 2, none⟩ = some (.slice Gp1 np1 cp1) ∧ w'.cell? ⟨w8.heap.size, 3, none⟩ = some (.slice Op1 mp1 dp1) ∧ w'.cell? ⟨W.heap.size + 1, 0, none⟩ = some (.int .i64 C1.in0) ∧ w'.cell? ⟨W.heap.size + 1, 1, none⟩ = some (.int .i64 C1.in1) ∧ w'.cell? ⟨W.heap.size + 1, 2, none⟩ = some (.slice Gz1 nz1 cz1) ∧ w'.cell? ⟨W.heap.size + 1, 3, none⟩ = some (.slice Oz1 mz1 dz1)) (first | exact hK.out _ D | exact hK.out _ Bq1 | exact hK.out _ b14 | go_keep) (first | (go_at_call 16; refine (hE.out uq1 wq1 Bq1 oq1.has).mono ?_; rintro e w14 ⟨rfl, bq2⟩; have b14 := Bq1.trans (bq2.mono Bq1.size)) | (go_at_call 14; refine (HT.out).mono ?_; rintro e wq1 ⟨uq1, rfl, oq1, bq1⟩; have Bq1 := D.trans (bq1.mono D.size)))
  clear hK HT hE oq1 bq1 Bq1 bq2 D sD
  have s14 := b14.size
  have B14 := B13.trans (b14.mono (by omega))
  have a0_14 := a0_13.below b14
  have a1_14 := a1_13.below b14
  have box0_14 := box0_13.below' b14
  have box1_14 := box1_13.below' b14
  have sp0_14 := sp0_13.below b14
  have var_sp0_14 := var_sp0_13.below' b14
  have v0_14 := v0_13.below b14
  have var_v0_14 := var_v0_13.below' b14
  have v1_14 := v1_13.below b14
  have var_v1_14 := var_v1_13.below' b14
  have im0_14 := im0_13.below b14
  have var_im0_14 := var_im0_13.below' b14
  clear b14 B13 a0_13 a1_13 box0_13 box1_13 sp0_13 var_sp0_13 v0_13 var_v0_13 v1_13 var_v1_13 im0_13 var_im0_13
  have hs0 : 0 ≤ sizeC C0 ∧ sizeC C0 ≤ 4194304 := by unfold sizeC; omega
  have hs1 : 0 ≤ sizeC C1 ∧ sizeC C1 ≤ 4194304 := by unfold sizeC; omega
  have var_v0_c0 := var_v0_14.cell (i := 0) rfl
  have var_v0_c1 := var_v0_14.cell (i := 1) rfl
  have var_v0_c2 := var_v0_14.cell (i := 2) rfl
  have var_v0_c3 := var_v0_14.cell (i := 3) rfl
  go_wp2_with fail
  clear var_v0_c0 var_v0_c1 var_v0_c2 var_v0_c3
  refine (markCircuit_any _ C0 C0 _ _ w14 _ v0_14 ob_v0 (by omega) l0a l0b (by omega) (by omega)).mono ?_
  rintro e w15 ⟨rfl, v0_15, g15⟩
  have s15 := g15.size
  have B15 := belowSpan B14 g15 (by omega) (by omega)
  have a0_15 := a0_14.span g15 ob_a0 (by omega)
  have a1_15 := a1_14.span g15 ob_a1 (by omega)
  have box0_15 : Blk w15 (W.heap.size) #[.int .i64 C0.in0, .int .i64 C0.in1, .slice Gz0 nz0 cz0, .slice Oz0 mz0 dz0] 25 := by first | exact box0_14.span g15 (by omega) | exact box0_14.spanHi g15 (by omega)
  have box1_15 : Blk w15 (W.heap.size + 1) #[.int .i64 C1.in0, .int .i64 C1.in1, .slice Gz1 nz1 cz1, .slice Oz1 mz1 dz1] 25 := by first | exact box1_14.span g15 (by omega) | exact box1_14.spanHi g15 (by omega)
  have sp0_15 := sp0_14.span g15 ob_sp0 (by omega)
  have var_sp0_15 : Blk w15 (gv5) #[.int .i64 RC0.in0, .int .i64 RC0.in1, .slice Gsp0 nsp0 csp0, .slice Osp0 msp0 dsp0] 30 := by first | exact var_sp0_14.span g15 (by omega) | exact var_sp0_14.spanHi g15 (by omega)
  have var_v0_15 : Blk w15 (w6.heap.size) #[.int .i64 C0.in0, .int .i64 C0.in1, .slice Gp0 np0 cp0, .slice Op0 mp0 dp0] 30 := by first | exact var_v0_14.span g15 (by omega) | exact var_v0_14.spanHi g15 (by omega)
  have v1_15 := v1_14.span g15 (by omega)
  have var_v1_15 : Blk w15 (w8.heap.size) #[.int .i64 C1.in0, .int .i64 C1.in1, .slice Gp1 np1 cp1, .slice Op1 mp1 dp1] 30 := by first | exact var_v1_14.span g15 (by omega) | exact var_v1_14.spanHi g15 (by omega)
  have im0_15 := im0_14.span g15 (by omega)
  have var_im0_15 : Blk w15 (w10.heap.size) #[.int .i64 RC0.in0, .int .i64 RC0.in1, .slice Gim0 nim0 cim0, .slice Oim0 mim0 dim0] 30 := by first | exact var_im0_14.span g15 (by omega) | exact var_im0_14.spanHi g15 (by omega)
  clear g15 B14 a0_14 a1_14 box0_14 box1_14 sp0_14 var_sp0_14 v0_14 var_v0_14 v1_14 var_v1_14 im0_14 var_im0_14
  have var_v1_c0 := var_v1_15.cell (i := 0) rfl
  have var_v1_c1 := var_v1_15.cell (i := 1) rfl
  have var_v1_c2 := var_v1_15.cell (i := 2) rfl
  have var_v1_c3 := var_v1_15.cell (i := 3) rfl
  go_wp2_with fail
  clear var_v1_c0 var_v1_c1 var_v1_c2 var_v1_c3
  refine (markCircuit_any _ C1 C1 _ _ w15 _ v1_15 ob_v1 (by omega) l1a l1b (by omega) (by omega)).mono ?_
  rintro e w16 ⟨rfl, v1_16, g16⟩
  have s16 := g16.size
  have B16 := belowSpan B15 g16 (by omega) (by omega)
  have a0_16 := a0_15.span g16 ob_a0 (by omega)
  have a1_16 := a1_15.span g16 ob_a1 (by omega)
  have box0_16 : Blk w16 (W.heap.size) #[.int .i64 C0.in0, .int .i64 C0.in1, .slice Gz0 nz0 cz0, .slice Oz0 mz0 dz0] 25 := by first | exact box0_15.span g16 (by omega) | exact box0_15.spanHi g16 (by omega)
  have box1_16 : Blk w16 (W.heap.size + 1) #[.int .i64 C1.in0, .int .i64 C1.in1, .slice Gz1 nz1 cz1, .slice Oz1 mz1 dz1] 25 := by first | exact box1_15.span g16 (by omega) | exact box1_15.spanHi g16 (by omega)
  have sp0_16 := sp0_15.span g16 ob_sp0 (by omega)
  have var_sp0_16 : Blk w16 (gv5) #[.int .i64 RC0.in0, .int .i64 RC0.in1, .slice Gsp0 nsp0 csp0, .slice Osp0 msp0 dsp0] 30 := by first | exact var_sp0_15.span g16 (by omega) | exact var_sp0_15.spanHi g16 (by omega)
  have var_v1_16 : Blk w16 (w8.heap.size) #[.int .i64 C1.in0, .int .i64 C1.in1, .slice Gp1 np1 cp1, .slice Op1 mp1 dp1] 30 := by first | exact var_v1_15.span g16 (by omega) | exact var_v1_15.spanHi g16 (by omega)
  have im0_16 := im0_15.span g16 (by omega)
  have var_im0_16 : Blk w16 (w10.heap.size) #[.int .i64 RC0.in0, .int .i64 RC0.in1, .slice Gim0 nim0 cim0, .slice Oim0 mim0 dim0] 30 := by first | exact var_im0_15.span g16 (by omega) | exact var_im0_15.spanHi g16 (by omega)
  clear g16 B15 a0_15 a1_15 box0_15 box1_15 sp0_15 var_sp0_15 v1_15 var_v1_15 im0_15 var_im0_15
  have var_im0_c0 := var_im0_16.cell (i := 0) rfl
  have var_im0_c1 := var_im0_16.cell (i := 1) rfl
  have var_im0_c2 := var_im0_16.cell (i := 2) rfl
  have var_im0_c3 := var_im0_16.cell (i := 3) rfl
  have var_sp0_c0 := var_sp0_16.cell (i := 0) rfl
  have var_sp0_c1 := var_sp0_16.cell (i := 1) rfl
  have var_sp0_c2 := var_sp0_16.cell (i := 2) rfl
  have var_sp0_c3 := var_sp0_16.cell (i := 3) rfl
  go_wp2_with fail
  clear var_im0_c0 var_im0_c1 var_im0_c2 var_im0_c3 var_sp0_c0 var_sp0_c1 var_sp0_c2 var_sp0_c3
  refine (eqCircuit_same _ _ RC0 w16 im0_16.has sp0_16 la_sp0 lb_sp0).mono ?_
  rintro e w17 ⟨rfl, b17⟩
  have s17 := b17.size
  have B17 := B16.trans (b17.mono (by omega))
  have a0_17 := a0_16.below b17
  have a1_17 := a1_16.below b17
  have box0_17 := box0_16.below' b17
  have box1_17 := box1_16.below' b17
  have sp0_17 := sp0_16.below b17
  have var_sp0_17 := var_sp0_16.below' b17
  have im0_17 := im0_16.below b17
  have var_im0_17 := var_im0_16.below' b17
  clear b17 B16 a0_16 a1_16 box0_16 box1_16 sp0_16 var_sp0_16 im0_16 var_im0_16
  have hr0 : 0 ≤ sizeC RC0 ∧ sizeC RC0 ≤ 4194304 := by unfold sizeC; omega
  have var_im0_c0 := var_im0_17.cell (i := 0) rfl
  have var_im0_c1 := var_im0_17.cell (i := 1) rfl
  have var_im0_c2 := var_im0_17.cell (i := 2) rfl
  have var_im0_c3 := var_im0_17.cell (i := 3) rfl
  go_wp2_with fail
  clear var_im0_c0 var_im0_c1 var_im0_c2 var_im0_c3
  refine (markCircuit_any _ RC0 RC0 _ _ w17 _ im0_17 ob_im0 (by omega) la_sp0 lb_sp0 (by omega) (by omega)).mono ?_
  rintro e w18 ⟨rfl, im0_18, g18⟩
  have s18 := g18.size
  have B18 := belowSpan B17 g18 (by omega) (by omega)
  have a0_18 := a0_17.span g18 ob_a0 (by omega)
  have a1_18 := a1_17.span g18 ob_a1 (by omega)
  have box0_18 : Blk w18 (W.heap.size) #[.int .i64 C0.in0, .int .i64 C0.in1, .slice Gz0 nz0 cz0, .slice Oz0 mz0 dz0] 25 := by first | exact box0_17.span g18 (by omega) | exact box0_17.spanHi g18 (by omega)
  have box1_18 : Blk w18 (W.heap.size + 1) #[.int .i64 C1.in0, .int .i64 C1.in1, .slice Gz1 nz1 cz1, .slice Oz1 mz1 dz1] 25 := by first | exact box1_17.span g18 (by omega) | exact box1_17.spanHi g18 (by omega)
  have sp0_18 := sp0_17.span g18 ob_sp0 (by omega)
  have var_sp0_18 : Blk w18 (gv5) #[.int .i64 RC0.in0, .int .i64 RC0.in1, .slice Gsp0 nsp0 csp0, .slice Osp0 msp0 dsp0] 30 := by first | exact var_sp0_17.span g18 (by omega) | exact var_sp0_17.spanHi g18 (by omega)
  have var_im0_18 : Blk w18 (w10.heap.size) #[.int .i64 RC0.in0, .int .i64 RC0.in1, .slice Gim0 nim0 cim0, .slice Oim0 mim0 dim0] 30 := by first | exact var_im0_17.span g18 (by omega) | exact var_im0_17.spanHi g18 (by omega)
  clear g18 B17 a0_17 a1_17 box0_17 box1_17 sp0_17 var_sp0_17 im0_17 var_im0_17
  have var_im0_c0 := var_im0_18.cell (i := 0) rfl
  have var_im0_c1 := var_im0_18.cell (i := 1) rfl
  have var_im0_c2 := var_im0_18.cell (i := 2) rfl
  have var_im0_c3 := var_im0_18.cell (i := 3) rfl
  go_wp2_with fail
  clear var_im0_c0 var_im0_c1 var_im0_c2 var_im0_c3
  refine (heldCircuit_any _ RC0 1 w18 im0_18.has la_sp0 lb_sp0 (by omega) (by omega)).mono ?_
  rintro e w19 ⟨rfl, b19⟩
  have s19 := b19.size
  have B19 := B18.trans (b19.mono (by omega))
  have a0_19 := a0_18.below b19
  have a1_19 := a1_18.below b19
  have box0_19 := box0_18.below' b19
  have box1_19 := box1_18.below' b19
  have sp0_19 := sp0_18.below b19
  have var_sp0_19 := var_sp0_18.below' b19
  have im0_19 := im0_18.below b19
  have var_im0_19 := var_im0_18.below' b19
  clear b19 B18 a0_18 a1_18 box0_18 box1_18 sp0_18 var_sp0_18 im0_18 var_im0_18
  have box0_c0 := box0_19.cell (i := 0) rfl
  have box0_c1 := box0_19.cell (i := 1) rfl
  have box0_c2 := box0_19.cell (i := 2) rfl
  have box0_c3 := box0_19.cell (i := 3) rfl
  have box1_c0 := box1_19.cell (i := 0) rfl
  have box1_c1 := box1_19.cell (i := 1) rfl
  have box1_c2 := box1_19.cell (i := 2) rfl
  have box1_c3 := box1_19.cell (i := 3) rfl
  go_wp2_with fail
  clear box0_c0 box0_c1 box0_c2 box0_c3 box1_c0 box1_c1 box1_c2 box1_c3
  have hK : Hid (∀ W', Below w19.heap.size w19 W' → W'.cell? ⟨W.heap.size, 0, none⟩ = some (.int .i64 C0.in0) ∧ W'.cell? ⟨W.heap.size, 1, none⟩ = some (.int .i64 C0.in1) ∧ W'.cell? ⟨W.heap.size, 2, none⟩ = some (.slice Gz0 nz0 cz0) ∧ W'.cell? ⟨W.heap.size, 3, none⟩ = some (.slice Oz0 mz0 dz0) ∧ W'.cell? ⟨W.heap.size + 1, 0, none⟩ = some (.int .i64 C1.in0) ∧ W'.cell? ⟨W.heap.size + 1, 1, none⟩ = some (.int .i64 C1.in1) ∧ W'.cell? ⟨W.heap.size + 1, 2, none⟩ = some (.slice Gz1 nz1 cz1) ∧ W'.cell? ⟨W.heap.size + 1, 3, none⟩ = some (.slice Oz1 mz1 dz1)) := fun W' hb =>
    ⟨(box0_19.below' hb).cell (i := 0) rfl, (box0_19.below' hb).cell (i := 1) rfl, (box0_19.below' hb).cell (i := 2) rfl, (box0_19.below' hb).cell (i := 3) rfl, (box1_19.below' hb).cell (i := 0) rfl, (box1_19.below' hb).cell (i := 1) rfl, (box1_19.below' hb).cell (i := 2) rfl, (box1_19.below' hb).cell (i := 3) rfl⟩
  have D : Below w19.heap.size w19 w19.drew := (Below.refl _ w19).drew
  have sD := D.size
  have HT0 : Hid (∀ W', Below w19.heap.size w19 W' → Calls Try.prog 14 #[(.agg #[.int .i64 C0.in0, .int .i64 C0.in1, .slice Gz0 nz0 cz0, .slice Oz0 mz0 dz0])] W' fun e w' => ∃ v', e = .returned v' ∧ OwnC w' W'.heap.size v' C0 ∧ Below W'.heap.size W' w') := fun W' hb => toCircuit_any _ C0 W' (a0_19.below hb) l0a l0b
  have HT1 : Hid (∀ W', Below w19.heap.size w19 W' → Calls Try.prog 14 #[(.agg #[.int .i64 C1.in0, .int .i64 C1.in1, .slice Gz1 nz1 cz1, .slice Oz1 mz1 dz1])] W' fun e w' => ∃ v', e = .returned v' ∧ OwnC w' W'.heap.size v' C1 ∧ Below W'.heap.size W' w') := fun W' hb => toCircuit_any _ C1 W' (a1_19.below hb) l1a l1b
  go_cut [15, 16] (fun vp vo wx => ∃ (g : Nat) (Gx : Option Addr) (nx cx : Nat) (Ox : Option Addr) (mx dx : Nat), vp = .pointer (some ⟨g, 0, none⟩) ∧ vo = .bool rb1 ∧ Blk wx g #[.int .i64 RC0.in0, .int .i64 RC0.in1, .slice Gx nx cx, .slice Ox mx dx] 30 ∧ OwnC wx w19.heap.size (.agg #[.int .i64 RC0.in0, .int .i64 RC0.in1, .slice Gx nx cx, .slice Ox mx dx]) RC0 ∧ RC0.gs.length ≤ 1048576 ∧ RC0.os.length ≤ 1048576 ∧ w19.heap.size ≤ g ∧ Below w19.heap.size w19 wx)
  case first =>
    have DA := D.trans ((belowNew w19.drew (.cells #[.int .i64 0, .int .i64 0, .slice none 0 0, .slice none 0 0] 30)).mono D.size)
    have zA := Blk.newAt (k := w19.heap.size) w19.drew #[.int .i64 0, .int .i64 0, .slice none 0 0, .slice none 0 0] 30 rfl
    go_region_held3 (fun w' => w'.cell? ⟨W.heap.size, 0, none⟩ = some (.int .i64 C0.in0) ∧ w'.cell? ⟨W.heap.size, 1, none⟩ = some (.int .i64 C0.in1) ∧ w'.cell? ⟨W.heap.size, 2, none⟩ = some (.slice Gz0 nz0 cz0) ∧ w'.cell? ⟨W.heap.size, 3, none⟩ = some (.slice Oz0 mz0 dz0) ∧ w'.cell? ⟨W.heap.size + 1, 0, none⟩ = some (.int .i64 C1.in0) ∧ w'.cell? ⟨W.heap.size + 1, 1, none⟩ = some (.int .i64 C1.in1) ∧ w'.cell? ⟨W.heap.size + 1, 2, none⟩ = some (.slice Gz1 nz1 cz1) ∧ w'.cell? ⟨W.heap.size + 1, 3, none⟩ = some (.slice Oz1 mz1 dz1)) (first | exact hK.out _ D | exact hK.out _ DA | exact hK.out _ Bq0 | exact hK.out _ (Bq0.trans ((belowNew wq0 _).mono Bq0.size)) | exact hK.out _ Bq1 | exact hK.out _ (Bq1.trans ((belowNew wq1 _).mono Bq1.size)) | exact hK.out _ bn | exact hK.out _ (bn.trans ((belowNew wn _).mono bn.size)) | exact hK.out _ ((((bn.setCell Bq1.size _).setCell Bq1.size _).setCell Bq1.size _).setCell Bq1.size _) | exact hK.out _ ((((bn.setCell Bq0.size _).setCell Bq0.size _).setCell Bq0.size _).setCell Bq0.size _) | exact hK.out _ ((((bn.setCell D.size _).setCell D.size _).setCell D.size _).setCell D.size _) | go_keep) (first | (go_at_call 36; refine (impl_BesideCircuit uq0 C0 uq1 C1 RC0 rb1 wq1 (oq0_1.has) fit0 (oq1_1.has) fit1 HM.out).mono ?_; rintro e wn ⟨un, rfl, on, la, lb, bq⟩; have bn := Bq1.trans (bq.mono Bq1.size); have zn := z1.below' bq; obtain ⟨Gx, nx, cx, Ox, mx, dx, rfl, hx1, hx2⟩ := id on; have zc0 := zn.cell (i := 0) rfl; have zc1 := zn.cell (i := 1) rfl; have zc2 := zn.cell (i := 2) rfl; have zc3 := zn.cell (i := 3) rfl; have zf0 := zn.free 0; have zf1 := zn.free 1; have zf2 := zn.free 2; have zf3 := zn.free 3) | (go_at_call 36; refine (impl_BesideCircuit uq0 C0 uq1 C1 RC0 rb1 (wq1.alloc (.cells #[.int .i64 0, .int .i64 0, .slice none 0 0, .slice none 0 0] 30)) (oq0_1.has.below (belowNew wq1 (.cells #[.int .i64 0, .int .i64 0, .slice none 0 0, .slice none 0 0] 30))) fit0 (oq1_1.has.below (belowNew wq1 (.cells #[.int .i64 0, .int .i64 0, .slice none 0 0, .slice none 0 0] 30))) fit1 HM.out).mono ?_; rintro e wn ⟨un, rfl, on, la, lb, bq⟩; have bn := (Bq1.trans ((belowNew wq1 (.cells #[.int .i64 0, .int .i64 0, .slice none 0 0, .slice none 0 0] 30)).mono Bq1.size)).trans (bq.mono (Nat.le_trans Bq1.size (belowNew wq1 (.cells #[.int .i64 0, .int .i64 0, .slice none 0 0, .slice none 0 0] 30)).size)); have zn := (Blk.new wq1 #[.int .i64 0, .int .i64 0, .slice none 0 0, .slice none 0 0] 30).below' bq; obtain ⟨Gx, nx, cx, Ox, mx, dx, rfl, hx1, hx2⟩ := id on; have zc0 := zn.cell (i := 0) rfl; have zc1 := zn.cell (i := 1) rfl; have zc2 := zn.cell (i := 2) rfl; have zc3 := zn.cell (i := 3) rfl; have zf0 := zn.free 0; have zf1 := zn.free 1; have zf2 := zn.free 2; have zf3 := zn.free 3) | (go_at_call 36; refine (impl_BesideCircuit uq0 C0 uq1 C1 RC0 rb1 wq1 (oq0_1.has) fit0 (oq1_1.has) fit1 HM.out).mono ?_; rintro e wn ⟨un, rfl, on, la, lb, bq⟩; have bn := Bq1.trans (bq.mono Bq1.size); obtain ⟨Gx, nx, cx, Ox, mx, dx, rfl, hx1, hx2⟩ := id on) | (go_at_call 14; refine (HT1.out wq0 Bq0).mono ?_; rintro e wq1 ⟨uq1, rfl, oq1_1, bq1⟩; have Bq1 := Bq0.trans (bq1.mono Bq0.size); have oq0_1 := oq0_0.below bq1; have z1 := z0.below' bq1) | (go_at_call 14; refine (HT1.out (wq0.alloc (.cells #[.int .i64 0, .int .i64 0, .slice none 0 0, .slice none 0 0] 30)) (Bq0.trans ((belowNew wq0 (.cells #[.int .i64 0, .int .i64 0, .slice none 0 0, .slice none 0 0] 30)).mono Bq0.size))).mono ?_; rintro e wq1 ⟨uq1, rfl, oq1_1, bq1⟩; have Bq1 := (Bq0.trans ((belowNew wq0 (.cells #[.int .i64 0, .int .i64 0, .slice none 0 0, .slice none 0 0] 30)).mono Bq0.size)).trans (bq1.mono (Nat.le_trans Bq0.size (belowNew wq0 (.cells #[.int .i64 0, .int .i64 0, .slice none 0 0, .slice none 0 0] 30)).size)); have oq0_1 := (oq0_0.below (belowNew wq0 (.cells #[.int .i64 0, .int .i64 0, .slice none 0 0, .slice none 0 0] 30))).below bq1; have z1 := (Blk.new wq0 #[.int .i64 0, .int .i64 0, .slice none 0 0, .slice none 0 0] 30).below' bq1) | (go_at_call 14; refine (HT1.out wq0 Bq0).mono ?_; rintro e wq1 ⟨uq1, rfl, oq1_1, bq1⟩; have Bq1 := Bq0.trans (bq1.mono Bq0.size); have oq0_1 := oq0_0.below bq1) | (go_at_call 14; refine (HT0.out (w19.drew.alloc (.cells #[.int .i64 0, .int .i64 0, .slice none 0 0, .slice none 0 0] 30)) DA).mono ?_; rintro e wq0 ⟨uq0, rfl, oq0_0, bq0⟩; have Bq0 := DA.trans (bq0.mono DA.size); have z0 := zA.below' bq0) | (go_at_call 14; refine (HT0.out w19.drew D).mono ?_; rintro e wq0 ⟨uq0, rfl, oq0_0, bq0⟩; have Bq0 := D.trans (bq0.mono D.size)))
    all_goals go_wp2_with fail
    all_goals go_meet
    all_goals first
      | exact ⟨_, Gx, nx, cx, Ox, mx, dx, rfl, rfl, Blk.new wn _ _, (on.below (belowNew wn _)).mono Bq1.size, la, lb, bn.size, bn.trans ((belowNew wn _).mono bn.size)⟩
      | (obtain ⟨h1, h2, h3⟩ := fourSet (a := .int .i64 RC0.in0) (b := .int .i64 RC0.in1) (c := .slice Gx nx cx) (d := .slice Ox mx dx) on zn z1.lt bn Bq0.size; exact ⟨_, Gx, nx, cx, Ox, mx, dx, rfl, rfl, h1, h2.mono (by first | exact Bq1.size | exact (Bq1.trans ((belowNew wq1 _).mono Bq1.size)).size), la, lb, Bq0.size, h3⟩)
      | (obtain ⟨h1, h2, h3⟩ := fourSet (a := .int .i64 RC0.in0) (b := .int .i64 RC0.in1) (c := .slice Gx nx cx) (d := .slice Ox mx dx) on zn z1.lt bn D.size; exact ⟨_, Gx, nx, cx, Ox, mx, dx, rfl, rfl, h1, h2.mono (by first | exact Bq1.size | exact (Bq1.trans ((belowNew wq1 _).mono Bq1.size)).size), la, lb, D.size, h3⟩)
      | (obtain ⟨h1, h2, h3⟩ := fourSet (a := .int .i64 RC0.in0) (b := .int .i64 RC0.in1) (c := .slice Gx nx cx) (d := .slice Ox mx dx) on zn (by simp) bn Bq1.size; exact ⟨_, Gx, nx, cx, Ox, mx, dx, rfl, rfl, h1, h2.mono (by first | exact Bq1.size | exact (Bq1.trans ((belowNew wq1 _).mono Bq1.size)).size), la, lb, Bq1.size, h3⟩)
  case rest =>
  obtain ⟨gv20, Gag0, nag0, cag0, Oag0, mag0, dag0, rfl, rfl, var_ag0_20, ag0_20, la_ag0, lb_ag0, hgv20, b20⟩ := hcut
  have hgl120 := var_ag0_20.lt
  obtain ⟨w20, rfl⟩ : ∃ x, x = wc := ⟨_, rfl⟩
  clear hK D sD HT0 HT1
  have s20 := b20.size
  have B20 := B19.trans (b20.mono (by omega))
  have a0_20 := a0_19.below b20
  have a1_20 := a1_19.below b20
  have box0_20 := box0_19.below' b20
  have box1_20 := box1_19.below' b20
  have sp0_20 := sp0_19.below b20
  have var_sp0_20 := var_sp0_19.below' b20
  have im0_20 := im0_19.below b20
  have var_im0_20 := var_im0_19.below' b20
  clear b20 B19 a0_19 a1_19 box0_19 box1_19 sp0_19 var_sp0_19 im0_19 var_im0_19
  have ob_ag0 := ag0_20
  have var_ag0_c0 := var_ag0_20.cell (i := 0) rfl
  have var_ag0_c1 := var_ag0_20.cell (i := 1) rfl
  have var_ag0_c2 := var_ag0_20.cell (i := 2) rfl
  have var_ag0_c3 := var_ag0_20.cell (i := 3) rfl
  have var_sp0_c0 := var_sp0_20.cell (i := 0) rfl
  have var_sp0_c1 := var_sp0_20.cell (i := 1) rfl
  have var_sp0_c2 := var_sp0_20.cell (i := 2) rfl
  have var_sp0_c3 := var_sp0_20.cell (i := 3) rfl
  go_wp2_with fail
  clear var_ag0_c0 var_ag0_c1 var_ag0_c2 var_ag0_c3 var_sp0_c0 var_sp0_c1 var_sp0_c2 var_sp0_c3
  refine (eqCircuit_same _ _ RC0 w20 ag0_20.has sp0_20 la_sp0 lb_sp0).mono ?_
  rintro e w21 ⟨rfl, b21⟩
  have s21 := b21.size
  have B21 := B20.trans (b21.mono (by omega))
  have a0_21 := a0_20.below b21
  have a1_21 := a1_20.below b21
  have box0_21 := box0_20.below' b21
  have box1_21 := box1_20.below' b21
  have sp0_21 := sp0_20.below b21
  have var_sp0_21 := var_sp0_20.below' b21
  have im0_21 := im0_20.below b21
  have var_im0_21 := var_im0_20.below' b21
  have ag0_21 := ag0_20.below b21
  have var_ag0_21 := var_ag0_20.below' b21
  clear b21 B20 a0_20 a1_20 box0_20 box1_20 sp0_20 var_sp0_20 im0_20 var_im0_20 ag0_20 var_ag0_20
  have var_im0_c0 := var_im0_21.cell (i := 0) rfl
  have var_im0_c1 := var_im0_21.cell (i := 1) rfl
  have var_im0_c2 := var_im0_21.cell (i := 2) rfl
  have var_im0_c3 := var_im0_21.cell (i := 3) rfl
  go_wp2_with fail
  clear var_im0_c0 var_im0_c1 var_im0_c2 var_im0_c3
  refine (heldCircuit_any _ RC0 1 w21 im0_21.has la_sp0 lb_sp0 (by omega) (by omega)).mono ?_
  rintro e w22 ⟨rfl, b22⟩
  have s22 := b22.size
  have B22 := B21.trans (b22.mono (by omega))
  have a0_22 := a0_21.below b22
  have a1_22 := a1_21.below b22
  have box0_22 := box0_21.below' b22
  have box1_22 := box1_21.below' b22
  have sp0_22 := sp0_21.below b22
  have var_sp0_22 := var_sp0_21.below' b22
  have im0_22 := im0_21.below b22
  have var_im0_22 := var_im0_21.below' b22
  have ag0_22 := ag0_21.below b22
  have var_ag0_22 := var_ag0_21.below' b22
  clear b22 B21 a0_21 a1_21 box0_21 box1_21 sp0_21 var_sp0_21 im0_21 var_im0_21 ag0_21 var_ag0_21
  go_wp2_with fail
  go_ret
  exact ⟨rfl, B22⟩

set_option maxRecDepth 100000 in
theorem lifted (os : Os) (started : os.Started) (H : Type) (enc : TypeId × Value → H) :
    ReturnsInHanded {} Try.checked os 10 .any (Rows.fnExactBesideCircuitSpec.pre6 enc Try.prog Try.f10 Rows.fnExactBesideCircuitRow.domain false) (Rows.fnExactBesideCircuitSpec.post enc Try.prog Try.f10 false true false false) := by
  refine returnsInHanded_of_change (C := Try.checked) own started (by kernel_rfl) Try.func10
    (ChangeSpec.witness6 (enc := enc) (C := Try.checked) false ⟨#[], #[.agg #[.int .i64 0, .int .i64 0, .slice none 0 0, .slice none 0 0], .agg #[.int .i64 0, .int .i64 0, .slice none 0 0, .slice none 0 0]], []⟩ 8 (by kernel_rfl) (by kernel_rfl) (by kernel_rfl) (by kernel_rfl)) ?_
  intro W base args ds gs before hval0 hW hcnd _
  have hval : ∀ (j : Nat) t v, Try.f10.params[j]? = some t → args[j]? = some v → Value.okWide Try.prog W .any base t v := hval0
  have hW' := hW
  obtain ⟨p, q, hA0, hV, rfl, hfz, hnd⟩ := hW
  have hA : DataW.TrodAll enc Try.prog W 0 (fun _ => true) true Try.f10.params.toList args.toList ds p := hA0
  rw [Try.params10] at hA hval
  obtain ⟨v0, vs0, d0, ds0, p0, q0, hargs, rfl, rfl, h0, r0⟩ := trodAll_cons hA
  obtain ⟨v1, vs1, d1, ds1, p1, q1, hargs1, rfl, rfl, h1, r1⟩ := trodAll_cons r0
  obtain ⟨rfl, rfl, rfl⟩ := trodAll_nil r1
  obtain rfl : args = #[v0, v1] := by cases args; simp_all
  obtain ⟨rfl, rfl⟩ := trodVars_none hV
  clear hA0 hval0
  have hlt0 : ∀ x ∈ p0, x.block < W.heap.size := fun x hx => by simpa using hW'.lt x (by simp [hx])
  obtain ⟨C0, g0, fa0, fb0, wf0⟩ := openC (hval 0 _ v0 rfl rfl) h0
  have hlt1 : ∀ x ∈ p1, x.block < W.heap.size := fun x hx => by simpa using hW'.lt x (by simp [hx])
  obtain ⟨C1, g1, fa1, fb1, wf1⟩ := openC (hval 1 _ v1 rfl rfl) h1
  simp only [List.append_nil] at hW'
  refine (walk v0 C0 v1 C1 W g0 fa0 fb0 wf0 g1 fa1 fb1 wf1).mono fun e W' ⟨he, hb⟩ => ?_
  subst he
  exact ⟨_, rfl, lawPost (pa := p0 ++ (p1)) (pv := []) hW' (fun _ _ _ => trodAll_mk1 (shut_bool Try.underlying4 _)) (trodAll_mk2 (Below.trod laidOut (by kernel_rfl) (of_decide_eq_true (by kernel_rfl)) h0 hb hlt0) (Below.trod laidOut (by kernel_rfl) (of_decide_eq_true (by kernel_rfl)) h1 hb hlt1)) rfl (by simp) hb⟩

theorem proved : Rows.FnExactBesideCircuitSaid :=
  OpenClaim.holds_of_wide 10 Try.f10 rfl rfl rfl rfl rfl rfl rfl ⟨rfl, rfl, rfl, rfl, rfl⟩ rfl rfl rfl rfl rfl (by kernel_rfl) Try.func10 (by kernel_rfl)
    (of_decide_eq_true (by kernel_rfl)) (by unfold Func.isWrapper; first | (rw [if_pos (by decide +kernel)]; kernel_rfl) | (rw [if_neg (by decide +kernel)]; exact ⟨rfl, rfl⟩))
    (fun os started H enc _ => lifted os started H enc)

end Go.Proofs.Ytaohgbkhmgfnhaa.lawBesideCircuit
