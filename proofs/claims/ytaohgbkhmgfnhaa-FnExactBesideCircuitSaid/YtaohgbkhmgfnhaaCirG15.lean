/- The model's circuit beside another. For every two circuits of at most 1048576 gates and outs. -/
import Derived.Test.YtaohgbkhmgfnhaaCirG11
import Derived.Test.YtaohgbkhmgfnhaaCirG12
import Derived.Test.YtaohgbkhmgfnhaaCirG2
import Derived.Test.YtaohgbkhmgfnhaaCirA2
import Derived.Deep.RegionLaw
import Derived.Deep.DeepCutAuto
import Derived.Deep.RegionWith
namespace Go.Proofs.Ytaohgbkhmgfnhaa
open Go.RowKit
set_option maxRecDepth 100000

set_option maxRecDepth 100000 in
set_option maxHeartbeats 8000000 in
theorem spec_BesideCircuit (v : Value) (C : Ci) (v' : Value) (D : Ci) (RC : Ci) (rb : Bool) (w : World) (h : HasC w v C) (hf : Fit C) (h' : HasC w v' D) (hf' : Fit D) (hm : m_BesideCircuit C D = (RC, rb)) :
    Calls Try.prog 35 #[v, v'] w fun e w' => ∃ u, e = .returned (.tuple #[u, .bool rb]) ∧ OwnC w' w.heap.size u RC ∧ RC.gs.length ≤ 1048576 ∧ RC.os.length ≤ 1048576 ∧ Below w.heap.size w w' := by
  obtain ⟨G, n, c, O, q, d, rfl, hGs, hO, hnc, hqd, hGn, hOn⟩ := id h
  obtain ⟨G2, n2, c2, O2, q2, d2, rfl, hGs2, hO2, hnc2, hqd2, hGn2, hOn2⟩ := id h'
  have HM := Lib.hid hm
  have HQ0 : Hid (C.os.length = q) := hO.1
  have HN2 : Hid (D.gs.length = n2) := hGs2.1
  have HQ2 : Hid (D.os.length = q2) := hO2.1
  have HN0 : Hid (C.gs.length = n) := hGs.1
  have b1 := belowNew w (.cells #[.int .i64 C.in0, .int .i64 C.in1, .slice G n c, .slice O q d] 30)
  have p1 := Blk.new w #[.int .i64 C.in0, .int .i64 C.in1, .slice G n c, .slice O q d] 30
  obtain ⟨W1, hW1⟩ : ∃ W, W = w.alloc (.cells #[.int .i64 C.in0, .int .i64 C.in1, .slice G n c, .slice O q d] 30) := ⟨_, rfl⟩
  have s1 : W1.heap.size = w.heap.size + 1 := by rw [hW1]; simp
  rw [← hW1] at b1 p1
  have b2 := belowNew W1 (.cells #[.int .i64 D.in0, .int .i64 D.in1, .slice G2 n2 c2, .slice O2 q2 d2] 30)
  have d2' := Blk.newAt (k := w.heap.size + 1) W1 #[.int .i64 D.in0, .int .i64 D.in1, .slice G2 n2 c2, .slice O2 q2 d2] 30 s1.symm
  have p2 := p1.below' b2
  obtain ⟨W2, hW2⟩ : ∃ W, W = W1.alloc (.cells #[.int .i64 D.in0, .int .i64 D.in1, .slice G2 n2 c2, .slice O2 q2 d2] 30) := ⟨_, rfl⟩
  have s2 : W2.heap.size = w.heap.size + 1 + 1 := by rw [hW2]; simp [s1]
  rw [← hW2] at b2 d2' p2
  have b3 := belowNew W2 (.cells #[.int .i64 0, .int .i64 0, .slice none 0 0, .slice none 0 0] 30)
  have r3 := Blk.newAt (k := w.heap.size + 1 + 1) W2 #[.int .i64 0, .int .i64 0, .slice none 0 0, .slice none 0 0] 30 s2.symm
  have p3 := p2.below' b3
  have d3 := d2'.below' b3
  obtain ⟨W3, hW3⟩ : ∃ W, W = W2.alloc (.cells #[.int .i64 0, .int .i64 0, .slice none 0 0, .slice none 0 0] 30) := ⟨_, rfl⟩
  have s3 : W3.heap.size = w.heap.size + 1 + 1 + 1 := by rw [hW3]; simp [s2]
  rw [← hW3] at b3 r3 p3 d3
  have B3 := (b1.trans (b2.mono b1.size)).trans (b3.mono (Nat.le_trans b1.size b2.size))
  have h3 := h.below B3
  have h3' := h'.below B3
  have lt0 : w.heap.size < W3.heap.size := by omega
  have lt1 : w.heap.size + 1 < W3.heap.size := by omega
  have lt2 : w.heap.size + 1 + 1 < W3.heap.size := by omega
  have hG3 := hGs.below B3
  have hO3 := hO.below B3
  have hG3' := hGs2.below B3
  have hO3' := hO2.below B3
  clear h h' hm b1 p1 b2 d2' p2 b3 s1 s2 hGs hO hGs2 hO2
  have hK : Hid (∀ W', Below W3.heap.size W3 W' → (W'.cell? ⟨w.heap.size, 0, none⟩ = some (.int .i64 C.in0) ∧ W'.cell? ⟨w.heap.size, 1, none⟩ = some (.int .i64 C.in1) ∧ W'.cell? ⟨w.heap.size, 2, none⟩ = some (.slice G n c) ∧ W'.cell? ⟨w.heap.size, 3, none⟩ = some (.slice O q d)) ∧ W'.cell? ⟨w.heap.size + 1, 0, none⟩ = some (.int .i64 D.in0) ∧ W'.cell? ⟨w.heap.size + 1, 1, none⟩ = some (.int .i64 D.in1) ∧ W'.cell? ⟨w.heap.size + 1, 2, none⟩ = some (.slice G2 n2 c2) ∧ W'.cell? ⟨w.heap.size + 1, 3, none⟩ = some (.slice O2 q2 d2)) := fun W' hb => ⟨(p3.below hb lt0).four, (d3.below hb lt1).four⟩
  have D0 : Below W3.heap.size W3 W3.drew := (Below.refl _ W3).drew
  have HGc := Lib.hid (ciGood_any _ C (gd C) W3 h3 (fitLen hf) rfl)
  have HGd : Hid (∀ W', Below W3.heap.size W3 W' → Calls Try.prog 41 #[.agg #[.int .i64 D.in0, .int .i64 D.in1, .slice G2 n2 c2, .slice O2 q2 d2]] W' fun e w' => e = .returned (.bool (gd D)) ∧ Below W'.heap.size W' w') := fun W' hb => ciGood_any _ D (gd D) W' (h3'.below hb) (fitLen hf') rfl
  go_enter Try.func35, Try.ntmps35
  go_upto_region 1 with fail
  rw [← hW1, ← hW2, ← hW3]
  clear hW1 hW2 hW3
  go_cut [22] (fun vq wx => vq = .bool (!decide (gd C = true ∧ gd D = true)) ∧ Below W3.heap.size W3 wx)
  case first =>
    obtain ⟨⟨i0, i1, i2, i3⟩, j0, j1, j2, j3⟩ := hK.out _ (Below.refl _ _)
    cases eg : gd C with
    | false =>
      go_wp2_with fail
      refine (HGc.out).mono ?_
      rintro e w4 ⟨rfl, b4⟩
      rw [eg]
      go_wp2_with fail
      go_meet
      exact ⟨by simp [eg], b4⟩
    | true =>
      go_wp2_with fail
      refine (HGc.out).mono ?_
      rintro e w4 ⟨rfl, b4⟩
      rw [eg]
      clear i0 i1 i2 i3 j0 j1 j2 j3
      obtain ⟨⟨i0, i1, i2, i3⟩, j0, j1, j2, j3⟩ := hK.out _ b4
      go_wp2_with fail
      refine (HGd.out w4 b4).mono ?_
      rintro e w5 ⟨rfl, b5⟩
      go_wp2_with fail
      go_meet
      exact ⟨by simp [eg], b4.trans (b5.mono b4.size)⟩
  case rest =>
    obtain ⟨rfl, B4⟩ := hcut
    obtain ⟨w4, rfl⟩ : ∃ x, x = wc := ⟨_, rfl⟩
    have r4 := r3.below B4 lt2
    have Bw := B3.trans (B4.mono B3.size)
    by_cases hok : gd C = true ∧ gd D = true
    · have hdec : decide (gd C = true ∧ gd D = true) = true := decide_eq_true hok
      have e := HM.out
      rw [m_BesideCircuit, if_pos hok] at e
      have HRC := Lib.hid e
      obtain ⟨gc, gd'⟩ := hok
      have gC := gd_yes gc
      have gD := gd_yes gd'
      have q40 : q ≤ 40 := by have := gC.o; have := HQ0.out; omega
      have n300 : n ≤ 300 := by have := gC.g; have := HN0.out; omega
      have n2300 : n2 ≤ 300 := by have := gD.g; have := HN2.out; omega
      have q240 : q2 ≤ 40 := by have := gD.o; have := HQ2.out; omega
      obtain ⟨p, hp⟩ : ∃ p : Nat, C.ins.toNat = p := ⟨_, rfl⟩
      obtain ⟨r, hr⟩ : ∃ r : Nat, D.ins.toNat = r := ⟨_, rfl⟩
      have hip : C.ins = (p : Int) := by have := gC.a0; have := gC.b0; unfold Ci.ins at hp ⊢; omega
      have hir : D.ins = (r : Int) := by have := gD.a0; have := gD.b0; unfold Ci.ins at hr ⊢; omega
      have p40 : p ≤ 40 := by have := gC.a1; have := gC.b1; unfold Ci.ins at hip; omega
      have r40 : r ≤ 40 := by have := gD.a1; have := gD.b1; unfold Ci.ins at hir; omega
      obtain ⟨ca0, ca1, cb0, cb1⟩ : 0 ≤ C.in0 ∧ C.in0 ≤ 20 ∧ 0 ≤ C.in1 ∧ C.in1 ≤ 20 := ⟨gC.a0, gC.a1, gC.b0, gC.b1⟩
      obtain ⟨da0, da1, db0, db1⟩ : 0 ≤ D.in0 ∧ D.in0 ≤ 20 ∧ 0 ≤ D.in1 ∧ D.in1 ≤ 20 := ⟨gD.a0, gD.a1, gD.b0, gD.b1⟩
      have HIc : Hid (∀ W', Below W3.heap.size W3 W' → Calls Try.prog 68 #[.agg #[.int .i64 C.in0, .int .i64 C.in1, .slice G n c, .slice O q d]] W' fun e w' => e = .returned (.int .i64 (p : Int)) ∧ Below W'.heap.size W' w') := fun W' hb => by rw [← hip]; exact ciInputs_any _ C W' (h3.below hb) ca0 (by omega) cb0 (by omega)
      have HId : Hid (∀ W', Below W3.heap.size W3 W' → Calls Try.prog 68 #[.agg #[.int .i64 D.in0, .int .i64 D.in1, .slice G2 n2 c2, .slice O2 q2 d2]] W' fun e w' => e = .returned (.int .i64 (r : Int)) ∧ Below W'.heap.size W' w') := fun W' hb => by rw [← hir]; exact ciInputs_any _ D W' (h3'.below hb) da0 (by omega) db0 (by omega)
      have HIP := Lib.hid hip
      have HIR := Lib.hid hir
      have HPp := Lib.hid hp
      have HRr := Lib.hid hr
      have GC := Lib.hid gC
      have GD := Lib.hid gD
      rw [hdec]
      clear hdec e gc gd' hip hir HM HGc HGd gC gD hp hr
      go_wp2_with fail
      go_loopw [6, 8] (fun vv iv wr => ∃ (k : Nat) (R : Option Addr) (c' : Nat), k ≤ p ∧ iv = .int .i64 k ∧ vv = .slice R k c' ∧ Own wr W3.heap.size R k c' (mapTo (leftAt C D) k) ∧ Below W3.heap.size W3 wr) (fun _ iv _ => p - (intOf iv).toNat)
      case atStart => exact ⟨0, none, 0, Nat.zero_le _, rfl, rfl, Own.nil_ _ _, B4⟩
      case round =>
        obtain ⟨k, R, c', hk, rfl, rfl, ho, bk⟩ := hrel
        have q0 : (0 : Int) ≤ (k : Int) := by omega
        have HBK := Lib.hid bk
        have HO := Lib.hid ho
        obtain ⟨⟨k0, k1, k2, k3⟩, m0, m1, m2, m3⟩ := hK.out _ bk
        clear bk ho
        go_wp2_with fail
        refine (HIc.out _ HBK.out).mono ?_
        rintro e w5 ⟨rfl, b5⟩
        have B5 := HBK.out.trans (b5.mono HBK.out.size)
        have s5 : W3.heap.size ≤ w5.heap.size := B5.size
        have ho5 := HO.out.below b5
        clear k0 k1 k2 k3 m0 m1 m2 m3
        obtain ⟨⟨k0, k1, k2, k3⟩, m0, m1, m2, m3⟩ := hK.out _ B5
        have HB5 := Lib.hid B5
        have hwk : IntKind.i64.wrap ((k : Int) + D.in0) = (k : Int) + D.in0 := wrapIn (by omega) (by omega)
        clear b5 B5
        by_cases hlt : k < p
        · have hltI : (k : Int) < (p : Int) := by omega
          by_cases hin : (k : Int) < C.in0
          · have HV : Hid (mapTo (leftAt C D) k ++ [(k : Int)] = mapTo (leftAt C D) (k + 1)) := by show _ = _; rw [mapTo_succ, leftAt, if_pos hin]
            go_wp2_with (at_builtin; refine appendInt w5 rfl (.tmp 34) (.tmp 36) rfl (k : Int) W3.heap.size _ k _ rfl rfl ho5.2 (by omega) s5 ?_; intro v6 w6 own6 b6)
            rw [HV.out] at own6
            obtain ⟨R6, c6, rfl, ho6⟩ := ownOf own6
            go_roundw
            case rel => exact ⟨_, _, _, _, _, _, _, _, _, _, _, _, _, _, _, _, _, _, _, _, _, _, _, ⟨k + 1, R6, c6, by omega, by go_num, rfl, ho6, HB5.out.trans b6⟩, rfl⟩
            case measure => simp [intOf]; omega
          · have HV : Hid (mapTo (leftAt C D) k ++ [(k : Int) + D.in0] = mapTo (leftAt C D) (k + 1)) := by show _ = _; rw [mapTo_succ, leftAt, if_neg hin]
            go_wp2_with (at_builtin; refine appendInt w5 rfl (.tmp 38) (.tmp 43) rfl ((k : Int) + D.in0) W3.heap.size _ k _ rfl rfl ho5.2 (by omega) s5 ?_; intro v6 w6 own6 b6)
            rw [HV.out] at own6
            obtain ⟨R6, c6, rfl, ho6⟩ := ownOf own6
            go_roundw
            case rel => exact ⟨_, _, _, _, _, _, _, _, _, _, _, _, _, _, _, _, _, _, _, _, _, _, _, ⟨k + 1, R6, c6, by omega, by go_num, rfl, ho6, HB5.out.trans b6⟩, rfl⟩
            case measure => simp [intOf]; omega
        · obtain rfl : k = p := by omega
          clear hwk hlt hk
          have s55 := s5
          clear k0 k1 k2 k3 m0 m1 m2 m3
          go_wp2_with fail
          go_loopw [7, 9] (fun vv iv wr => ∃ (j : Nat) (R : Option Addr) (c' : Nat), j ≤ r ∧ iv = .int .i64 j ∧ vv = .slice R j c' ∧ Own wr w5.heap.size R j c' (mapTo (rightAt C D) j) ∧ Below w5.heap.size w5 wr) (fun _ iv _ => r - (intOf iv).toNat)
          case atStart => exact ⟨0, none, 0, Nat.zero_le _, rfl, rfl, Own.nil_ _ _, Below.refl _ _⟩
          case round =>
            obtain ⟨j, R7, c7, hj, rfl, rfl, ho7, b7⟩ := hrel
            have q7 : (0 : Int) ≤ (j : Int) := by omega
            have HB7 := Lib.hid b7
            have HO7 := Lib.hid ho7
            have HB7' := Lib.hid (HB5.out.trans (b7.mono HB5.out.size))
            obtain ⟨⟨k0, k1, k2, k3⟩, m0, m1, m2, m3⟩ := hK.out _ HB7'.out
            clear b7 ho7
            go_wp2_with fail
            refine (HId.out _ HB7'.out).mono ?_
            rintro e w8 ⟨rfl, b8⟩
            have B8 := HB7.out.trans (b8.mono HB7.out.size)
            have s8 : w5.heap.size ≤ w8.heap.size := B8.size
            have ho8 := HO7.out.below b8
            have HB8 := Lib.hid B8
            have HB8' := Lib.hid (HB5.out.trans (B8.mono HB5.out.size))
            clear k0 k1 k2 k3 m0 m1 m2 m3
            obtain ⟨⟨k0, k1, k2, k3⟩, m0, m1, m2, m3⟩ := hK.out _ HB8'.out
            have hwk : IntKind.i64.wrap ((j : Int) + C.in0) = (j : Int) + C.in0 := wrapIn (by omega) (by omega)
            have hwk2 : IntKind.i64.wrap ((j : Int) + C.in0 + C.in1) = (j : Int) + C.in0 + C.in1 := wrapIn (by omega) (by omega)
            clear b8 B8
            by_cases hlt : j < r
            · have hltI : (j : Int) < (r : Int) := by omega
              by_cases hin : (j : Int) < D.in0
              · have HV : Hid (mapTo (rightAt C D) j ++ [(j : Int) + C.in0] = mapTo (rightAt C D) (j + 1)) := by show _ = _; rw [mapTo_succ, rightAt, if_pos hin]
                go_wp2_with (at_builtin; refine appendInt w8 rfl (.tmp 55) (.tmp 60) rfl ((j : Int) + C.in0) w5.heap.size _ j _ rfl rfl ho8.2 (by omega) s8 ?_; intro v9 w9 own9 b9)
                rw [HV.out] at own9
                obtain ⟨R9, c9, rfl, ho9⟩ := ownOf own9
                go_roundw
                case rel => exact ⟨j + 1, R9, c9, by omega, by go_num, rfl, ho9, HB8.out.trans b9⟩
                case measure => simp [intOf]; omega
              · have HV : Hid (mapTo (rightAt C D) j ++ [(j : Int) + C.in0 + C.in1] = mapTo (rightAt C D) (j + 1)) := by show _ = _; rw [mapTo_succ, rightAt, if_neg hin]
                go_wp2_with (at_builtin; refine appendInt w8 rfl (.tmp 62) (.tmp 70) rfl ((j : Int) + C.in0 + C.in1) w5.heap.size _ j _ rfl rfl ho8.2 (by omega) s8 ?_; intro v9 w9 own9 b9)
                rw [HV.out] at own9
                obtain ⟨R9, c9, rfl, ho9⟩ := ownOf own9
                go_roundw
                case rel => exact ⟨j + 1, R9, c9, by omega, by go_num, rfl, ho9, HB8.out.trans b9⟩
                case measure => simp [intOf]; omega
            · obtain rfl : j = r := by omega
              have hL8 := ho5.below HB8.out
              have hR8 := ho8
              have LxL : (mapTo (leftAt C D) k).length = k := mapTo_length _ _
              have RxR : (mapTo (rightAt C D) j).length = j := mapTo_length _ _
              have hwn : IntKind.i64.wrap ((k : Int) + (j : Int)) = ((k : Int) + (j : Int)) := wrapIn (by omega) (by omega)
              have hwn2 : IntKind.i64.wrap ((k : Int) + (j : Int) + (n : Int)) = ((k : Int) + (j : Int) + (n : Int)) := wrapIn (by omega) (by omega)
              have D8 : Below w8.heap.size w8 w8.drew := (Below.refl _ w8).drew
              have D8' := Lib.hid (HB8'.out.trans (D8.mono HB8'.out.size))
              have hK8 : Hid (∀ W', Below w8.heap.size w8 W' → (W'.cell? ⟨w.heap.size, 0, none⟩ = some (.int .i64 C.in0) ∧ W'.cell? ⟨w.heap.size, 1, none⟩ = some (.int .i64 C.in1) ∧ W'.cell? ⟨w.heap.size, 2, none⟩ = some (.slice G n c) ∧ W'.cell? ⟨w.heap.size, 3, none⟩ = some (.slice O q d)) ∧ W'.cell? ⟨w.heap.size + 1, 0, none⟩ = some (.int .i64 D.in0) ∧ W'.cell? ⟨w.heap.size + 1, 1, none⟩ = some (.int .i64 D.in1) ∧ W'.cell? ⟨w.heap.size + 1, 2, none⟩ = some (.slice G2 n2 c2) ∧ W'.cell? ⟨w.heap.size + 1, 3, none⟩ = some (.slice O2 q2 d2)) := fun W' hb => hK.out W' (HB8'.out.trans (hb.mono HB8'.out.size))
              have HId' : Hid (∀ W', Below w8.heap.size w8 W' → Calls Try.prog 68 #[.agg #[.int .i64 D.in0, .int .i64 D.in1, .slice G2 n2 c2, .slice O2 q2 d2]] W' fun e w' => e = .returned (.int .i64 (j : Int)) ∧ Below W'.heap.size W' w') := fun W' hb => HId.out W' (HB8'.out.trans (hb.mono HB8'.out.size))
              clear hwk hwk2 hlt hj k0 k1 k2 k3 m0 m1 m2 m3
              go_wp2_with fail
              first | (go_region_held3 (fun w' => (w'.cell? ⟨w.heap.size, 0, none⟩ = some (.int .i64 C.in0) ∧ w'.cell? ⟨w.heap.size, 1, none⟩ = some (.int .i64 C.in1) ∧ w'.cell? ⟨w.heap.size, 2, none⟩ = some (.slice G n c) ∧ w'.cell? ⟨w.heap.size, 3, none⟩ = some (.slice O q d)) ∧ w'.cell? ⟨w.heap.size + 1, 0, none⟩ = some (.int .i64 D.in0) ∧ w'.cell? ⟨w.heap.size + 1, 1, none⟩ = some (.int .i64 D.in1) ∧ w'.cell? ⟨w.heap.size + 1, 2, none⟩ = some (.slice G2 n2 c2) ∧ w'.cell? ⟨w.heap.size + 1, 3, none⟩ = some (.slice O2 q2 d2)) (first | exact hK8.out _ D8 | exact hK8.out _ Br | exact hK8.out _ Bq | go_keep) (first | (go_at_call 68; refine (HId'.out w9 Bq).mono ?_; rintro e w10 ⟨rfl, b10⟩; have Br := Bq.trans (b10.mono Bq.size)) | (go_at_call 68; refine (HIc.out _ D8'.out).mono ?_; rintro e w9 ⟨rfl, b9⟩; have Bq := D8.trans (b9.mono D8.size)))) | fail
              have B10 := Lib.hid (HB8'.out.trans (Br.mono HB8'.out.size))
              have hL10 := hL8.below Br
              have hR10 := hR8.below Br
              have s10 := B10.out.size
              clear b9 b10 Bq hL8 hR8 hK8 HId' D8 D8'
              obtain ⟨⟨k0, k1, k2, k3⟩, m0, m1, m2, m3⟩ := hK.out _ B10.out
              have HM1 := Lib.hid (ciMoved_any G n c C.gs R k c' (mapTo (leftAt C D) k) ((k : Int) + (j : Int)) w10 (hG3.below B10.out) n300 hL10.has (by omega) (own_nilOk hL10) (fun i hi => by have := GC.out.gate i (by rw [HN0.out]; exact hi); rw [HIP.out] at this; exact this) (by omega) (by omega))
              clear Br
              go_wp2_with fail
              refine (HM1.out).mono ?_
              rintro e w11 ⟨Ra, ca, Rx, cx', rfl, oA, oX, b11⟩
              have B11 := Lib.hid (B10.out.trans (b11.mono B10.out.size))
              have hR11 := hR10.below b11
              have s11 := b11.size
              clear k0 k1 k2 k3 m0 m1 m2 m3 HM1 hL10 hR10
              obtain ⟨⟨k0, k1, k2, k3⟩, m0, m1, m2, m3⟩ := hK.out _ B11.out
              have HM2 := Lib.hid (ciMoved_any G2 n2 c2 D.gs R7 j c7 (mapTo (rightAt C D) j) ((k : Int) + (j : Int) + (n : Int)) w11 (hG3'.below B11.out) n2300 hR11.has (by omega) (own_nilOk hR11) (fun i hi => by have := GD.out.gate i (by rw [HN2.out]; exact hi); rw [HIR.out] at this; exact this) (by omega) (by omega))
              have HAX := Lib.hid (And.intro oA oX)
              clear oA oX hR11
              go_wp2_with fail
              refine (HM2.out).mono ?_
              rintro e w12 ⟨Rb, cb', Ry, cy, rfl, oB, oY, b12⟩
              have B12 := Lib.hid (B11.out.trans (b12.mono B11.out.size))
              have s12 := b12.size
              obtain ⟨oA, oX⟩ := HAX.out
              have oA12 : OwnG w12.drew w10.heap.size Ra n ca (movTo C.gs (mapTo (leftAt C D) k) ((k : Int) + (j : Int)) n) := (show OwnG w12 w10.heap.size Ra n ca (movTo C.gs (mapTo (leftAt C D) k) ((k : Int) + (j : Int)) n) from oA.below b12)
              have oX12 : Own w12.drew w10.heap.size Rx (k + n) cx' (wiresTo (mapTo (leftAt C D) k) ((k : Int) + (j : Int)) n) := (show Own w12 w10.heap.size Rx (k + n) cx' (wiresTo (mapTo (leftAt C D) k) ((k : Int) + (j : Int)) n) from oX.below b12)
              have oB12 : OwnG w12.drew w11.heap.size Rb n2 cb' (movTo D.gs (mapTo (rightAt C D) j) ((k : Int) + (j : Int) + (n : Int)) n2) := oB
              have oY12 : Own w12.drew w11.heap.size Ry (j + n2) cy (wiresTo (mapTo (rightAt C D) j) ((k : Int) + (j : Int) + (n : Int)) n2) := oY
              have bn := oB12.nilOk
              have bh := oB12.has
              clear k0 k1 k2 k3 m0 m1 m2 m3 HM2 HAX oA oX oB oY b11 b12
              obtain ⟨T, hT⟩ : ∃ T : Ci, T = ⟨C.in0 + D.in0, C.in1 + D.in1, movTo C.gs (mapTo (leftAt C D) k) ((k : Int) + (j : Int)) n ++ movTo D.gs (mapTo (rightAt C D) j) ((k : Int) + (j : Int) + (n : Int)) n2, pickL (wiresTo (mapTo (leftAt C D) k) ((k : Int) + (j : Int)) n) C.os ++ pickL (wiresTo (mapTo (rightAt C D) j) ((k : Int) + (j : Int) + (n : Int)) n2) D.os⟩ := ⟨_, rfl⟩
              have HTh : Hid (ifG T = (RC, rb)) := by
                have e : besideC C D = T := by rw [hT, besideC, HPp.out, HRr.out, HIP.out, HIR.out, HN0.out, HN2.out]
                rw [← e]
                exact HRC.out
              have Tg : T.gs.length ≤ 1048576 ∧ T.os.length ≤ 1048576 := by
                have := HQ0.out
                have := HQ2.out
                rw [hT]
                constructor
                · show (movTo C.gs (mapTo (leftAt C D) k) ((k : Int) + (j : Int)) n ++ movTo D.gs (mapTo (rightAt C D) j) ((k : Int) + (j : Int) + (n : Int)) n2).length ≤ 1048576
                  rw [List.length_append, movTo_length, movTo_length]; omega
                · show (pickL (wiresTo (mapTo (leftAt C D) k) ((k : Int) + (j : Int)) n) C.os ++ pickL (wiresTo (mapTo (rightAt C D) j) ((k : Int) + (j : Int) + (n : Int)) n2) D.os).length ≤ 1048576
                  simp only [pickL, List.length_append, List.length_map]; omega
              have hsz : RC.gs.length ≤ 1048576 ∧ RC.os.length ≤ 1048576 := by
                have e := HTh.out
                unfold ifG at e
                split at e
                · obtain ⟨rfl, _⟩ := Prod.mk.inj e; exact Tg
                · obtain ⟨rfl, _⟩ := Prod.mk.inj e; exact ⟨by simp, by simp⟩
              have HSz := Lib.hid hsz
              have HTI : Hid (∀ B v W', OwnC W' B v T → Calls Try.prog 71 #[v] W' fun e w' => ∃ u, e = .returned (.tuple #[u, .bool rb]) ∧ OwnC w' B u RC ∧ Below W'.heap.size W' w') := fun B v W' ho => (ciIf_any v T B W' ho Tg).mono (by rintro e w' ⟨u, rfl, h1, h2⟩; rw [HTh.out] at h1 ⊢; exact ⟨u, rfl, h1, h2⟩)
              have HOT : Hid (∀ R cR P cP W' B, OwnG W' B R (n + n2) cR (movTo C.gs (mapTo (leftAt C D) k) ((k : Int) + (j : Int)) n ++ movTo D.gs (mapTo (rightAt C D) j) ((k : Int) + (j : Int) + (n : Int)) n2) → Own W' B P (q + q2) cP (pickL (wiresTo (mapTo (leftAt C D) k) ((k : Int) + (j : Int)) n) C.os ++ pickL (wiresTo (mapTo (rightAt C D) j) ((k : Int) + (j : Int) + (n : Int)) n2) D.os) → OwnC W' B (.agg #[.int .i64 (C.in0 + D.in0), .int .i64 (C.in1 + D.in1), .slice R (n + n2) cR, .slice P (q + q2) cP]) T) := fun R cR P cP W' B h1 h2 => by rw [hT]; exact ⟨R, n + n2, cR, P, q + q2, cP, rfl, h1, h2⟩
              have HxC : Hid (∀ i, i < C.os.length → 0 ≤ C.os.getD i 0 ∧ C.os.getD i 0 < ((k + n : Nat) : Int)) := fun i hi => by
                have h5 := GC.out.out i hi
                have e5 : C.wires = C.ins + (C.gs.length : Int) := rfl
                have := HN0.out; have := HIP.out
                push_cast
                omega
              have HxD : Hid (∀ i, i < D.os.length → 0 ≤ D.os.getD i 0 ∧ D.os.getD i 0 < ((j + n2 : Nat) : Int)) := fun i hi => by
                have h5 := GD.out.out i hi
                have e5 : D.wires = D.ins + (D.gs.length : Int) := rfl
                have := HN2.out; have := HIR.out
                push_cast
                omega
              have s1012 : w10.heap.size ≤ w12.heap.size := by omega
              have hB : Hid (∀ W', Below w10.heap.size w12 W' → Below W3.heap.size W3 W') := fun W' hb => B12.out.trans (hb.mono s10)
              have D12 : Below w10.heap.size w12 w12.drew := (Below.refl _ w12).drew
              have hw0 : IntKind.i64.wrap (C.in0 + D.in0) = C.in0 + D.in0 := wrapIn (by omega) (by omega)
              have hw1 : IntKind.i64.wrap (C.in1 + D.in1) = C.in1 + D.in1 := wrapIn (by omega) (by omega)
              have lt26 : w.heap.size + 1 + 1 < w10.heap.size := Nat.lt_of_lt_of_le lt2 s10
              have hR9 : Hid (∀ W', Below w10.heap.size w12 W' → Blk W' (w.heap.size + 1 + 1) #[.int .i64 0, .int .i64 0, .slice none 0 0, .slice none 0 0] 30) := fun W' hb => r3.below (hB.out W' hb) lt2
              have hS9 : Hid (∀ W' a b c' d', Below w10.heap.size w12 W' → (((((W'.setCell ⟨w.heap.size + 1 + 1, 0, none⟩ a).setCell ⟨w.heap.size + 1 + 1, 1, none⟩ b).setCell ⟨w.heap.size + 1 + 1, 2, none⟩ c').setCell ⟨w.heap.size + 1 + 1, 3, none⟩ d').cell? ⟨w.heap.size, 0, none⟩ = some (.int .i64 C.in0) ∧ ((((W'.setCell ⟨w.heap.size + 1 + 1, 0, none⟩ a).setCell ⟨w.heap.size + 1 + 1, 1, none⟩ b).setCell ⟨w.heap.size + 1 + 1, 2, none⟩ c').setCell ⟨w.heap.size + 1 + 1, 3, none⟩ d').cell? ⟨w.heap.size, 1, none⟩ = some (.int .i64 C.in1) ∧ ((((W'.setCell ⟨w.heap.size + 1 + 1, 0, none⟩ a).setCell ⟨w.heap.size + 1 + 1, 1, none⟩ b).setCell ⟨w.heap.size + 1 + 1, 2, none⟩ c').setCell ⟨w.heap.size + 1 + 1, 3, none⟩ d').cell? ⟨w.heap.size, 2, none⟩ = some (.slice G n c) ∧ ((((W'.setCell ⟨w.heap.size + 1 + 1, 0, none⟩ a).setCell ⟨w.heap.size + 1 + 1, 1, none⟩ b).setCell ⟨w.heap.size + 1 + 1, 2, none⟩ c').setCell ⟨w.heap.size + 1 + 1, 3, none⟩ d').cell? ⟨w.heap.size, 3, none⟩ = some (.slice O q d)) ∧ ((((W'.setCell ⟨w.heap.size + 1 + 1, 0, none⟩ a).setCell ⟨w.heap.size + 1 + 1, 1, none⟩ b).setCell ⟨w.heap.size + 1 + 1, 2, none⟩ c').setCell ⟨w.heap.size + 1 + 1, 3, none⟩ d').cell? ⟨w.heap.size + 1, 0, none⟩ = some (.int .i64 D.in0) ∧ ((((W'.setCell ⟨w.heap.size + 1 + 1, 0, none⟩ a).setCell ⟨w.heap.size + 1 + 1, 1, none⟩ b).setCell ⟨w.heap.size + 1 + 1, 2, none⟩ c').setCell ⟨w.heap.size + 1 + 1, 3, none⟩ d').cell? ⟨w.heap.size + 1, 1, none⟩ = some (.int .i64 D.in1) ∧ ((((W'.setCell ⟨w.heap.size + 1 + 1, 0, none⟩ a).setCell ⟨w.heap.size + 1 + 1, 1, none⟩ b).setCell ⟨w.heap.size + 1 + 1, 2, none⟩ c').setCell ⟨w.heap.size + 1 + 1, 3, none⟩ d').cell? ⟨w.heap.size + 1, 2, none⟩ = some (.slice G2 n2 c2) ∧ ((((W'.setCell ⟨w.heap.size + 1 + 1, 0, none⟩ a).setCell ⟨w.heap.size + 1 + 1, 1, none⟩ b).setCell ⟨w.heap.size + 1 + 1, 2, none⟩ c').setCell ⟨w.heap.size + 1 + 1, 3, none⟩ d').cell? ⟨w.heap.size + 1, 3, none⟩ = some (.slice O2 q2 d2)) := fun W' a b c' d' hb =>
                ⟨(((((p3.below (hB.out W' hb) lt0).other (b := w.heap.size + 1 + 1) (by omega) 0 a).other (b := w.heap.size + 1 + 1) (by omega) 1 b).other (b := w.heap.size + 1 + 1) (by omega) 2 c').other (b := w.heap.size + 1 + 1) (by omega) 3 d').four, (((((d3.below (hB.out W' hb) lt1).other (b := w.heap.size + 1 + 1) (by omega) 0 a).other (b := w.heap.size + 1 + 1) (by omega) 1 b).other (b := w.heap.size + 1 + 1) (by omega) 2 c').other (b := w.heap.size + 1 + 1) (by omega) 3 d').four⟩
              have hKB : Hid (∀ W', Below w10.heap.size w12 W' → (W'.cell? ⟨w.heap.size, 0, none⟩ = some (.int .i64 C.in0) ∧ W'.cell? ⟨w.heap.size, 1, none⟩ = some (.int .i64 C.in1) ∧ W'.cell? ⟨w.heap.size, 2, none⟩ = some (.slice G n c) ∧ W'.cell? ⟨w.heap.size, 3, none⟩ = some (.slice O q d)) ∧ W'.cell? ⟨w.heap.size + 1, 0, none⟩ = some (.int .i64 D.in0) ∧ W'.cell? ⟨w.heap.size + 1, 1, none⟩ = some (.int .i64 D.in1) ∧ W'.cell? ⟨w.heap.size + 1, 2, none⟩ = some (.slice G2 n2 c2) ∧ W'.cell? ⟨w.heap.size + 1, 3, none⟩ = some (.slice O2 q2 d2)) := fun W' hb => hK.out W' (hB.out W' hb)
              clear hT hsz hK HRC hwn hwn2 oB12
              go_wp2_with fail
              first | (go_region_held3 (fun w' => (w'.cell? ⟨w.heap.size, 0, none⟩ = some (.int .i64 C.in0) ∧ w'.cell? ⟨w.heap.size, 1, none⟩ = some (.int .i64 C.in1) ∧ w'.cell? ⟨w.heap.size, 2, none⟩ = some (.slice G n c) ∧ w'.cell? ⟨w.heap.size, 3, none⟩ = some (.slice O q d)) ∧ w'.cell? ⟨w.heap.size + 1, 0, none⟩ = some (.int .i64 D.in0) ∧ w'.cell? ⟨w.heap.size + 1, 1, none⟩ = some (.int .i64 D.in1) ∧ w'.cell? ⟨w.heap.size + 1, 2, none⟩ = some (.slice G2 n2 c2) ∧ w'.cell? ⟨w.heap.size + 1, 3, none⟩ = some (.slice O2 q2 d2)) (first | exact hKB.out _ D12 | exact hKB.out _ Ba | exact hKB.out _ Bp | exact hKB.out _ Bq | exact hKB.out _ Bj | exact hKB.out _ B9 | exact hS9.out _ _ _ _ _ B9 | go_keep) (first
                | (refine stepGatesG w12.drew rfl (.tmp 106) (.tmp 107) rfl w10.heap.size Ra Rb n ca n2 cb' (movTo C.gs (mapTo (leftAt C D) k) ((k : Int) + (j : Int)) n) (movTo D.gs (mapTo (rightAt C D) j) ((k : Int) + (j : Int) + (n : Int)) n2) (by simp [Act.eval]) oA12 (by simp [Act.eval]) bn bh (by omega) (by omega) s1012 ?_; intro Rg cg wa og ba gr; have Ba := D12.trans ba; have oXa := oX12.apartG oA12 gr; have oYa := oY12.apartG oA12 gr; have sa := ba.size)
                | (go_at_call 71; refine (HTI.out w10.heap.size _ w15 (HOT.out Rg cg Rj cj w15 w10.heap.size (((og.below bp).below bq).below bj) (oj.mono (by have := bp.size; have := bq.size; simp at sa; omega)))).mono ?_; rintro e w9' ⟨u, rfl, ou, b9⟩; have B9 := Bj.trans (b9.mono (by have := bp.size; have := bq.size; have := bj.size; simp at sa; omega)); obtain ⟨Gx, nx, cx, Ox, mx, dx, rfl, hx1, hx2⟩ := id ou; obtain ⟨z0, z1, z2, z3⟩ := (hR9.out _ B9).four; have zf0 := (hR9.out _ B9).free 0; have zf1 := (hR9.out _ B9).free 1; have zf2 := (hR9.out _ B9).free 2; have zf3 := (hR9.out _ B9).free 3)
                | (go_at_call 51; refine (ciJoin_any Rp q cp _ Rq q2 cq _ w14 (op.below bq).has (by omega) (own_nilOk op) oq.has (by omega) (own_nilOk oq)).mono ?_; rintro e w15 ⟨Rj, cj, rfl, oj, bj⟩; have Bj := Bq.trans (bj.mono (by have := bp.size; have := bq.size; simp at sa; omega)))
                | (go_at_call 72; refine (ciPick_any Ry (j + n2) cy _ O2 q2 d2 D.os w13 (oYa.below bp).has (by omega) (hO3'.below (hB.out _ Bp)) (by omega) HxD.out).mono ?_; rintro e w14 ⟨Rq, cq, rfl, oq, bq⟩; have Bq := Bp.trans (bq.mono (by have := bp.size; simp at sa; omega)))
                | (go_at_call 72; refine (ciPick_any Rx (k + n) cx' _ O q d C.os wa oXa.has (by omega) (hO3.below (hB.out _ Ba)) (by omega) HxC.out).mono ?_; rintro e w13 ⟨Rp, cp, rfl, op, bp⟩; have Bp := Ba.trans (bp.mono (by simp at sa; omega))))) | fail
              go_wp2_with fail
              have r10 := ((((hR9.out _ B9).set 0 (.int .i64 RC.in0)).set 1 (.int .i64 RC.in1)).set 2 (.slice Gx nx cx)).set 3 (.slice Ox mx dx)
              obtain ⟨e0, e1, e2, e3⟩ := (show Blk _ (w.heap.size + 1 + 1) #[.int .i64 RC.in0, .int .i64 RC.in1, .slice Gx nx cx, .slice Ox mx dx] 30 from r10).four
              have g10 := grown_setCell (grown_setCell (grown_setCell (grown_setCell (World.grownBy.refl w9' (some (w.heap.size + 1 + 1))) 0 (.int .i64 RC.in0)) 1 (.int .i64 RC.in1)) 2 (.slice Gx nx cx)) 3 (.slice Ox mx dx)
              have Bz : Below w.heap.size w w9' := B3.trans ((hB.out _ B9).mono B3.size)
              refine bodyPost_ret (v := .tuple #[.agg #[.int .i64 RC.in0, .int .i64 RC.in1, .slice Gx nx cx, .slice Ox mx dx], .bool rb]) (by simp [results, Try.results35, go_sem, e0, e1, e2, e3]) rfl ⟨_, rfl, (ou.kept g10 lt26).mono (by omega), HSz.out.1, HSz.out.2, ?_⟩
              exact (((Bz.setCell (by show w.heap.size ≤ w.heap.size + 1 + 1; omega) _).setCell (by show w.heap.size ≤ w.heap.size + 1 + 1; omega) _).setCell (by show w.heap.size ≤ w.heap.size + 1 + 1; omega) _).setCell (by show w.heap.size ≤ w.heap.size + 1 + 1; omega) _
    · have hdec : decide (gd C = true ∧ gd D = true) = false := decide_eq_false hok
      have e := HM.out
      rw [m_BesideCircuit, if_neg hok] at e
      obtain ⟨rfl, rfl⟩ := Prod.mk.inj e
      obtain ⟨c0, c1, c2', c3⟩ := r4.four
      have f0 := r4.free 0
      have f1 := r4.free 1
      have f2 := r4.free 2
      have f3 := r4.free 3
      rw [hdec]
      clear hdec hok e hK HGc HGd HM
      go_wp2_with fail
      have r5 := (((r4.set 0 (.int .i64 0)).set 1 (.int .i64 0)).set 2 (.slice none 0 0)).set 3 (.slice none 0 0)
      obtain ⟨e0, e1, e2, e3⟩ := (show Blk _ (w.heap.size + 1 + 1) #[.int .i64 0, .int .i64 0, .slice none 0 0, .slice none 0 0] 30 from r5).four
      refine bodyPost_ret (v := .tuple #[.agg #[.int .i64 0, .int .i64 0, .slice none 0 0, .slice none 0 0], .bool false]) (by simp [results, Try.results35, go_sem, e0, e1, e2, e3]) rfl ⟨_, rfl, zeroOwnC _ _, ?_⟩
      exact (((Bw.setCell (by show w.heap.size ≤ w.heap.size + 1 + 1; omega) _).setCell (by show w.heap.size ≤ w.heap.size + 1 + 1; omega) _).setCell (by show w.heap.size ≤ w.heap.size + 1 + 1; omega) _).setCell (by show w.heap.size ≤ w.heap.size + 1 + 1; omega) _

end Go.Proofs.Ytaohgbkhmgfnhaa
