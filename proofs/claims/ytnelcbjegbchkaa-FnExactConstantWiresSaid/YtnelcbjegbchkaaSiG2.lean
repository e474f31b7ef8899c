/- The model's values of an out, over all inputs of a small circuit. -/
import Derived.Test.YtnelcbjegbchkaaSiG1
import Derived.Test.YtnelcbjegbchkaaCirG10
namespace Go.Proofs.Ytnelcbjegbchkaa
open Go.RowKit
set_option maxRecDepth 100000

set_option maxRecDepth 100000 in
set_option maxHeartbeats 1000000 in
theorem siOut_any (v : Value) (C : Ci) (kk : Nat) (w : World) (h : HasC w v C) (hS : tiny C = true) (hkk : kk < C.os.length) :
    Calls Try.prog 105 #[v, .int .i64 (kk : Int)] w fun e w' => ∃ R m c', e = .returned (.slice R m c') ∧ Own w' w.heap.size R m c' (colOf C kk) ∧ m ≤ 16777216 ∧ Below w.heap.size w w' := by
  obtain ⟨p, N, hp, hpp, p10, hN, hNI, N0, N1⟩ := tinyPow hS
  have hG := gd_yes (tiny_yes hS).1
  obtain ⟨G, n, c, O, q, d, rfl, _, hO, _, _, _, _⟩ := id h
  have HGO := Lib.hid hG
  have HPP := Lib.hid hpp
  have HINS := Lib.hid hp
  have HNI := Lib.hid hNI
  have B1 := belowNew w (.cells #[.int .i64 C.in0, .int .i64 C.in1, .slice G n c, .slice O q d] 34)
  have p1 := Blk.new w #[.int .i64 C.in0, .int .i64 C.in1, .slice G n c, .slice O q d] 34
  have h1 := h.below B1
  obtain ⟨W1, hW1⟩ : ∃ W, W = w.alloc (.cells #[.int .i64 C.in0, .int .i64 C.in1, .slice G n c, .slice O q d] 34) := ⟨_, rfl⟩
  have hsz : w.heap.size < W1.heap.size := by rw [hW1]; simp
  rw [← hW1] at B1 p1 h1
  have HI : Hid (∀ W', Below W1.heap.size W1 W' → Calls Try.prog 80 #[.agg #[.int .i64 C.in0, .int .i64 C.in1, .slice G n c, .slice O q d]] W' fun e w' => e = .returned (.int .i64 (p : Int)) ∧ Below W'.heap.size W' w') := fun W' hb => by
    rw [← HINS.out]; exact ciInputs_any _ C W' (h1.below hb) HGO.out.a0 (by have := HGO.out.a1; omega) HGO.out.b0 (by have := HGO.out.b1; omega)
  rw [colOf, hN]
  clear h hG hS hp hpp hO hNI hN
  go_enter Try.func105, Try.ntmps105
  go_wp2_with fail
  rw [← hW1]
  clear hW1
  go_loopw [5, 6] (fun vv iv wr => ∃ (k : Nat) (R : Option Addr) (c' : Nat), k ≤ N ∧ iv = .int .i64 k ∧ vv = .slice R k c' ∧ Own wr W1.heap.size R k c' (colTo C kk k) ∧ Below W1.heap.size W1 wr) (fun _ iv _ => N - (intOf iv).toNat)
  case atStart => exact ⟨0, none, 0, Nat.zero_le _, rfl, rfl, Own.nil_ _ _, Below.refl _ _⟩
  case round =>
    obtain ⟨k, R, c', hk, rfl, rfl, ho, bk⟩ := hrel
    have q0 : (0 : Int) ≤ (k : Int) := by omega
    have p0 : (0 : Int) ≤ (p : Int) := by omega
    have pk := p1.below' bk
    obtain ⟨k0, k1, k2, k3⟩ := pk.four
    have HIk := Lib.hid (HI.out wr bk)
    have HE64 : Hid (wrap64 ((2 : Int) ^ p) = (N : Int)) := by show _ = _; rw [HNI.out]; unfold wrap64; omega
    go_wp2_with fail
    refine (HIk.out).mono ?_
    rintro e w3 ⟨rfl, b3⟩
    have bk3 := bk.trans (b3.mono bk.size)
    have p3 := pk.below' b3
    have ho3 := ho.below b3
    clear k0 k1 k2 k3 pk HIk bk b3 ho
    by_cases hlt : k < N
    · have hlt' : (k : Int) < (N : Int) := by omega
      have e64 := HE64.out
      go_wp2_with fail
      clear e64
      have P3 := Lib.hid p3
      have BK3 := Lib.hid bk3
      have HO3 := Lib.hid ho3
      have D : Below w3.heap.size w3 w3.drew := (Below.refl _ w3).drew
      have hK : Hid (∀ W', Below W1.heap.size w3 W' → W'.cell? ⟨w.heap.size, 0, none⟩ = some (.int .i64 C.in0) ∧ W'.cell? ⟨w.heap.size, 1, none⟩ = some (.int .i64 C.in1) ∧ W'.cell? ⟨w.heap.size, 2, none⟩ = some (.slice G n c) ∧ W'.cell? ⟨w.heap.size, 3, none⟩ = some (.slice O q d)) := fun W' hb => (P3.out.below hb hsz).four
      have HI2 : Hid (∀ W', Below w3.heap.size w3 W' → Calls Try.prog 80 #[.agg #[.int .i64 C.in0, .int .i64 C.in1, .slice G n c, .slice O q d]] W' fun e w' => e = .returned (.int .i64 (p : Int)) ∧ Below W'.heap.size W' w') := fun W' hb => HI.out W' (BK3.out.trans (hb.mono BK3.out.size))
      have HBt : Hid (∀ W', Calls Try.prog 133 #[.int .i64 (k : Int), .int .i64 (p : Int)] W' fun e w' => ∃ R c', e = .returned (.slice R p c') ∧ Own w' W'.heap.size R p c' (inBits C (k : Int)) ∧ Below W'.heap.size W' w') := fun W' => by
        rw [inBits, HPP.out]; exact btOf_any (k : Int) p W' q0 (by omega) (by omega)
      have HO2 : Hid (∀ R c' W' S, Below w3.heap.size w3 W' → Own W' S R p c' (inBits C (k : Int)) → Calls Try.prog 132 #[.agg #[.int .i64 C.in0, .int .i64 C.in1, .slice G n c, .slice O q d], .slice R p c'] W' fun e w' => ∃ R3 c3, e = .returned (.slice R3 C.os.length c3) ∧ Own w' W'.heap.size R3 C.os.length c3 (outBits C (k : Int)) ∧ Below W'.heap.size W' w') := fun R c' W' S hb ho => ciOuts_any _ C R p c' _ W' ((h1.below BK3.out).below hb) HGO.out ho.has (own_nilOk ho) (inBits_bits C k) (by rw [HINS.out])
      obtain ⟨zz, hzz⟩ : ∃ zz, (outBits C (k : Int)).getD kk 0 = zz := ⟨_, rfl⟩
      have HV : Hid (colTo C kk k ++ [zz] = colTo C kk (k + 1)) := by show _ = _; rw [colTo_succ, hzz]
      have HZZ := Lib.hid hzz
      have hkk0 : (0 : Int) ≤ (kk : Int) := by omega
      have hkk1 : (kk : Int) < (C.os.length : Int) := by omega
      have sW : W1.heap.size ≤ w3.heap.size := bk3.size
      clear hzz p3 bk3 ho3
      obtain ⟨x0, x1, x2, x3⟩ := hK.out w3.drew (D.mono sW)
      first
        | (go_region_law (first
          | (refine stepInt (w6.alloc (.cells #[.int .i64 zz] 3)) rfl (.tmp 15) (.tmp 25) rfl zz W1.heap.size _ k (colTo C kk k) w6.heap.size (by simp [Act.eval]) (by simp [Act.eval]) ((Blk.new w6 #[.int .i64 zz] 3).cell (i := 0) rfl) ((HO3.out.below Br).below (belowNew w6 (.cells #[.int .i64 zz] 3))).2 (by omega) (Nat.le_trans sW (Nat.le_trans Br.size (belowNew w6 (.cells #[.int .i64 zz] 3)).size)) ?_; intro g8 c8 w8 own8 b8; have Bz := ((Br.trans ((belowNew w6 (.cells #[.int .i64 zz] 3)).mono Br.size)).mono sW).trans b8)
          | (go_simp; go_at_call 132; refine Calls.mono (HO2.out R5 c5 w5 _ Bq o5) ?_; rintro e w6 ⟨R6, c6, rfl, o6, b6⟩; have Br := Bq.trans (b6.mono Bq.size); obtain ⟨a4, z4, ea4, hc4, HZ4⟩ := o6.has.elem hkk; subst ea4; obtain rfl : zz = z4 := (HZ4.out.trans HZZ.out).symm; dsimp only)
          | (go_simp; go_at_call 133; refine Calls.mono (HBt.out w4) ?_; rintro e w5 ⟨R5, c5, rfl, o5, b5⟩; have Bq := Bp.trans (b5.mono Bp.size); obtain ⟨y0, y1, y2, y3⟩ := hK.out w5 (Bq.mono sW); dsimp only)
          | (go_simp; go_at_call 80; refine Calls.mono (HI2.out w3.drew D) ?_; rintro e w4 ⟨rfl, b4⟩; have Bp := D.trans (b4.mono D.size); obtain ⟨u0, u1, u2, u3⟩ := hK.out w4 (Bp.mono sW); dsimp only)))
        | fail
      all_goals
        rw [HV.out] at own8
        have bz := BK3.out.trans Bz
        go_wp2_with fail
        go_roundw
        case rel => exact ⟨k + 1, _, c8, by omega, by go_num, rfl, own8, bz⟩
        case measure => simp [intOf]; omega
    · obtain rfl : k = N := by omega
      have e64 := HE64.out
      go_wp2_with fail
      clear e64
      go_ret
      exact ⟨R, k, c', rfl, ho3.mono B1.size, by omega, B1.trans (bk3.mono B1.size)⟩

end Go.Proofs.Ytnelcbjegbchkaa
