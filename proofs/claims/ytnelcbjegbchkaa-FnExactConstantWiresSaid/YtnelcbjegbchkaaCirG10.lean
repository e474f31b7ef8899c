/- The model's truth tables. For every circuit of at most 1048576 gates and outs. -/
import Derived.Test.YtnelcbjegbchkaaCirM5
import Derived.Test.YtnelcbjegbchkaaCirG4
import Derived.Deep.DeepCutAuto
namespace Go.Proofs.Ytnelcbjegbchkaa
open Go.RowKit
set_option maxRecDepth 100000

set_option maxRecDepth 100000 in
set_option maxHeartbeats 2000000 in
theorem ciSmall_any (v : Value) (C : Ci) (b : Bool) (w : World) (h : HasC w v C) (hf : Fit C) (hb : small C = b) :
    Calls Try.prog 61 #[v] w fun e w' => e = .returned (.bool b) ∧ Below w.heap.size w w' := by
  obtain ⟨G, n, c, O, q, d, rfl, _, hO, _, _, _, _⟩ := id h
  have HOL := Lib.hid hO.1
  have HB := Lib.hid hb
  have B1 := belowNew w (.cells #[.int .i64 C.in0, .int .i64 C.in1, .slice G n c, .slice O q d] 34)
  have p1 := Blk.new w #[.int .i64 C.in0, .int .i64 C.in1, .slice G n c, .slice O q d] 34
  have h1 := h.below B1
  obtain ⟨W1, hW1⟩ : ∃ W, W = w.alloc (.cells #[.int .i64 C.in0, .int .i64 C.in1, .slice G n c, .slice O q d] 34) := ⟨_, rfl⟩
  rw [← hW1] at B1 p1 h1
  clear h hO hb
  have HG := Lib.hid (ciGood_any _ C (gd C) W1 h1 (fitLen hf) rfl)
  obtain ⟨k0, k1, k2, k3⟩ := p1.four
  cases eg : gd C with
  | false =>
    have e : b = false := by rw [← HB.out, small, eg]; rfl
    subst e
    go_enter Try.func61, Try.ntmps61
    go_wp2_with fail
    rw [← hW1]
    refine (HG.out).mono ?_
    rintro e w2 ⟨rfl, b2⟩
    rw [eg]
    go_wp2_with fail
    go_ret
    exact ⟨rfl, B1.trans (b2.mono B1.size)⟩
  | true =>
    have hGood := gd_yes eg
    have hd : (decide (C.ins ≤ 10) && decide (C.os.length ≤ 16)) = b := by rw [← HB.out, small, eg]; simp
    have HD := Lib.hid hd
    clear hd
    have hq : ∀ (u : Bool), (decide (C.ins ≤ 10) && decide ((q : Int) ≤ 16)) = u → b = u := fun u hu => by
      rw [← HD.out, ← hu, HOL.out]
      congr 1
      rw [decide_eq_decide]
      omega
    have HQ := Lib.hid hq
    clear hq
    go_enter Try.func61, Try.ntmps61
    go_wp2_with fail
    rw [← hW1]
    clear hW1
    refine (HG.out).mono ?_
    rintro e w2 ⟨rfl, b2⟩
    rw [eg]
    have p2 := p1.below' b2
    have h2 := h1.below b2
    have B2 := B1.trans (b2.mono B1.size)
    clear p1 h1 b2 B1 k0 k1 k2 k3
    obtain ⟨k0, k1, k2, k3⟩ := p2.four
    have HI := Lib.hid (ciInputs_any _ C w2 h2 hGood.a0 (by have := hGood.a1; omega) hGood.b0 (by have := hGood.b1; omega))
    clear HG hGood eg
    go_wp2_with fail
    refine (HI.out).mono ?_
    rintro e w3 ⟨rfl, b3⟩
    have p3 := p2.below' b3
    have B3 := B2.trans (b3.mono B2.size)
    clear p2 h2 b3 B2 k0 k1 k2 k3
    obtain ⟨k0, k1, k2, k3⟩ := p3.four
    generalize C.ins = i at *
    by_cases c10 : i ≤ 10
    · have e : b = decide ((q : Int) ≤ 16) := HQ.out _ (by rw [decide_eq_true c10, Bool.true_and])
      subst e
      clear HQ HD HB
      go_wp2_with fail
      go_ret
      exact ⟨rfl, B3⟩
    · have e : b = false := HQ.out _ (by rw [decide_eq_false c10, Bool.false_and])
      subst e
      clear HQ HD HB
      go_wp2_with fail
      go_ret
      exact ⟨rfl, B3⟩

set_option maxRecDepth 100000 in
set_option maxHeartbeats 4000000 in
theorem ciTable_any (v : Value) (C : Ci) (w : World) (h : HasC w v C) (hS : small C = true) :
    Calls Try.prog 62 #[v] w fun e w' => ∃ R m c', e = .returned (.slice R m c') ∧ Own w' w.heap.size R m c' (mapTo (tabAt C) (2 ^ C.ins.toNat)) ∧ m ≤ 16777216 ∧ Below w.heap.size w w' := by
  obtain ⟨hgd, ins10, os16⟩ := small_yes hS
  have hG := gd_yes hgd
  obtain ⟨G, n, c, O, q, d, rfl, _, hO, _, _, _, _⟩ := id h
  have HGO := Lib.hid hG
  obtain ⟨p, hp⟩ : ∃ p : Nat, C.ins.toNat = p := ⟨_, rfl⟩
  have hins : C.ins = (p : Int) := by have := hG.a0; have := hG.b0; unfold Ci.ins at hp ⊢; omega
  have p10 : p ≤ 10 := by omega
  have HP := Lib.hid hp
  have HINS := Lib.hid hins
  have hpow : (2 : Int) ^ p ≤ 1024 ∧ 0 < (2 : Int) ^ p := by
    have : p = 0 ∨ p = 1 ∨ p = 2 ∨ p = 3 ∨ p = 4 ∨ p = 5 ∨ p = 6 ∨ p = 7 ∨ p = 8 ∨ p = 9 ∨ p = 10 := by omega
    rcases this with rfl | rfl | rfl | rfl | rfl | rfl | rfl | rfl | rfl | rfl | rfl <;> decide
  rw [hp]
  obtain ⟨N, hN⟩ : ∃ N : Nat, 2 ^ p = N := ⟨_, rfl⟩
  have hNI : (2 : Int) ^ p = (N : Int) := by rw [← hN]; push_cast; rfl
  have N1024 : N ≤ 1024 ∧ 0 < N := by omega
  rw [hN]
  have HNI := Lib.hid hNI
  clear hpow hN hNI
  have B1 := belowNew w (.cells #[.int .i64 C.in0, .int .i64 C.in1, .slice G n c, .slice O q d] 34)
  have p1 := Blk.new w #[.int .i64 C.in0, .int .i64 C.in1, .slice G n c, .slice O q d] 34
  have h1 := h.below B1
  obtain ⟨W1, hW1⟩ : ∃ W, W = w.alloc (.cells #[.int .i64 C.in0, .int .i64 C.in1, .slice G n c, .slice O q d] 34) := ⟨_, rfl⟩
  have hsz : w.heap.size < W1.heap.size := by rw [hW1]; simp
  rw [← hW1] at B1 p1 h1
  have HI := Lib.hid (ciInputs_any _ C W1 h1 hG.a0 (by have := hG.a1; omega) hG.b0 (by have := hG.b1; omega))
  obtain ⟨k0, k1, k2, k3⟩ := p1.four
  clear h hG hgd hS hp hins hO
  go_enter Try.func62, Try.ntmps62
  go_wp2_with fail
  rw [← hW1]
  clear hW1
  refine (HI.out).mono ?_
  rintro e w2 ⟨rfl, b2⟩
  rw [HINS.out]
  have B2 := b2
  clear b2 k0 k1 k2 k3 HI
  go_wp2_with fail
  go_loopw [3, 5] (fun vv iv wr => ∃ (k : Nat) (R : Option Addr) (c' : Nat), k ≤ N ∧ iv = .int .i64 k ∧ vv = .slice R k c' ∧ Own wr W1.heap.size R k c' (mapTo (tabAt C) k) ∧ Below W1.heap.size W1 wr) (fun _ iv _ => N - (intOf iv).toNat)
  case atStart => exact ⟨0, none, 0, Nat.zero_le _, rfl, rfl, Own.nil_ _ _, B2⟩
  case round =>
    obtain ⟨k, R, c', hk, rfl, rfl, ho, bk⟩ := hrel
    have q0 : (0 : Int) ≤ (k : Int) := by omega
    have p0 : (0 : Int) ≤ (p : Int) := by omega
    go_upto_region 4 with fail
    go_cut [12] (fun bv wx => bv = .bool (decide ((k : Int) < (N : Int))) ∧ wr = wx)
    case first =>
      have e64 : wrap64 ((2 : Int) ^ p) = (N : Int) := by rw [HNI.out]; unfold wrap64; omega
      go_wp2_with fail
      go_meet
      exact ⟨by congr 1; rw [decide_eq_decide]; exact Int.ofNat_lt.symm, rfl⟩
    case rest =>
      obtain ⟨rfl, rfl⟩ := hcut
      by_cases hlt : k < N
      · have pk := p1.below' bk
        have hk1 := h1.below bk
        have D : Below wr.heap.size wr wr.drew := (Below.refl _ wr).drew
        have hK : Hid (∀ W', Below W1.heap.size wr W' → W'.cell? ⟨w.heap.size, 0, none⟩ = some (.int .i64 C.in0) ∧ W'.cell? ⟨w.heap.size, 1, none⟩ = some (.int .i64 C.in1) ∧ W'.cell? ⟨w.heap.size, 2, none⟩ = some (.slice G n c) ∧ W'.cell? ⟨w.heap.size, 3, none⟩ = some (.slice O q d)) := fun W' hb => ((pk.below hb hsz).four)
        have HBt := Lib.hid (btOf_any (k : Int) p wr.drew q0 (by omega) (by omega))
        have HBitsE : Hid (mapTo (fun j => (k : Int) / 2 ^ j % 2) p = inBits C (k : Int)) := by show _ = _; rw [inBits, HP.out]
        have HO2 : Hid (∀ R c' W', Below wr.heap.size wr W' → Own W' wr.heap.size R p c' (inBits C (k : Int)) → Calls Try.prog 132 #[.agg #[.int .i64 C.in0, .int .i64 C.in1, .slice G n c, .slice O q d], .slice R p c'] W' fun e w' => ∃ R3 c3, e = .returned (.slice R3 C.os.length c3) ∧ Own w' W'.heap.size R3 C.os.length c3 (outBits C (k : Int)) ∧ Below W'.heap.size W' w') := fun R c' W' hb ho => ciOuts_any _ C R p c' _ W' (hk1.below hb) HGO.out ho.has (own_nilOk ho) (inBits_bits C k) (by rw [HINS.out])
        have HNum : Hid (∀ R c' W' S, Own W' S R C.os.length c' (outBits C (k : Int)) → Calls Try.prog 131 #[.slice R C.os.length c'] W' fun e w' => e = .returned (.int .i64 (tabAt C k)) ∧ W' = w') := fun R c' W' S ho => btNum_any R _ c' _ W' ho.has os16 (fun j hj => by have := outBits_bits C (k : Int) j hj; omega)
        obtain ⟨zz, hzz⟩ : ∃ zz, tabAt C k = zz := ⟨_, rfl⟩
        have HV : Hid (mapTo (tabAt C) k ++ [zz] = mapTo (tabAt C) (k + 1)) := by show _ = _; rw [mapTo_succ, hzz]
        rw [hzz] at HNum
        have hlt' : (k : Int) < (N : Int) := by omega
        have hdec : decide ((k : Int) < (N : Int)) = true := decide_eq_true hlt'
        have sW : W1.heap.size ≤ wr.heap.size := bk.size
        rw [hdec]
        clear hk1 hzz hdec
        go_wp2_with fail
        go_region_held3 (fun w' => w'.cell? ⟨w.heap.size, 0, none⟩ = some (.int .i64 C.in0) ∧ w'.cell? ⟨w.heap.size, 1, none⟩ = some (.int .i64 C.in1) ∧ w'.cell? ⟨w.heap.size, 2, none⟩ = some (.slice G n c) ∧ w'.cell? ⟨w.heap.size, 3, none⟩ = some (.slice O q d)) (first | exact hK.out _ (D.mono sW) | exact hK.out _ (Bq.mono sW) | exact hK.out _ (Br.mono sW) | exact hK.out _ ((Br.trans ((belowNew w4 _).mono Br.size)).mono sW) | exact hK.out _ Bz | go_keep) (first
          | (refine stepInt (w4.alloc (.cells #[.int .i64 zz] 3)) rfl (.tmp 15) (.tmp 22) rfl zz W1.heap.size _ k (mapTo (tabAt C) k) w4.heap.size (by simp [Act.eval]) (by simp [Act.eval]) ((Blk.new w4 #[.int .i64 zz] 3).cell (i := 0) rfl) ((ho.below Br).below (belowNew w4 (.cells #[.int .i64 zz] 3))).2 (by omega) (Nat.le_trans sW (Nat.le_trans Br.size (belowNew w4 (.cells #[.int .i64 zz] 3)).size)) ?_; intro g5 c5 w5 own5 b5; have Bz := ((Br.trans ((belowNew w4 (.cells #[.int .i64 zz] 3)).mono Br.size)).mono sW).trans b5)
          | (go_at_call 131; refine (HNum.out R4 c4 w4 _ o4).mono ?_; rintro e w6 ⟨rfl, rfl⟩)
          | (go_at_call 132; refine (HO2.out R3 c3 w3 Bq (by rw [← HBitsE.out]; exact o3.mono D.size)).mono ?_; rintro e w4 ⟨R4, c4, rfl, o4, b4⟩; have Br := Bq.trans (b4.mono Bq.size))
          | (go_at_call 133; refine (HBt.out).mono ?_; rintro e w3 ⟨R3, c3, rfl, o3, b3⟩; have Bq := D.trans (b3.mono D.size)))
        rw [HV.out] at own5
        go_wp2_with fail
        go_roundw
        case rel => exact ⟨k + 1, _, c5, by omega, by go_num, rfl, own5, bk.trans Bz⟩
        case measure => simp [intOf]; omega
      · obtain rfl : k = N := by omega
        have hdec : decide ((k : Int) < (k : Int)) = false := by simp
        rw [hdec]
        clear hdec
        go_wp2_with fail
        go_ret
        exact ⟨R, k, c', rfl, ho.mono B1.size, by omega, B1.trans (bk.mono B1.size)⟩

set_option maxHeartbeats 2000000 in
theorem spec_TruthTable (v : Value) (C : Ci) (rs : List Int) (rb : Bool) (w : World) (h : HasC w v C) (hf : Fit C) (hm : m_TruthTable C = (rs, rb)) :
    Calls Try.prog 18 #[v] w fun e w' => ∃ R m c', e = .returned (.tuple #[.slice R m c', .bool rb]) ∧ Has w' R m rs ∧ m ≤ 16777216 ∧ Below w.heap.size w w' := by
  obtain ⟨G, n, c, O, q, d, rfl, _, _, _, _, _, _⟩ := id h
  have HM := Lib.hid hm
  have B1 := belowNew w (.cells #[.int .i64 C.in0, .int .i64 C.in1, .slice G n c, .slice O q d] 34)
  have p1 := Blk.new w #[.int .i64 C.in0, .int .i64 C.in1, .slice G n c, .slice O q d] 34
  have h1 := h.below B1
  obtain ⟨W1, hW1⟩ : ∃ W, W = w.alloc (.cells #[.int .i64 C.in0, .int .i64 C.in1, .slice G n c, .slice O q d] 34) := ⟨_, rfl⟩
  rw [← hW1] at B1 p1 h1
  clear h hm
  obtain ⟨ok, hok⟩ : ∃ ok, small C = ok := ⟨_, rfl⟩
  have HG := Lib.hid (ciSmall_any _ C ok W1 h1 hf hok)
  obtain ⟨k0, k1, k2, k3⟩ := p1.four
  cases ok with
  | false =>
    have e := HM.out
    rw [m_TruthTable, hok] at e
    obtain ⟨rfl, rfl⟩ := Prod.mk.inj e
    clear e
    go_enter Try.func18, Try.ntmps18
    go_wp2_with fail
    rw [← hW1]
    refine (HG.out).mono ?_
    rintro e w2 ⟨rfl, b2⟩
    go_wp2_with fail
    go_ret2
    exact ⟨none, 0, 0, rfl, Has.nil_, by omega, B1.trans (b2.mono B1.size)⟩
  | true =>
    have e := HM.out
    rw [m_TruthTable, if_pos hok] at e
    obtain ⟨e1, rfl⟩ := Prod.mk.inj e
    have HR := Lib.hid e1
    have hSm := hok
    clear e e1 hok
    go_enter Try.func18, Try.ntmps18
    go_wp2_with fail
    rw [← hW1]
    clear hW1
    refine (HG.out).mono ?_
    rintro e w2 ⟨rfl, b2⟩
    have p2 := p1.below' b2
    have h2 := h1.below b2
    have B2 := B1.trans (b2.mono B1.size)
    obtain ⟨k0, k1, k2, k3⟩ := p2.four
    have HC := Lib.hid (ciTable_any _ C w2 h2 hSm)
    clear p1 h1 B1 b2 HG h2
    go_wp2_with fail
    refine (HC.out).mono ?_
    rintro e w3 ⟨R, m3, c3, rfl, o3, m3l, b3⟩
    go_wp2_with fail
    go_ret2
    exact ⟨R, m3, c3, rfl, by rw [← HR.out]; exact o3.has, m3l, B2.trans (b3.mono B2.size)⟩

end Go.Proofs.Ytnelcbjegbchkaa
