/- The program's truth tables: TruthTable. For every circuit of at most 1048576 gates and outs. -/
import Derived.Test.YtaohgbkhmgfnhaaCirI6
import Derived.Test.YtaohgbkhmgfnhaaCirG10
namespace Go.Proofs.Ytaohgbkhmgfnhaa
open Go.RowKit
set_option maxRecDepth 100000

/-- The table with its first k numbers. -/
def tabK (C : Ci) (N k : Nat) : List Int := mapTo (fun j => if j < k then tabAt C j else 0) N
theorem tabK_step (C : Ci) (N k : Nat) (z : Int) (hz : tabAt C k = z) : (tabK C N k).set k z = tabK C N (k + 1) := by
  unfold tabK
  rw [mapTo_set]
  congr 1
  funext j
  by_cases e : j = k
  · subst e; rw [if_pos rfl, if_pos (by omega), hz]
  · rw [if_neg e]
    by_cases l : j < k
    · rw [if_pos l, if_pos (by omega)]
    · rw [if_neg l, if_neg (by omega)]
theorem tabK_zero (C : Ci) (N : Nat) : tabK C N 0 = mapTo (fun _ => 0) N := mapTo_eq (fun k _ => if_neg (by omega))
theorem tabK_all (C : Ci) (N : Nat) : tabK C N N = mapTo (tabAt C) N := mapTo_eq (fun _ hk => if_pos hk)

set_option maxHeartbeats 4000000 in
theorem impl_TruthTable (v : Value) (C : Ci) (rs : List Int) (rb : Bool) (w : World) (h : HasC w v C) (hf : Fit C) (hm : m_TruthTable C = (rs, rb)) :
    Calls Try.prog 38 #[v] w fun e w' => ∃ R m c', e = .returned (.tuple #[.slice R m c', .bool rb]) ∧ Own w' w.heap.size R m c' rs ∧ m ≤ 16777216 ∧ Below w.heap.size w w' := by
  obtain ⟨G, n, c, O, q, d, rfl, _, hO, _, _, _, _⟩ := id h
  have HOL := Lib.hid hO.1
  have HM := Lib.hid hm
  have B1 := belowNew w (.cells #[.int .i64 C.in0, .int .i64 C.in1, .slice G n c, .slice O q d] 30)
  have p1 := Blk.new w #[.int .i64 C.in0, .int .i64 C.in1, .slice G n c, .slice O q d] 30
  have h1 := h.below B1
  obtain ⟨W1, hW1⟩ : ∃ W, W = w.alloc (.cells #[.int .i64 C.in0, .int .i64 C.in1, .slice G n c, .slice O q d] 30) := ⟨_, rfl⟩
  have hsz : w.heap.size < W1.heap.size := by rw [hW1]; simp
  rw [← hW1] at B1 p1 h1
  clear h hO hm
  obtain ⟨ok, hok⟩ : ∃ ok, gd C = ok := ⟨_, rfl⟩
  have HG := Lib.hid (isCircuit_any _ C ok W1 h1 (fitLen hf) hok)
  have NO : Hid (small C = false → rs = [] ∧ rb = false) := fun e => by
    have e2 := HM.out
    rw [m_TruthTable, e] at e2
    obtain ⟨rfl, rfl⟩ := Prod.mk.inj e2
    exact ⟨rfl, rfl⟩
  obtain ⟨k0, k1, k2, k3⟩ := p1.four
  cases ok with
  | false =>
    obtain ⟨rfl, rfl⟩ := NO.out (by rw [small, hok]; rfl)
    clear hok
    go_enter Try.func38, Try.ntmps38
    go_wp2_with fail
    rw [← hW1]
    refine (HG.out).mono ?_
    rintro e w2 ⟨rfl, b2⟩
    go_wp2_with fail
    go_ret2
    exact ⟨none, 0, 0, rfl, Own.nil_ _ _, by omega, B1.trans (b2.mono B1.size)⟩
  | true =>
  have hG := gd_yes hok
  have HGO := Lib.hid hG
  obtain ⟨i0, i1, j0, j1⟩ : 0 ≤ C.in0 ∧ C.in0 ≤ 20 ∧ 0 ≤ C.in1 ∧ C.in1 ≤ 20 := ⟨hG.a0, hG.a1, hG.b0, hG.b1⟩
  have HK := Lib.hid hok
  clear hG hok
  by_cases c10 : 10 < C.in0 + C.in1
  · obtain ⟨rfl, rfl⟩ := NO.out (by rw [small, HK.out, decide_eq_false (by unfold Ci.ins; omega)]; rfl)
    go_enter Try.func38, Try.ntmps38
    go_wp2_with fail
    rw [← hW1]
    refine (HG.out).mono ?_
    rintro e w2 ⟨rfl, b2⟩
    have p2 := p1.below' b2
    clear k0 k1 k2 k3
    obtain ⟨k0, k1, k2, k3⟩ := p2.four
    go_wp2_with fail
    go_ret2
    exact ⟨none, 0, 0, rfl, Own.nil_ _ _, by omega, B1.trans (b2.mono B1.size)⟩
  · have c10' : C.in0 + C.in1 ≤ 10 := by omega
    clear c10
    by_cases c16 : 16 < q
    · obtain ⟨rfl, rfl⟩ := NO.out (by rw [small, HK.out, decide_eq_false (show ¬ C.os.length ≤ 16 by have := HOL.out; omega), Bool.and_false])
      go_enter Try.func38, Try.ntmps38
      go_wp2_with fail
      rw [← hW1]
      refine (HG.out).mono ?_
      rintro e w2 ⟨rfl, b2⟩
      have p2 := p1.below' b2
      clear k0 k1 k2 k3
      obtain ⟨k0, k1, k2, k3⟩ := p2.four
      go_wp2_with fail
      go_ret2
      exact ⟨none, 0, 0, rfl, Own.nil_ _ _, by omega, B1.trans (b2.mono B1.size)⟩
    · obtain ⟨p, hp⟩ : ∃ p : Nat, C.in0 + C.in1 = (p : Int) := ⟨(C.in0 + C.in1).toNat, by omega⟩
      have p10 : p ≤ 10 := by omega
      have hsm : small C = true := by rw [small, HK.out, decide_eq_true (show C.ins ≤ 10 by unfold Ci.ins; omega), decide_eq_true (show C.os.length ≤ 16 by have := HOL.out; omega)]; rfl
      have hq16 : q ≤ 16 := by omega
      have e2 := HM.out
      have hpp : C.ins.toNat = p := by unfold Ci.ins; omega
      rw [m_TruthTable, if_pos hsm, hpp] at e2
      obtain ⟨N, hN⟩ : ∃ N : Nat, 2 ^ p = N := ⟨_, rfl⟩
      rw [hN] at e2
      obtain ⟨e1, rfl⟩ := Prod.mk.inj e2
      have HR := Lib.hid e1
      have HP := Lib.hid hp
      have HPP := Lib.hid hpp
      have hpow : (2 : Int) ^ p ≤ 1024 ∧ 0 < (2 : Int) ^ p := by
        have : p = 0 ∨ p = 1 ∨ p = 2 ∨ p = 3 ∨ p = 4 ∨ p = 5 ∨ p = 6 ∨ p = 7 ∨ p = 8 ∨ p = 9 ∨ p = 10 := by omega
        rcases this with rfl | rfl | rfl | rfl | rfl | rfl | rfl | rfl | rfl | rfl | rfl <;> decide
      have hNI : (2 : Int) ^ p = (N : Int) := by rw [← hN]; push_cast; rfl
      have N1024 : N ≤ 1024 ∧ 0 < N := by omega
      have HNI := Lib.hid hNI
      have E64 : Hid (wrap64 (2 ^ (C.in0 + C.in1).toNat) = (N : Int)) := by show _ = _; rw [show (C.in0 + C.in1).toNat = p by omega, hNI]; unfold wrap64; omega
      clear hsm e1 e2 hpp hp hN hpow hNI NO c16
      go_enter Try.func38, Try.ntmps38
      go_wp2_with fail
      rw [← hW1]
      clear hW1
      refine (HG.out).mono ?_
      rintro e w2 ⟨rfl, b2⟩
      have p2 := p1.below' b2
      have h2 := h1.below b2
      have B2 := B1.trans (b2.mono B1.size)
      have s2 : w.heap.size < w2.heap.size := Nat.lt_of_lt_of_le hsz b2.size
      clear k0 k1 k2 k3 p1 h1 B1 HG b2
      obtain ⟨k0, k1, k2, k3⟩ := p2.four
      obtain ⟨g, hg⟩ : ∃ g, w2.heap.size = g := ⟨_, rfl⟩
      go_upto_region 4 with (at_make; refine makeRow _ rfl _ rfl N (congrArg (Value.int .i64) E64.out) (by omega) ?_; rw [hg]; intro w3 hrow hb3)
      have p3 := p2.below hb3 (by rw [← hg]; exact s2)
      have B3 : Below w2.heap.size w2 w3 := by rw [hg]; exact hb3
      rw [← tabK_zero C N] at hrow
      have hgle : w2.heap.size ≤ g := Nat.le_of_eq hg
      clear k0 k1 k2 k3 hb3 p3
      go_wp2_with fail
      go_loopw [34] (fun iv wr => ∃ k : Nat, k ≤ N ∧ iv = .int .i64 k ∧ Row wr g g N (tabK C N k) ∧ Below w2.heap.size w2 wr) (fun iv _ => N - (intOf iv).toNat)
      case atStart => exact ⟨0, Nat.zero_le _, rfl, hrow, B3⟩
      case round =>
        obtain ⟨k, hk, rfl, hr, bk⟩ := hrel
        by_cases hlt : k < N
        · have pk := p2.below bk s2
          have hk1 := h2.below bk
          have q0 : (0 : Int) ≤ (k : Int) := by omega
          have q1 : (k : Int) < (N : Int) := by omega
          have HBo := Lib.hid (impl_BitsOf (k : Int) (C.in0 + C.in1) (inBits C (k : Int)) true wr ⟨by omega, by omega⟩ ⟨by omega, by omega⟩ (by
            rw [m_BitsOf, if_pos ⟨by omega, by omega, q0, by rw [show (C.in0 + C.in1).toNat = p by have := HP.out; omega, HNI.out]; exact q1⟩]; rfl))
          have HIL : Hid ((inBits C (k : Int)).length = p) := by show _ = _; rw [inBits_length]; exact HPP.out
          obtain ⟨k0, k1, k2, k3⟩ := pk.four
          have BK := Lib.hid bk
          obtain ⟨zz, hzz⟩ : ∃ zz, tabAt C k = zz := ⟨_, rfl⟩
          have HST := Lib.hid (tabK_step C N k zz hzz)
          have HNB : Hid (m_NumberOf (outBits C (k : Int)) = (zz, true)) := by
            show _ = _
            have hl : (outBits C (k : Int)).length = C.os.length := pickL_length _ _
            rw [m_NumberOf, if_pos (good_mk (by rw [hl, HOL.out]; exact hq16) (fun j hj => by have := outBits_bits C (k : Int) j hj; omega)), hl, ← hzz]
            rfl
          clear hzz bk pk
          go_wp2_with fail
          refine (HBo.out).mono ?_
          rintro e w4 ⟨R4, m4, c4, rfl, o4, m4s, b4⟩
          have hm4 : m4 = p := by rw [← o4.1]; exact HIL.out
          subst hm4
          have hr4 := hr.below b4
          have hk4 := hk1.below b4
          have BK4 := Lib.hid (BK.out.trans (b4.mono BK.out.size))
          have D : Below w4.heap.size w4 w4.drew := (Below.refl _ w4).drew
          have sz4 := BK4.out.size
          clear k0 k1 k2 k3 hr hk1 b4
          go_wp2_with fail
          have hK : Hid (∀ W', Below w2.heap.size w2 W' → W'.cell? ⟨w.heap.size, 0, none⟩ = some (.int .i64 C.in0) ∧ W'.cell? ⟨w.heap.size, 1, none⟩ = some (.int .i64 C.in1) ∧ W'.cell? ⟨w.heap.size, 2, none⟩ = some (.slice G n c) ∧ W'.cell? ⟨w.heap.size, 3, none⟩ = some (.slice O q d)) := fun W' hb => (p2.below hb s2).four
          have HV := Lib.hid (wireValues_any _ C R4 m4 c4 (inBits C (k : Int)) w4.drew (hk4.below D) HGO.out (o4.has.below D) (own_nilOk o4) (inBits_bits C (k : Int)) (by unfold Ci.ins; exact HP.out.symm))
          have HO : Hid (∀ R c' W', Below w4.heap.size w4 W' → Has W' R (m4 + C.gs.length) (valsC C (inBits C (k : Int))) → Calls Try.prog 57 #[.agg #[.int .i64 C.in0, .int .i64 C.in1, .slice G n c, .slice O q d], .slice R (m4 + C.gs.length) c'] W' fun e w' => ∃ R, e = .returned (.slice R C.os.length C.os.length) ∧ Own w' W'.heap.size R C.os.length C.os.length (outBits C (k : Int)) ∧ Below W'.heap.size W' w') := fun R c' W' hb ho => outValues_any _ C R _ c' _ W' (hk4.below hb) HGO.out ho (by have := HP.out; unfold Ci.wires; push_cast; omega)
          have HNm : Hid (∀ R W', Has W' R C.os.length (outBits C (k : Int)) → Calls Try.prog 82 #[.slice R C.os.length C.os.length] W' fun e w' => e = .returned (.tuple #[.int .i64 zz, .bool true]) ∧ W' = w') := fun R W' ho => impl_NumberOf' R _ _ _ zz true W' ho (by have := HOL.out; omega) HNB.out
          first
            | go_region_held3 (fun w' => w'.cell? ⟨w.heap.size, 0, none⟩ = some (.int .i64 C.in0) ∧ w'.cell? ⟨w.heap.size, 1, none⟩ = some (.int .i64 C.in1) ∧ w'.cell? ⟨w.heap.size, 2, none⟩ = some (.slice G n c) ∧ w'.cell? ⟨w.heap.size, 3, none⟩ = some (.slice O q d)) (first | exact hK.out _ (BK4.out.trans (D.mono sz4)) | exact hK.out _ (BK4.out.trans (Bq.mono sz4)) | exact hK.out _ (BK4.out.trans (Br.mono sz4)) | exact hK.out _ ((BK4.out.trans (Br.mono sz4)).setCell hgle _) | go_keep) (first
              | (go_at_call 82; refine (HNm.out R6 w6 o6.has).mono ?_; rintro e w7 ⟨rfl, rfl⟩; have hr6 := hr4.below Br; have hc6 := hr6.cell hlt; have hf6 := hr6.free k)
              | (go_at_call 57; refine (HO.out R5 c5 w5 Bq o5.has).mono ?_; rintro e w6 ⟨R6, rfl, o6, b6⟩; have Br := Bq.trans (b6.mono Bq.size))
              | (go_at_call 53; refine (HV.out).mono ?_; rintro e w5 ⟨R5, c5, rfl, o5, b5⟩; have Bq := D.trans (b5.mono D.size)))
            | fail
          have h6 := hr6.put k zz
          rw [HST.out] at h6
          have H6 := Lib.hid h6
          have B6 := Lib.hid ((BK4.out.trans (Br.mono sz4)).setCell (p := ⟨g, k, none⟩) hgle (.int .i64 zz))
          clear hc6 hf6 h6 hr6
          go_wp2_with fail
          go_roundw
          case rel => exact ⟨k + 1, by omega, by go_num, H6.out, B6.out⟩
          case measure => simp [intOf]; omega
        · obtain rfl : k = N := by omega
          go_wp2_with fail
          go_ret2
          exact ⟨_, k, k, rfl, by rw [← HR.out, ← tabK_all]; exact hr.own.mono (by have := B2.size; omega), by omega, B2.trans (bk.mono B2.size)⟩

end Go.Proofs.Ytaohgbkhmgfnhaa
