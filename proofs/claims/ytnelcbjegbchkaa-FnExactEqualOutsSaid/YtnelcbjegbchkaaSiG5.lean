/- The model's OnesOf, DependsOn and EqualOuts. For every circuit of at most 1048576 gates and outs. -/
import Derived.Test.YtnelcbjegbchkaaSiG2
import Derived.Test.YtnelcbjegbchkaaSumI
namespace Go.Proofs.Ytnelcbjegbchkaa
open Go.RowKit
set_option maxRecDepth 100000

set_option maxRecDepth 100000 in
set_option maxHeartbeats 1000000 in
theorem spec_OnesOf (v : Value) (C : Ci) (k : Int) (ry : Int) (rb : Bool) (w : World) (h : HasC w v C) (hf : Fit C) (hk : I64 k) (hm : m_OnesOf C k = (ry, rb)) :
    Calls Try.prog 41 #[v, .int .i64 k] w fun e w' => e = .returned (.tuple #[.int .i64 ry, .bool rb]) ∧ Below w.heap.size w w' := by
  obtain ⟨G, n, c, O, q, d, rfl, _, hO, _, hqd, _, _⟩ := id h
  have HOL := Lib.hid hO.1
  have HM := Lib.hid hm
  have hq48 : q ≤ 1048576 := by have := hf.2.1; have := hO.1; omega
  have B1 := belowNew w (.cells #[.int .i64 C.in0, .int .i64 C.in1, .slice G n c, .slice O q d] 34)
  have p1 := Blk.new w #[.int .i64 C.in0, .int .i64 C.in1, .slice G n c, .slice O q d] 34
  have h1 := h.below B1
  obtain ⟨W1, hW1⟩ : ∃ W, W = w.alloc (.cells #[.int .i64 C.in0, .int .i64 C.in1, .slice G n c, .slice O q d] 34) := ⟨_, rfl⟩
  rw [← hW1] at B1 p1 h1
  obtain ⟨t, ht⟩ : ∃ t, tiny C = t := ⟨_, rfl⟩
  have HG := Lib.hid (siSmall_any _ C t W1 h1 hf ht)
  have HT := Lib.hid ht
  obtain ⟨k0, k1, k2, k3⟩ := p1.four
  clear h hO hm ht
  cases t with
  | false =>
    have e := HM.out
    rw [m_OnesOf, if_neg (by simp [outAsk, HT.out])] at e
    obtain ⟨rfl, rfl⟩ := Prod.mk.inj e
    clear e
    go_enter Try.func41, Try.ntmps41
    go_wp2_with fail
    rw [← hW1]
    refine (HG.out).mono ?_
    rintro e w2 ⟨rfl, b2⟩
    go_wp2_with fail
    go_ret2
    exact ⟨rfl, B1.trans (b2.mono B1.size)⟩
  | true =>
    obtain ⟨ok, hok⟩ : ∃ ok, outAsk C k = ok := ⟨_, rfl⟩
    have HOK := Lib.hid hok
    have HB : Hid (∀ W, Calls Try.prog 104 #[.int .i64 k, .int .i64 0, .int .i64 ((q : Int) - 1)] W fun e w' => e = .returned (.bool ok) ∧ W = w') := fun W => l1In_any k 0 ((q : Int) - 1) ok W (by
      rw [← HOK.out, outAsk, HT.out, HOL.out, Bool.true_and]
      congr 1
      rw [decide_eq_decide]
      omega)
    have hw1 : IntKind.i64.wrap ((q : Int) - 1) = (q : Int) - 1 := wrapIn (by omega) (by omega)
    clear hok
    go_enter Try.func41, Try.ntmps41
    go_wp2_with fail
    rw [← hW1]
    clear hW1
    refine (HG.out).mono ?_
    rintro e w2 ⟨rfl, b2⟩
    have p2 := p1.below' b2
    have h2 := h1.below b2
    have B2 := B1.trans (b2.mono B1.size)
    clear k0 k1 k2 k3 p1 h1 B1 b2 HG
    obtain ⟨k0, k1, k2, k3⟩ := p2.four
    go_wp2_with fail
    refine ((HB.out _)).mono ?_
    rintro e w3 ⟨rfl, rfl⟩
    cases ok with
    | false =>
      have e := HM.out
      rw [m_OnesOf, if_neg (by simp [HOK.out])] at e
      obtain ⟨rfl, rfl⟩ := Prod.mk.inj e
      clear e
      go_wp2_with fail
      go_ret2
      exact ⟨rfl, B2⟩
    | true =>
      obtain ⟨_, a0, a1⟩ := outAsk_yes HOK.out
      have e := HM.out
      rw [m_OnesOf, if_pos HOK.out] at e
      obtain ⟨e1, rfl⟩ := Prod.mk.inj e
      obtain ⟨kk, rfl⟩ : ∃ j : Nat, k = (j : Int) := ⟨k.toNat, by omega⟩
      have hkk : kk < C.os.length := by omega
      have HO := Lib.hid (siOut_any _ C kk w2 h2 HT.out hkk)
      have HE : Hid ((colOf C kk).sum = ry) := e1
      clear a0 a1 h2 e e1
      go_wp2_with fail
      refine (HO.out).mono ?_
      rintro e w3 ⟨R, m, c', rfl, o3, hm3, b3⟩
      have HS := Lib.hid (laSum_any R m c' (colOf C kk) w3 o3.has hm3 (fun j => by have := colTo_bits C kk (rowsN C) j; rw [colOf]; omega))
      rw [HE.out] at HS
      clear o3 HO k0 k1 k2 k3
      go_wp2_with fail
      refine (HS.out).mono ?_
      rintro e w4 ⟨rfl, rfl⟩
      go_wp2_with fail
      go_ret2
      exact ⟨rfl, B2.trans (b3.mono B2.size)⟩

set_option maxRecDepth 100000 in
set_option maxHeartbeats 1000000 in
theorem spec_EqualOuts (v : Value) (C : Ci) (rs : List Int) (rb : Bool) (w : World) (h : HasC w v C) (hf : Fit C) (hm : m_EqualOuts C = (rs, rb)) :
    Calls Try.prog 43 #[v] w fun e w' => ∃ R m c', e = .returned (.tuple #[.slice R m c', .bool rb]) ∧ Has w' R m rs ∧ m ≤ 16777216 ∧ Below w.heap.size w w' := by
  obtain ⟨G, n, c, O, q, d, rfl, _, hO, _, _, _, _⟩ := id h
  have HOL := Lib.hid hO.1
  have HM := Lib.hid hm
  have B1 := belowNew w (.cells #[.int .i64 C.in0, .int .i64 C.in1, .slice G n c, .slice O q d] 34)
  have p1 := Blk.new w #[.int .i64 C.in0, .int .i64 C.in1, .slice G n c, .slice O q d] 34
  have h1 := h.below B1
  obtain ⟨W1, hW1⟩ : ∃ W, W = w.alloc (.cells #[.int .i64 C.in0, .int .i64 C.in1, .slice G n c, .slice O q d] 34) := ⟨_, rfl⟩
  have s1 : W1.heap.size = w.heap.size + 1 := by rw [hW1]; simp
  rw [← hW1] at B1 p1 h1
  obtain ⟨t, ht⟩ : ∃ t, tiny C = t := ⟨_, rfl⟩
  have HG := Lib.hid (siSmall_any _ C t W1 h1 hf ht)
  have HT := Lib.hid ht
  obtain ⟨k0, k1, k2, k3⟩ := p1.four
  clear h hO hm ht
  cases t with
  | false =>
    have e := HM.out
    rw [m_EqualOuts, if_neg (by simp [HT.out])] at e
    obtain ⟨rfl, rfl⟩ := Prod.mk.inj e
    clear e
    go_enter Try.func43, Try.ntmps43
    go_wp2_with fail
    rw [← hW1]
    refine (HG.out).mono ?_
    rintro e w2 ⟨rfl, b2⟩
    go_wp2_with fail
    go_ret2
    exact ⟨none, 0, 0, rfl, Has.nil_, by omega, B1.trans (b2.mono B1.size)⟩
  | true =>
    have e := HM.out
    rw [m_EqualOuts, if_pos HT.out] at e
    obtain ⟨e1, rfl⟩ := Prod.mk.inj e
    have o40 := (gd_yes (tiny_yes HT.out).1).o
    have HE : Hid (mapTo (fun k => (sameTo C k (k + 1) : Int)) q = rs) := by show _ = _; rw [← HOL.out]; exact e1
    have hq40 : q ≤ 40 := by have := HOL.out; omega
    have hS1 : w.heap.size < W1.heap.size := by omega
    clear e e1 o40 s1
    go_enter Try.func43, Try.ntmps43
    go_wp2_with fail
    rw [← hW1]
    clear hW1
    refine (HG.out).mono ?_
    rintro e w2 ⟨rfl, b2⟩
    have p2 := p1.below' b2
    have h2 := h1.below b2
    have B2 := B1.trans (b2.mono B1.size)
    have hS2 : w.heap.size < w2.heap.size := Nat.lt_of_lt_of_le hS1 b2.size
    clear k0 k1 k2 k3 p1 h1 B1 b2 HG hS1
    obtain ⟨k0, k1, k2, k3⟩ := p2.four
    go_wp2_with fail
    clear k0 k1 k2 k3
    go_loopw [4, 13] (fun vv iv wr => ∃ (k : Nat) (R : Option Addr) (c' : Nat), k ≤ q ∧ iv = .int .i64 k ∧ vv = .slice R k c' ∧ Own wr w2.heap.size R k c' (mapTo (fun k => (sameTo C k (k + 1) : Int)) k) ∧ Below w2.heap.size w2 wr) (fun _ iv _ => q - (intOf iv).toNat)
    case atStart => exact ⟨0, none, 0, Nat.zero_le _, rfl, rfl, Own.nil_ _ _, Below.refl _ _⟩
    case round =>
      obtain ⟨k, R, c', hk, rfl, rfl, ho, bk⟩ := hrel
      by_cases hlt : k < q
      · have q0 : (0 : Int) ≤ (k : Int) := by omega
        have q1 : (k : Int) < (q : Int) := by omega
        have hkk : k < C.os.length := by rw [HOL.out]; exact hlt
        have HO := Lib.hid ho
        have BK := Lib.hid bk
        clear ho bk
        go_wp2_with fail
        go_loopw [6] (fun iv wx => ∃ (i : Nat), i ≤ k ∧ iv = .int .i64 i ∧ Hid (sameTo C k i = i) ∧ Below wr.heap.size wr wx) (fun iv _ => q - (intOf iv).toNat)
        case atStart => exact ⟨0, Nat.zero_le _, rfl, Lib.hid rfl, Below.refl _ _⟩
        case round =>
          obtain ⟨i, hi, rfl, HSi, bx⟩ := hrel
          have i0 : (0 : Int) ≤ (i : Int) := by omega
          have BX := Lib.hid (BK.out.trans (bx.mono BK.out.size))
          have BXX := Lib.hid bx
          have D : Below wr.heap.size wr wr.drew := (Below.refl _ wr).drew
          have P := Lib.hid (p2.below' BX.out)
          have hii : i < C.os.length := by omega
          have hK : Hid (∀ W', Below wr.heap.size wr W' → W'.cell? ⟨w.heap.size, 0, none⟩ = some (.int .i64 C.in0) ∧ W'.cell? ⟨w.heap.size, 1, none⟩ = some (.int .i64 C.in1) ∧ W'.cell? ⟨w.heap.size, 2, none⟩ = some (.slice G n c) ∧ W'.cell? ⟨w.heap.size, 3, none⟩ = some (.slice O q d)) := fun W' hb => (P.out.below' hb).four
          have HSO : Hid (∀ (j : Nat) W', j < C.os.length → Below wr.heap.size wr W' → Calls Try.prog 105 #[.agg #[.int .i64 C.in0, .int .i64 C.in1, .slice G n c, .slice O q d], .int .i64 (j : Int)] W' fun e w' => ∃ R c', e = .returned (.slice R (rowsN C) c') ∧ Own w' W'.heap.size R (rowsN C) c' (colOf C j) ∧ Below W'.heap.size W' w') := fun j W' hj hb => (siOut_any _ C j W' ((h2.below BX.out).below hb) HT.out hj).mono (by
            rintro e w' ⟨R, m, c', rfl, o, _, b⟩
            obtain rfl : m = rowsN C := by rw [← o.1]; exact colTo_length C j _
            exact ⟨R, c', rfl, o, b⟩)
          obtain ⟨N, hN⟩ : ∃ N, rowsN C = N := ⟨_, rfl⟩
          have hN1 : N ≤ 16777216 := by obtain ⟨_, _, _, _, _, h1, _, _, h2⟩ := tinyPow HT.out; omega
          rw [hN] at HSO
          obtain ⟨eb, heb⟩ : ∃ b, decide (colOf C i = colOf C k) = b := ⟨_, rfl⟩
          have HEB := Lib.hid heb
          have HSame : Hid (∀ R R' c c' W', Has W' R N (colOf C i) → Has W' R' N (colOf C k) → Calls Try.prog 112 #[.slice R N c, .slice R' N c'] W' fun e w' => e = .returned (.bool eb) ∧ Below W'.heap.size W' w') := fun R R' c c' W' h1 h2 => l1Same_any R R' _ c c' _ _ _ W' h1 h2 hN1 HEB.out
          clear heb hN bx
          go_wp2_with fail
          first
            | (go_region_held3 (fun w' => w'.cell? ⟨w.heap.size, 0, none⟩ = some (.int .i64 C.in0) ∧ w'.cell? ⟨w.heap.size, 1, none⟩ = some (.int .i64 C.in1) ∧ w'.cell? ⟨w.heap.size, 2, none⟩ = some (.slice G n c) ∧ w'.cell? ⟨w.heap.size, 3, none⟩ = some (.slice O q d))
              (first | exact hK.out _ D | exact hK.out _ Bq | exact hK.out _ Br | exact hK.out _ Bs | go_keep) (first
                | (refine call_eq (args1 := #[.slice R6 N c6, .slice R7 N c7]) (w1 := w7) (by simp) rfl ?_; refine Calls.mono (HSame.out R6 R7 c6 c7 w7 (o6.has.below b7) o7.has) ?_; rintro e w8 ⟨rfl, b8⟩; have Bs := Br.trans (b8.mono Br.size))
                | (refine call_eq (args1 := #[.slice S7 N d7, .slice S6 N d6]) (w1 := w7) (by simp) rfl ?_; refine Calls.mono (HSame.out S7 S6 d7 d6 w7 q7.has (q6.has.below b7)) ?_; rintro e w8 ⟨rfl, b8⟩; have Bs := Br.trans (b8.mono Br.size))
                | (refine call_eq (args1 := #[.agg #[.int .i64 C.in0, .int .i64 C.in1, .slice G n c, .slice O q d], .int .i64 (k : Int)]) (w1 := w6) (by simp) rfl ?_; refine Calls.mono (HSO.out k w6 hkk Bq) ?_; rintro e w7 ⟨R7, c7, rfl, o7, b7⟩; have Br := Bq.trans (b7.mono Bq.size))
                | (refine call_eq (args1 := #[.agg #[.int .i64 C.in0, .int .i64 C.in1, .slice G n c, .slice O q d], .int .i64 (i : Int)]) (w1 := x6) (by simp) rfl ?_; refine Calls.mono (HSO.out i x6 hii Bq) ?_; rintro e w7 ⟨S7, d7, rfl, q7, b7⟩; have Br := Bq.trans (b7.mono Bq.size))
                | (refine call_eq (args1 := #[.agg #[.int .i64 C.in0, .int .i64 C.in1, .slice G n c, .slice O q d], .int .i64 (i : Int)]) (w1 := wr.drew) (by simp) rfl ?_; refine Calls.mono (HSO.out i wr.drew hii D) ?_; rintro e w6 ⟨R6, c6, rfl, o6, b6⟩; have Bq := D.trans (b6.mono D.size))
                | (refine call_eq (args1 := #[.agg #[.int .i64 C.in0, .int .i64 C.in1, .slice G n c, .slice O q d], .int .i64 (k : Int)]) (w1 := wr.drew) (by simp) rfl ?_; refine Calls.mono (HSO.out k wr.drew hkk D) ?_; rintro e x6 ⟨S6, d6, rfl, q6, b6⟩; have Bq := D.trans (b6.mono D.size))))
            | fail
          all_goals
            have BS := BXX.out.trans (Bs.mono BXX.out.size)
            have BS2 := BX.out.trans (Bs.mono BX.out.size)
            cases eb with
            | true =>
              have hz : sameTo C k (k + 1) = i := sameTo_here HSi.out (of_decide_eq_true HEB.out) _ (by omega)
              have HV : Hid (mapTo (fun k => (sameTo C k (k + 1) : Int)) k ++ [(i : Int)] = mapTo (fun k => (sameTo C k (k + 1) : Int)) (k + 1)) := by show _ = _; rw [mapTo_succ, hz]
              have O8 := (HO.out.below BS).2
              have hs8 := BS2.size
              clear hz
              go_wp2_with (at_builtin; refine appendInt _ rfl (.tmp 26) (.tmp 28) rfl (i : Int) w2.heap.size _ k (mapTo (fun k => (sameTo C k (k + 1) : Int)) k) rfl rfl O8 (by omega) hs8 ?_; intro v9 w9 own9 b9)
              rw [HV.out] at own9
              obtain ⟨R9, c9, rfl, ho9⟩ := ownOf own9
              go_wp2_with fail
              go_roundw
              case rel => exact ⟨k + 1, R9, c9, by omega, by go_num, rfl, ho9, BS2.trans b9⟩
              case measure => simp [intOf]; omega
            | false =>
              have hne : i ≠ k := by rintro rfl; exact of_decide_eq_false HEB.out rfl
              go_wp2_with fail
              go_roundw
              case rel => exact ⟨i + 1, by omega, by go_num, Lib.hid (sameTo_next HSi.out (of_decide_eq_false HEB.out)), BS⟩
              case measure => simp [intOf]; omega
      · obtain rfl : k = q := by omega
        go_wp2_with fail
        go_ret2
        exact ⟨R, k, c', rfl, by rw [← HE.out]; exact ho.has, by omega, B2.trans (bk.mono B2.size)⟩

end Go.Proofs.Ytnelcbjegbchkaa
