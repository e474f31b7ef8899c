/- The model's depths: DepthOf. For every circuit of at most 1048576 gates and outs. -/
import Derived.Test.YtaohgbkhmgfnhaaCirG6
namespace Go.Proofs.Ytaohgbkhmgfnhaa
open Go.RowKit
set_option maxRecDepth 100000

set_option maxRecDepth 100000 in
set_option maxHeartbeats 4000000 in
theorem ciDepths_any (v : Value) (C : Ci) (ands : Bool) (w : World) (h : HasC w v C) (hG : Good C) :
    Calls Try.prog 59 #[v, .bool ands] w fun e w' => ∃ R m c', e = .returned (.slice R m c') ∧ Own w' w.heap.size R m c' (depC C ands) ∧ Hid (m = C.ins.toNat + C.gs.length) ∧ Below w.heap.size w w' := by
  obtain ⟨G, n, c, O, q, d, rfl, hGs, hO, _, _, _, _⟩ := id h
  have hgl := hGs.1
  have n300 : n ≤ 300 := by have := hG.g; omega
  obtain ⟨m, hm⟩ : ∃ m, C.ins.toNat = m := ⟨_, rfl⟩
  have hins : C.ins = (m : Int) := by have := hG.a0; have := hG.b0; rw [← hm]; unfold Ci.ins; omega
  have m40 : m ≤ 40 := by have := hG.a1; have := hG.b1; unfold Ci.ins at hins; omega
  have hdep : depC C ands = depTo C ands n := by rw [depC, hgl]
  rw [hgl, hm, hdep]
  have HGate : Hid (∀ k, k < n → gateOk (((m + k : Nat) : Int)) (C.gs.getD k g0) = true) := fun k hk => by have := hG.gate k (by omega); rw [hins] at this; push_cast; exact this
  have HLen : Hid (∀ k, (depTo C ands k).length = m + k) := fun k => by rw [depTo_length, hm]
  have HD0 : Hid (mapTo (fun _ => 0) m = depTo C ands 0) := by show _ = _; rw [depTo, hm]
  have B1 := belowNew w (.cells #[.int .i64 C.in0, .int .i64 C.in1, .slice G n c, .slice O q d] 30)
  have p1 := Blk.new w #[.int .i64 C.in0, .int .i64 C.in1, .slice G n c, .slice O q d] 30
  have h1 := h.below B1
  obtain ⟨W1, hW1⟩ : ∃ W, W = w.alloc (.cells #[.int .i64 C.in0, .int .i64 C.in1, .slice G n c, .slice O q d] 30) := ⟨_, rfl⟩
  rw [← hW1] at B1 p1 h1
  have HI := Lib.hid (ciInputs_any _ C W1 h1 hG.a0 (by have := hG.a1; omega) hG.b0 (by have := hG.b1; omega))
  obtain ⟨k0, k1, k2, k3⟩ := p1.four
  have HIN := Lib.hid hins
  clear h hG hO hgl hdep hm hins h1
  go_enter Try.func59, Try.ntmps59
  go_wp2_with fail
  rw [← hW1]
  clear hW1
  refine (HI.out).mono ?_
  rintro e w2 ⟨rfl, b2⟩
  rw [HIN.out]
  have p2 := p1.below' b2
  have B2 := B1.trans (b2.mono B1.size)
  clear p1 b2 k0 k1 k2 k3 B1
  go_upto_region 2 with (at_make; refine makeRow _ rfl _ rfl m rfl (by omega) ?_; intro w3 hrow hb3)
  have p3 := p2.below' hb3
  have k2 := p3.cell (i := 2) rfl
  have hr0 : Own w3 w.heap.size (some ⟨w2.heap.size, 0, none⟩) m m (depTo C ands 0) := by rw [← HD0.out]; exact hrow.own.mono B2.size
  have B3 := B2.trans (hb3.mono B2.size)
  clear p2 hrow hb3 B2 p3
  go_wp2_with fail
  go_loopw [5, 17] (fun vv iv wr => ∃ (k : Nat) (R : Option Addr) (l c' : Nat), k ≤ n ∧ iv = .int .i64 k ∧ vv = .slice R l c' ∧ Own wr w.heap.size R l c' (depTo C ands k) ∧ l = m + k ∧ Below w.heap.size w wr) (fun _ iv _ => n - (intOf iv).toNat)
  case atStart => exact ⟨0, _, m, m, Nat.zero_le _, rfl, rfl, hr0, rfl, B3⟩
  case round =>
    obtain ⟨k, R, l, c', hk, rfl, rfl, ho, hlk, bk⟩ := hrel
    have l340 : l ≤ 340 := by omega
    have HLK := Lib.hid hlk
    by_cases hlt : k < n
    · obtain ⟨ad, x, y, z, rfl, hgx, hgy, hgz, HE⟩ := (hGs.below bk).elem hlt
      have hgate := HGate.out k hlt
      rw [HE.out, ← hlk] at hgate
      have HP := Lib.hid (partsOf_in hgate)
      have HKind : Hid (x = 1 ∨ x ≠ 1) := by show _ ∨ _; omega
      have b4 := belowNew wr (.cells #[.int .i64 x, .int .i64 y, .int .i64 z] 51)
      have y4 := Blk.new wr #[.int .i64 x, .int .i64 y, .int .i64 z] 51
      have ho4 := ho.below b4
      have q0 : (0 : Int) ≤ (k : Int) := by omega
      have q1 : (k : Int) < (n : Int) := by omega
      obtain ⟨w4, hw4⟩ : ∃ W, W = wr.alloc (.cells #[.int .i64 x, .int .i64 y, .int .i64 z] 51) := ⟨_, rfl⟩
      rw [← hw4] at b4 y4 ho4
      have B4 := bk.trans (b4.mono bk.size)
      clear hgate ho b4 bk hlk
      go_wp2_with fail
      rw [← hw4]
      clear hw4 hgx hgy hgz
      refine (ciParts_any x y z w4).mono ?_
      rintro e w5 ⟨R5, np, c5, rfl, o5, np2, b5⟩
      have ho5 := ho4.below b5
      have y5 := y4.below' b5
      have B5 := B4.trans (b5.mono B4.size)
      have hp5 := o5.has
      have hpl := hp5.1
      have g0c := y5.cell (i := 0) rfl
      have HPL := Lib.hid hpl
      have hdr := Lib.hid (depTo_range C ands k)
      have s5 : w.heap.size ≤ w5.heap.size := B5.size
      clear ho4 y4 B4 b5 o5 y5 hpl
      go_wp2_with fail
      go_loop [8, 24] (fun mv jv => ∃ (j : Nat) (t : Int), j ≤ np ∧ jv = .int .i64 j ∧ mv = .int .i64 t ∧ Hid (t = mostAt (depTo C ands k) 0 ((partsOf (x, y, z)).take j))) (fun _ jv => np - (intOf jv).toNat)
      case atStart => exact ⟨0, 0, Nat.zero_le _, rfl, rfl, rfl⟩
      case round =>
        obtain ⟨j, t, hj, rfl, rfl, HT⟩ := hrel
        by_cases hjl : j < np
        · obtain ⟨pd, i, rfl, hci, HI2⟩ := hp5.elem hjl
          obtain ⟨i0, i1⟩ : 0 ≤ i ∧ i < (l : Int) := by rw [HI2.out]; exact HP.out j (by rw [HPL.out]; exact hjl)
          obtain ⟨iN, rfl⟩ : ∃ iN : Nat, i = (iN : Int) := ⟨i.toNat, by omega⟩
          obtain ⟨rd, dv, rfl, hcd, HDv⟩ := ho5.has.elem (show iN < l by omega)
          have j0 : (0 : Int) ≤ (j : Int) := by omega
          have j1 : (j : Int) < (np : Int) := by omega
          go_wp2_with fail
          refine (l1Most_any t dv w5).mono ?_
          rintro e w6 ⟨rfl, rfl⟩
          go_wp2_with fail
          go_round
          case rel => exact ⟨j + 1, mostOf t dv, by omega, by go_num, rfl, by show _ = _; rw [mostAt_step _ _ _ _ (by rw [HPL.out]; exact hjl), ← HT.out, ← HI2.out, HDv.out]; rfl⟩
          case measure => simp [intOf]; omega
        · obtain rfl : j = np := by omega
          have hT : t = mostAt (depTo C ands k) 0 (partsOf (x, y, z)) := by rw [HT.out, List.take_of_length_le (by rw [HPL.out]; exact Nat.le_refl _)]
          obtain ⟨t0, t1⟩ : 0 ≤ t ∧ t ≤ (k : Int) := by rw [hT]; exact mostAt_range hdr.out _ 0 ⟨Int.le_refl _, by omega⟩
          have hwt : IntKind.i64.wrap (t + 1) = t + 1 := wrapIn (by omega) (by omega)
          have HTT := Lib.hid hT
          clear hT hp5
          have HV : Hid (∀ u, u = gdep ands (depTo C ands k) (x, y, z) → depTo C ands k ++ [u] = depTo C ands (k + 1)) := fun u hu => by rw [depTo, HE.out, hu]
          cases ands with
          | false =>
            have HQ : Hid (t + 1 = gdep false (depTo C false k) (x, y, z)) := by show _ = _; rw [gdep, if_pos (.inl rfl), ← HTT.out]
            go_wp2_with (at_builtin; refine appendInt w5 rfl (.tmp 44) (.tmp 46) rfl (t + 1) w.heap.size _ l _ rfl rfl ho5.2 (by omega) s5 ?_; intro v6 w6 own6 b6)
            rw [HV.out _ HQ.out] at own6
            obtain ⟨R6, c6, rfl, ho6⟩ := ownOf own6
            go_roundw
            case rel => exact ⟨k + 1, R6, l + 1, c6, by omega, by go_num, rfl, ho6, by have := HLK.out; omega, B5.trans b6⟩
            case measure => simp [intOf]; omega
          | true =>
            by_cases x1 : x = 1
            · have HQ : Hid (t + 1 = gdep true (depTo C true k) (x, y, z)) := by show _ = _; rw [gdep, if_pos (.inr x1), ← HTT.out]
              go_wp2_with (at_builtin; refine appendInt w5 rfl (.tmp 44) (.tmp 46) rfl (t + 1) w.heap.size _ l _ rfl rfl ho5.2 (by omega) s5 ?_; intro v6 w6 own6 b6)
              rw [HV.out _ HQ.out] at own6
              obtain ⟨R6, c6, rfl, ho6⟩ := ownOf own6
              go_roundw
              case rel => exact ⟨k + 1, R6, l + 1, c6, by omega, by go_num, rfl, ho6, by have := HLK.out; omega, B5.trans b6⟩
              case measure => simp [intOf]; omega
            · have HQ : Hid (t = gdep true (depTo C true k) (x, y, z)) := by show _ = _; rw [gdep, if_neg (by simp [x1]), ← HTT.out]
              have x1b : (x == 1) = false := by simp [x1]
              go_wp2_with (at_builtin; refine appendInt w5 rfl (.tmp 44) (.tmp 46) rfl t w.heap.size _ l _ rfl rfl ho5.2 (by omega) s5 ?_; intro v6 w6 own6 b6)
              rw [HV.out _ HQ.out] at own6
              obtain ⟨R6, c6, rfl, ho6⟩ := ownOf own6
              go_roundw
              case rel => exact ⟨k + 1, R6, l + 1, c6, by omega, by go_num, rfl, ho6, by have := HLK.out; omega, B5.trans b6⟩
              case measure => simp [intOf]; omega
    · obtain rfl : k = n := by omega
      go_wp2_with fail
      go_ret
      exact ⟨R, l, c', rfl, ho, hlk, bk⟩

set_option maxRecDepth 100000 in
set_option maxHeartbeats 4000000 in
theorem spec_DepthOf (v : Value) (C : Ci) (ry rz : Int) (rb : Bool) (w : World) (h : HasC w v C) (hf : Fit C) (hm : m_DepthOf C = (ry, rz, rb)) :
    Calls Try.prog 28 #[v] w fun e w' => e = .returned (.tuple #[.int .i64 ry, .int .i64 rz, .bool rb]) ∧ Below w.heap.size w w' := by
  obtain ⟨G, n, c, O, q, d, rfl, _, hO, _, _, _, _⟩ := id h
  have hol := hO.1
  have HM := Lib.hid hm
  have B1 := belowNew w (.cells #[.int .i64 C.in0, .int .i64 C.in1, .slice G n c, .slice O q d] 30)
  have p1 := Blk.new w #[.int .i64 C.in0, .int .i64 C.in1, .slice G n c, .slice O q d] 30
  have h1 := h.below B1
  have hO1 := hO.below B1
  obtain ⟨W1, hW1⟩ : ∃ W, W = w.alloc (.cells #[.int .i64 C.in0, .int .i64 C.in1, .slice G n c, .slice O q d] 30) := ⟨_, rfl⟩
  rw [← hW1] at B1 p1 h1 hO1
  clear h hm hO
  obtain ⟨ok, hok⟩ : ∃ ok, gd C = ok := ⟨_, rfl⟩
  have HG := Lib.hid (ciGood_any _ C ok W1 h1 (fitLen hf) hok)
  obtain ⟨k0, k1, k2, k3⟩ := p1.four
  cases ok with
  | false =>
    have e := HM.out
    rw [m_DepthOf, hok] at e
    obtain ⟨rfl, e2⟩ := Prod.mk.inj e
    obtain ⟨rfl, rfl⟩ := Prod.mk.inj e2
    clear e e2
    go_enter Try.func28, Try.ntmps28
    go_wp2_with fail
    rw [← hW1]
    refine (HG.out).mono ?_
    rintro e w2 ⟨rfl, b2⟩
    go_wp2_with fail
    go_ret3
    exact ⟨rfl, B1.trans (b2.mono B1.size)⟩
  | true =>
    have e := HM.out
    rw [m_DepthOf, if_pos hok] at e
    obtain ⟨e1, e2⟩ := Prod.mk.inj e
    obtain ⟨e3, rfl⟩ := Prod.mk.inj e2
    have HRy := Lib.hid e1
    have HRz := Lib.hid e3
    have hGood := gd_yes hok
    have q40 : q ≤ 40 := by have := hGood.o; omega
    have hin : ∀ k, k < q → 0 ≤ C.os.getD k 0 ∧ C.os.getD k 0 < ((C.ins.toNat + C.gs.length : Nat) : Int) := fun k hk => by
      have h5 := hGood.out k (by omega)
      have := hGood.a0; have := hGood.b0
      unfold Ci.wires at h5
      unfold Ci.ins
      omega
    have HIn := Lib.hid hin
    have HOL := Lib.hid hol
    clear e e1 e2 e3 hok hin hol
    go_enter Try.func28, Try.ntmps28
    go_wp2_with fail
    rw [← hW1]
    clear hW1
    refine (HG.out).mono ?_
    rintro e w2 ⟨rfl, b2⟩
    have p2 := p1.below' b2
    have h2 := h1.below b2
    have hO2 := hO1.below b2
    have B2 := B1.trans (b2.mono B1.size)
    have D : Below w2.heap.size w2 w2.drew := (Below.refl _ w2).drew
    have hK : Hid (∀ W', Below w2.heap.size w2 W' → W'.cell? ⟨w.heap.size, 0, none⟩ = some (.int .i64 C.in0) ∧ W'.cell? ⟨w.heap.size, 1, none⟩ = some (.int .i64 C.in1) ∧ W'.cell? ⟨w.heap.size, 2, none⟩ = some (.slice G n c) ∧ W'.cell? ⟨w.heap.size, 3, none⟩ = some (.slice O q d)) := fun W' hb => (p2.below' hb).four
    have HDa := Lib.hid (ciDepths_any _ C false w2.drew (h2.below D) hGood)
    have HDb : Hid (∀ W', Below w2.heap.size w2 W' → Calls Try.prog 59 #[.agg #[.int .i64 C.in0, .int .i64 C.in1, .slice G n c, .slice O q d], .bool true] W' fun e w' => ∃ R m c', e = .returned (.slice R m c') ∧ Own w' W'.heap.size R m c' (depC C true) ∧ Hid (m = C.ins.toNat + C.gs.length) ∧ Below W'.heap.size W' w') := fun W' hb => ciDepths_any _ C true W' (h2.below hb) hGood
    clear p1 h1 B1 b2 HG h2 hO1
    go_wp2_with fail
    go_region_held3 (fun w' => w'.cell? ⟨w.heap.size, 0, none⟩ = some (.int .i64 C.in0) ∧ w'.cell? ⟨w.heap.size, 1, none⟩ = some (.int .i64 C.in1) ∧ w'.cell? ⟨w.heap.size, 2, none⟩ = some (.slice G n c) ∧ w'.cell? ⟨w.heap.size, 3, none⟩ = some (.slice O q d)) (first | exact hK.out _ D | exact hK.out _ Br | exact hK.out _ Bq | go_keep) (first | (go_at_call 59; refine (HDb.out w3 Bq).mono ?_; rintro e w4 ⟨R4, m4, c4, rfl, o4, hm4, b4⟩; have Br := Bq.trans (b4.mono Bq.size); have oa4 := oa.below b4) | (go_at_call 59; refine (HDa.out).mono ?_; rintro e w3 ⟨R3, m3, c3, rfl, oa, hm3, b3⟩; have Bq := D.trans (b3.mono D.size)))
    have hO4 := hO2.below Br
    obtain ⟨k0, k1, k2, k3⟩ := hK.out _ Br
    have ha := oa4.has
    have hb := o4.has
    have hmm : m4 = m3 := hm4.out.trans hm3.out.symm
    subst hmm
    have HI4 : Hid (∀ k, k < q → 0 ≤ C.os.getD k 0 ∧ C.os.getD k 0 < (m4 : Int)) := fun k hk => by have := HIn.out k hk; rw [← hm4.out] at this; exact this
    clear hm3 hm4 hK D HDa HDb oa4 o4 oa b3 b4
    go_wp2_with fail
    go_loop [5, 6, 21] (fun av bv iv => ∃ k : Nat, k ≤ q ∧ iv = .int .i64 k ∧ av = .int .i64 (mostAt (depC C false) 0 (C.os.take k)) ∧ bv = .int .i64 (mostAt (depC C true) 0 (C.os.take k))) (fun _ _ iv => q - (intOf iv).toNat)
    case atStart => exact ⟨0, Nat.zero_le _, rfl, rfl, rfl⟩
    case round =>
      obtain ⟨k, hk, rfl, rfl, rfl⟩ := hrel
      by_cases hlt : k < q
      · obtain ⟨od, i, rfl, hci, HI2⟩ := hO4.elem hlt
        obtain ⟨i0, i1⟩ : 0 ≤ i ∧ i < (m4 : Int) := by rw [HI2.out]; exact HI4.out k hlt
        obtain ⟨iN, rfl⟩ : ∃ iN : Nat, i = (iN : Int) := ⟨i.toNat, by omega⟩
        obtain ⟨ra, da, rfl, hca, HA⟩ := ha.elem (show iN < m4 by omega)
        obtain ⟨rb', db, rfl, hcb, HBv⟩ := hb.elem (show iN < m4 by omega)
        have j0 : (0 : Int) ≤ (k : Int) := by omega
        have j1 : (k : Int) < (q : Int) := by omega
        obtain ⟨ta, hta⟩ : ∃ t, mostAt (depC C false) 0 (C.os.take k) = t := ⟨_, rfl⟩
        obtain ⟨tb, htb⟩ : ∃ t, mostAt (depC C true) 0 (C.os.take k) = t := ⟨_, rfl⟩
        have HTa : Hid (mostOf ta da = mostAt (depC C false) 0 (C.os.take (k + 1))) := by show _ = _; rw [mostAt_step _ _ _ _ (by rw [HOL.out]; exact hlt), hta, ← HI2.out, HA.out]; rfl
        have HTb : Hid (mostOf tb db = mostAt (depC C true) 0 (C.os.take (k + 1))) := by show _ = _; rw [mostAt_step _ _ _ _ (by rw [HOL.out]; exact hlt), htb, ← HI2.out, HBv.out]; rfl
        rw [hta, htb]
        clear hta htb
        go_wp2_with fail
        refine (l1Most_any ta da w4).mono ?_
        rintro e w6 ⟨rfl, rfl⟩
        go_wp2_with fail
        refine (l1Most_any tb db w4).mono ?_
        rintro e w6 ⟨rfl, rfl⟩
        go_wp2_with fail
        go_round
        case rel => exact ⟨k + 1, by omega, by go_num, by rw [← HTa.out], by rw [← HTb.out]⟩
        case measure => simp [intOf]; omega
      · obtain rfl : k = q := by omega
        rw [List.take_of_length_le (by rw [HOL.out]; exact Nat.le_refl _), HRy.out, HRz.out]
        go_wp2_with fail
        go_ret3
        exact ⟨rfl, B2.trans (Br.mono B2.size)⟩

end Go.Proofs.Ytaohgbkhmgfnhaa
