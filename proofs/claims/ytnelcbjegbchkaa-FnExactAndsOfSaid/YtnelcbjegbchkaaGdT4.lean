/- The program multiplies (multiply). For numbers of at most 8 bits. -/
import Derived.Test.YtnelcbjegbchkaaGdT3
import Derived.Deep.DeepCutAuto
namespace Go.Proofs.Ytnelcbjegbchkaa
open Go Go.RowKit
set_option maxRecDepth 100000

theorem mulTo_len (N : Nat) (G : List Ga) (us vs : List Int) (m1 : 0 < us.length) : ∀ i, (mulTo N G us vs i).2.1.length = i + 1 ∧ (mulTo N G us vs i).2.2.length = if i = 0 then us.length - 1 else us.length
  | 0 => by
    rw [mulTo_zero]
    simp [eachTo_length]
    omega
  | i + 1 => by
    obtain ⟨h1, _⟩ := mulTo_len N G us vs m1 i
    rw [mulTo_succ, mulStep]
    simp [carOuts_length, h1]
    try omega

theorem stepMany {ops : Array Oper} {o : Oper} {a : Act} {K : Act → World → Prop} {Q : Exit → Act → World → Prop} {E : Prop} (W : World) (hgd : o.guard = none) (s x : Operand)
    (ho : o.op = .call { callee := .builtin .append, args := #[s, x], argTypes := #[26, 26] }) (B : Nat) (v : Value) (n : Nat) (ys : List Int) (g2 m2 c2 : Nat) (zs : List Int) (hs : a.eval s = v)
    (hx : a.eval x = .slice (some ⟨g2, 0, none⟩) m2 c2) (hZ : Has W (some ⟨g2, 0, none⟩) m2 zs) (hm0 : 0 < m2) (hown : W.ownsRow B 3 1 v n (vals ys)) (hn : n ≤ 16777216) (hm : m2 ≤ 16777216) (hB : B ≤ W.heap.size)
    (h : ∀ g cap w', Own w' B (some ⟨g, 0, none⟩) (n + m2) cap (ys ++ zs) → W.grownBy w' v.ownBlock → K (a.put o.dst (.slice (some ⟨g, 0, none⟩) (n + m2) cap)) w') :
    if Region.wanted o (yielded ops a.tmps) = true then Oper.wp Try.prog o a W K Q else E := by
  obtain ⟨i0, hi, hz0, hz1, hz2⟩ := info_parts infoInt
  obtain ⟨ad, e, _, hc⟩ := hZ.2 hm0
  injection e with e
  subst e
  refine step_append_lies W hgd s x _ ho B 3 i0 (.int .i64 0) 1 8 Try.underlying26 hi hz0 hz1 hz2 rfl (by decide) v n (vals ys) hs hown ⟨g2, 0, none⟩ m2 c2 (vals zs) hx (by rw [vals_length, hZ.1]; omega) ?_ (vals_one zs) hm0 (by simp only [maxLen]; omega) (by omega) hB _ rfl ?_
  · intro j u hj
    have hjl : j < zs.length := by have := (List.getElem?_eq_some_iff.1 hj).1; rwa [vals_length] at this
    rw [← hj, vals_at _ _ hjl]
    exact hc j (by rw [← hZ.1]; exact hjl)
  · intro g cap w' h1 h2 _ _
    have hl : ys.length = n := by have := hown.1; rw [vals_length] at this; omega
    exact h g cap w' ⟨by rw [List.length_append, hl, hZ.1], by rw [vals_append]; exact h1⟩ h2

set_option maxRecDepth 100000 in
set_option maxHeartbeats 4000000 in
theorem gmMultiply_any (q B N0 N1 : Nat) (R : Option Addr) (n c : Nat) (G : List Ga) (A : Option Addr) (m ca : Nat) (us : List Int) (A2 : Option Addr) (cb : Nat) (vs : List Int) (w : World) (hM : Mk w 85 q B N0 N1 R n c G) (h0 : N0 ≤ 1000) (h1 : N1 ≤ 1000) (hn : n ≤ 800000) (hA : HasI w A m us) (hB : HasI w A2 m vs) (m1 : 0 < m) (m8 : m ≤ 8) :
    Calls Try.prog 130 #[.pointer (some ⟨q, 0, none⟩), .slice A m ca, .slice A2 m cb] w fun e w' => ∃ (R' : Option Addr) (n' c' : Nat) (O : Option Addr) (l cO : Nat) (G' : List Ga) (lo hi : List Int), e = .returned (.slice O l cO) ∧ Hid (mulTo (N0 + N1) G us vs (m - 1) = (G', lo, hi)) ∧ Own w' w.heap.size O l cO (lo ++ hi) ∧ Mk w' 85 q B N0 N1 R' n' c' G' ∧ MkTo q w (blockOf R) w' (blockOf R') := by
  have T0 := MkTo.refl q w (blockOf R)
  have HL := Lib.hid hM.len
  have HU := Lib.hid hA.1.1
  obtain ⟨bd0, v0, eB, hcv0', HV0⟩ := hB.1.elem (k := 0) m1
  have HMQ := Lib.hid hB
  subst eB
  have hcv0 : w.cell? bd0 = some (.int .i64 v0) := by simpa [Addr.add] using hcv0'
  have HC0 := Lib.hid (gmMulBit_any A m ca us v0 q B N0 N1 R n c G w hM h0 h1 (by omega) hA (by omega))
  have i0 : (0 : Int) < (m : Int) := by omega
  clear hcv0'
  go_enter Try.func130, Try.ntmps130
  go_wp2_with fail
  refine (HC0.out).mono ?_
  rintro e w1 ⟨R1, n1, c1, O1, G1, os1, rfl, hs1, o1, M1, T1⟩
  have n1b : n1 ≤ n + m := by have h5 := M1.len; have h6 := eachTo_gates (andStep_le (N0 + N1) v0 us) G m; rw [hs1.out] at h6; simp only at h6; have := HL.out; omega
  have hmul0 : Hid (mulTo (N0 + N1) G us vs (1 - 1) = (G1, os1.take 1, os1.drop 1)) := by
    show mulTo (N0 + N1) G us vs 0 = _
    rw [mulTo_zero, ← HV0.out, HU.out, hs1.out]
  have o1' : Own w1 w.heap.size O1 m m (os1.take 1 ++ os1.drop 1) := by rw [List.take_append_drop]; exact o1
  clear HC0 hcv0 hs1 o1
  go_wp2_with fail
  go_loopw [7, 8] (fun sv iv wr => ∃ (i : Nat) (R' : Option Addr) (n' c' : Nat) (Gk : List Ga) (O : Option Addr) (l cO : Nat) (lo hi : List Int), 1 ≤ i ∧ i ≤ m ∧ iv = .int .i64 i ∧ sv = .slice O l cO ∧ Hid (l = if i = 1 then m else m + i) ∧ n' ≤ n + 60 * i ∧ Hid (mulTo (N0 + N1) G us vs (i - 1) = (Gk, lo, hi)) ∧ Own wr w.heap.size O l cO (lo ++ hi) ∧ Mk wr 85 q B N0 N1 R' n' c' Gk ∧ MkTo q w (blockOf R) wr (blockOf R')) (fun _ iv _ => m - (intOf iv).toNat)
  case atStart => exact ⟨1, R1, n1, c1, G1, O1, m, m, _, _, by omega, m1, rfl, rfl, rfl, by omega, hmul0, o1', M1, T1⟩
  case round =>
    obtain ⟨i, R2, n2, c2, Gk, O, l, cO, lo, hi, hi1, him, rfl, rfl, hl, hn2, hmul, oS, M2, T2⟩ := hrel
    by_cases hlt : i < m
    · obtain ⟨_, v, eB, hcv, HV⟩ := (HMQ.out.to T2 hM).1.elem hlt
      injection eB with eB
      subst eB
      have hlen := mulTo_len (N0 + N1) G us vs (by rw [HU.out]; exact m1) (i - 1)
      rw [hmul.out, HU.out] at hlen
      obtain ⟨hlo, hhi⟩ := hlen
      simp only at hlo hhi
      have hlo' : lo.length = i := by omega
      have sz2 := T2.size
      have q0 : (0 : Int) ≤ (i : Int) := by omega
      have q1 : (i : Int) < (m : Int) := by omega
      have hlo2 := Lib.hid hlo'
      by_cases hi1e : i = 1
      · subst hi1e
        have hl2 : l = m := by rw [hl.out, if_pos rfl]
        subst hl2
        have HLO : Hid (lo.length = 1) := hlo'
        have HH0 : hi.length = l - 1 := by rw [hhi, if_pos rfl]
        have HMUL := Lib.hid hmul.out
        have hcv1 : wr.cell? ⟨bd0.block, bd0.off + 1, none⟩ = some (.int .i64 v) := by simpa [Addr.add] using hcv
        have HGk := Lib.hid M2.len
        have HZ := Lib.hid (gmZero_any q B N0 N1 R2 n2 c2 Gk wr M2 h0 h1 (by omega))
        have HM2z := Lib.hid M2
        have HoSz := Lib.hid oS
        clear hlo hhi hl hlo' hlo2 M2 oS hmul
        go_wp2_with fail
        refine (HZ.out).mono ?_
        rintro e wz ⟨Rz, cz, z, rfl, hz, Mz, tz⟩
        have oSz := HoSz.out.mk tz HM2z.out
        have Tz := T2.trans tz
        have szz := Tz.size
        clear HZ HM2z HoSz
        go_upto_region 7 with (at_builtin; refine appendIntG wz rfl (.tmp 24) (.tmp 27) rfl z w.heap.size (.slice O l cO) l (lo ++ hi) rfl rfl oSz.2 (by omega) szz ?_; intro vy wy owny by_ gy)
        rw [ownBlockOf] at gy
        obtain ⟨Xy, cXy, rfl, oSy⟩ := ownOf owny
        have My := Mz.rowed oSz gy
        have Ty := Tz.grown gy oSz.rowGe
        have hcvy : wy.cell? ⟨bd0.block, bd0.off + 1, none⟩ = some (.int .i64 v) := by
          obtain ⟨_, e2, _, hc2⟩ := (HMQ.out.to Ty hM).1.2 (by omega)
          injection e2 with e2
          subst e2
          have := hc2 1 hlt
          rw [HV.out]
          simpa [Addr.add] using this
        obtain ⟨hq, hhq⟩ : ∃ h, h = hi ++ [z] := ⟨_, rfl⟩
        obtain ⟨Gq, hGq⟩ : ∃ g, g = Gk ++ [(3, 0, 0), (2, ((N0 + N1 + n2 : Nat) : Int), 0)] := ⟨_, rfl⟩
        rw [← hGq] at My
        have oSq : Own wy w.heap.size Xy (l + 1) cXy (lo ++ hq) := by rw [hhq, ← List.append_assoc]; exact oSy
        have HHQ := Lib.hid hhq
        have HGQ := Lib.hid hGq
        have HH : Hid (hq.length = l) := by show _ = _; rw [hhq, List.length_append, HH0]; simp; omega
        clear owny by_ gy oSy oSz Mz Tz tz hhq hGq HH0
        have HC := Lib.hid (gmMulBit_any A l ca us v q B N0 N1 Rz (n2 + 2) cz Gq wy My h0 h1 (by omega) (hA.to Ty hM) (by omega))
        have HM2 := Lib.hid My
        have HOS := Lib.hid oSq
        clear oSq
        go_wp2_with fail
        refine (HC.out).mono ?_
        rintro e w3 ⟨R3, n3, c3, O3, G3, os3, rfl, hs3, o3, M3, t3⟩
        have oS3 := HOS.out.mk t3 HM2.out
        have T3 := Ty.trans t3
        have n3b : n3 ≤ (n2 + 2) + l := by have h5 := M3.len; have h6 := eachTo_gates (andStep_le (N0 + N1) v us) Gq l; rw [hs3.out] at h6; simp only at h6; have := HM2.out.len; omega
        obtain ⟨gS, rfl⟩ := oS3.spot (by omega)
        have capS := oS3.capLe
        have oP : Own w3 w.heap.size (some ⟨gS, 0, none⟩) 1 cXy lo := by
          refine ⟨HLO.out, by rw [vals_length, HLO.out, Nat.mul_one], ?_⟩
          rcases oS3.2.2 with ⟨hv, _⟩ | ⟨g2, cap, cur, e, hb, hg, h5, h6, h7, h8⟩
          · cases hv
          · injection e with e1 e2 e3
            refine .inr ⟨g2, cap, cur, by rw [e1, e3], hb, hg, by omega, h6, h7, ?_⟩
            have : vals lo = (vals (lo ++ hq)).take 1 := by rw [vals_append, List.take_left' (by rw [vals_length, HLO.out])]
            rw [this, ← h8, List.take_take]
            congr 1 <;> omega
        have hSd : HasI w3.drew (some ⟨gS, 1, none⟩) l hq := by
          have := (show HasI w3.drew (some ⟨gS, 0, none⟩) (l + 1) (lo ++ hq) from oS3.hasI).drop (k := 1) (by omega)
          rw [addNone', Nat.add_sub_cancel, List.drop_left' HLO.out] at this
          exact this
        have hR3 : HasI w3.drew O3 l os3 := o3.hasI
        have HAd := Lib.hid (gmAdd_any q B N0 N1 R3 n3 c3 G3 (some ⟨gS, 1, none⟩) l (cXy - 1) hq O3 l l os3 w3.drew M3.drew h0 h1 (by omega) hSd hR3 (Nat.le_refl _) m1 (by omega))
        have T3d : MkTo q w (blockOf R) w3.drew (blockOf R3) := T3.drew
        have HM3d := Lib.hid M3.drew
        have HoPd : Hid (Own w3.drew w.heap.size (some ⟨gS, 0, none⟩) 1 cXy lo) := oP
        have r0 : ((1 : Nat) : Int) ≤ ((l + 1 : Nat) : Int) := by omega
        have r1 : ((1 : Nat) : Int) ≤ (cXy : Int) := by omega
        have r2 : ¬ 1 = cXy := by omega
        have r2b : ¬ cXy = 1 := by omega
        have r3 : 1 ≤ l + 1 := by omega
        have r4 : 1 ≤ cXy := by omega
        have r5 : 1 < cXy := by omega
        have r6 : ((1 : Nat) : Int) ≤ (l : Int) + ((1 : Nat) : Int) := by omega
        have szd : w.heap.size ≤ w3.heap.size := T3.size
        have r7 : (1 : Int) ≤ (l : Int) + 1 := by omega
        have r8 : 1 ≤ l + 1 := by omega
        have r9 : (1 : Int) ≤ (cXy : Int) := by omega
        have r10 : 1 ≤ cXy := by omega
        have r11 : (0 : Int) ≤ (l : Int) := by omega
        have HN3 := Lib.hid M3.len
        clear HC t3 T3 oS3 oP hSd hR3 M3 o3 HOS HM2
        go_wp2_with fail
        first | (go_region_held3 (fun _ => True) (first | exact True.intro) (first | (go_at_call 122; refine call_eq (args1 := #[.pointer (some ⟨q, 0, none⟩), .slice (some ⟨gS, 1, none⟩) l (cXy - 1), .slice O3 l l]) (w1 := w3.drew) (by simp <;> omega) rfl ?_; refine Calls.mono HAd.out ?_; rintro e w4 ⟨R4, n4, c4, O4, d4, rfl, o4, M4, t4⟩; obtain ⟨g4, rfl⟩ := o4.spot (Nat.succ_pos l); have oP4 := HoPd.out.mk t4 HM3d.out; have T4 := T3d.trans t4; have sz4 := T4.size) | (refine stepMany w4 rfl (.tmp 38) (.tmp 44) rfl w.heap.size (.slice (some ⟨gS, 0, none⟩) 1 cXy) 1 lo g4 (l + 1) d4 _ (by simp [Act.eval]) (by simp [Act.eval]) o4.has (Nat.succ_pos l) oP4.2 (by omega) (by omega) sz4 ?_; intro gB cB w5 own5 g5))) | fail
        have n4b : n4 ≤ n3 + 6 * l := by have h5 := M4.len; have h6 := carTo_gates (addSteps (N0 + N1)) G3 hq os3 l; have := HN3.out; omega
        have M5 := M4.rowed oP4 g5
        have T5 := T4.grown g5 (fun x e => by have e2 : gS = x := (by simpa [Value.ownBlock] using e); have e3 := (oP4.born ⟨gS, 0, none⟩ rfl).1; simp only at e3; omega)
        have HLEN : Hid (1 + (l + 1) = if 2 = 1 then l else l + 2) := by show _ = _; rw [if_neg (by decide)]; omega
        have HNEW : Hid (mulTo (N0 + N1) G us vs (2 - 1) = ((carTo (addStep (N0 + N1)) G3 hq os3 l).1, lo ++ (carOuts (addStep (N0 + N1)) G3 hq os3 l).take 1, (carOuts (addStep (N0 + N1)) G3 hq os3 l).drop 1)) := by
          show mulTo (N0 + N1) G us vs 1 = _
          have e5 : hi ++ [((N0 + N1 + Gk.length + 1 : Nat) : Int)] = hq := by rw [HHQ.out, hz.out, HGk.out]
          have e6 : Gk ++ [(3, 0, 0), (2, ((N0 + N1 + Gk.length : Nat) : Int), 0)] = Gq := by rw [HGQ.out, HGk.out]
          rw [mulTo_one _ _ _ _ HMUL.out, ← HV.out, HU.out, e5, e6, hs3.out]
        have own6 : Own w5 w.heap.size (some ⟨gB, 0, none⟩) (1 + (l + 1)) cB ((lo ++ (carOuts (addStep (N0 + N1)) G3 hq os3 l).take 1) ++ (carOuts (addStep (N0 + N1)) G3 hq os3 l).drop 1) := by rw [List.append_assoc, List.take_append_drop]; exact own5
        clear HAd HM3d HoPd M4 t4 o4 oP4 T4 own5 g5
        go_wp2_with fail
        go_roundw
        case rel => first | exact ⟨2, R4, n4, c4, _, some ⟨gB, 0, none⟩, 1 + (l + 1), cB, _, _, by omega, by omega, by go_num, rfl, HLEN, by omega, HNEW, own6, M5, T5⟩ | ((repeat apply Exists.intro); exact ⟨⟨2, R4, n4, c4, _, some ⟨gB, 0, none⟩, 1 + (l + 1), cB, _, _, by omega, by omega, by go_num, rfl, HLEN, by omega, HNEW, own6, M5, T5⟩, rfl⟩)
        case measure => simp [intOf]; omega
      · have hl2 : l = m + i := by rw [hl.out, if_neg hi1e]
        subst hl2
        have hi1b : (((i : Nat) : Int) == 1) = false := by simp; omega
        have HLO : Hid (lo.length = i) := hlo'
        have HH : Hid (hi.length = m) := by show _ = _; rw [hhi, if_neg (by omega)]
        clear hlo hhi hl hlo' hlo2
        have HC := Lib.hid (gmMulBit_any A m ca us v q B N0 N1 R2 n2 c2 Gk wr M2 h0 h1 (by omega) (hA.to T2 hM) (by omega))
        have HM2 := Lib.hid M2
        have HOS := Lib.hid oS
        clear oS
        go_wp2_with fail
        refine (HC.out).mono ?_
        rintro e w3 ⟨R3, n3, c3, O3, G3, os3, rfl, hs3, o3, M3, t3⟩
        have oS3 := HOS.out.mk t3 HM2.out
        have T3 := T2.trans t3
        have n3b : n3 ≤ n2 + m := by have h5 := M3.len; have h6 := eachTo_gates (andStep_le (N0 + N1) v us) Gk m; rw [hs3.out] at h6; simp only at h6; have := HM2.out.len; omega
        obtain ⟨gS, rfl⟩ := oS3.spot (by omega)
        have capS := oS3.capLe
        have oP : Own w3 w.heap.size (some ⟨gS, 0, none⟩) i cO lo := by
          refine ⟨HLO.out, by rw [vals_length, HLO.out, Nat.mul_one], ?_⟩
          rcases oS3.2.2 with ⟨hv, _⟩ | ⟨g2, cap, cur, e, hb, hg, h5, h6, h7, h8⟩
          · cases hv
          · injection e with e1 e2 e3
            refine .inr ⟨g2, cap, cur, by rw [e1, e3], hb, hg, by omega, h6, h7, ?_⟩
            have : vals lo = (vals (lo ++ hi)).take i := by rw [vals_append, List.take_left' (by rw [vals_length, HLO.out])]
            rw [this, ← h8, List.take_take]
            congr 1 <;> omega
        have hSd : HasI w3.drew (some ⟨gS, i, none⟩) m hi := by
          have := (show HasI w3.drew (some ⟨gS, 0, none⟩) (m + i) (lo ++ hi) from oS3.hasI).drop (k := i) (by omega)
          rw [addNone', Nat.add_sub_cancel, List.drop_left' HLO.out] at this
          exact this
        have hR3 : HasI w3.drew O3 m os3 := o3.hasI
        have HAd := Lib.hid (gmAdd_any q B N0 N1 R3 n3 c3 G3 (some ⟨gS, i, none⟩) m (cO - i) hi O3 m m os3 w3.drew M3.drew h0 h1 (by omega) hSd hR3 (Nat.le_refl _) m1 (by omega))
        have T3d : MkTo q w (blockOf R) w3.drew (blockOf R3) := T3.drew
        have HM3d := Lib.hid M3.drew
        have HoPd : Hid (Own w3.drew w.heap.size (some ⟨gS, 0, none⟩) i cO lo) := oP
        have r0 : ((i : Nat) : Int) ≤ ((m + i : Nat) : Int) := by omega
        have r1 : ((i : Nat) : Int) ≤ (cO : Int) := by omega
        have r2 : ¬ i = cO := by omega
        have r2b : ¬ cO = i := by omega
        have r3 : i ≤ m + i := by omega
        have r4 : i ≤ cO := by omega
        have r5 : i < cO := by omega
        have r6 : ((i : Nat) : Int) ≤ (m : Int) + ((i : Nat) : Int) := by omega
        have szd : w.heap.size ≤ w3.heap.size := T3.size
        have r7 : (1 : Int) ≤ (m : Int) + 1 := by omega
        have r8 : 1 ≤ m + 1 := by omega
        have r9 : (1 : Int) ≤ (cO : Int) := by omega
        have r10 : 1 ≤ cO := by omega
        have r11 : (0 : Int) ≤ (m : Int) := by omega
        have HN3 := Lib.hid M3.len
        clear HC t3 T3 oS3 oP hSd hR3 M3 o3 HOS HM2
        go_wp2_with fail
        first | (go_region_held3 (fun _ => True) (first | exact True.intro) (first | (go_at_call 122; refine call_eq (args1 := #[.pointer (some ⟨q, 0, none⟩), .slice (some ⟨gS, i, none⟩) m (cO - i), .slice O3 m m]) (w1 := w3.drew) (by simp <;> omega) rfl ?_; refine Calls.mono HAd.out ?_; rintro e w4 ⟨R4, n4, c4, O4, d4, rfl, o4, M4, t4⟩; obtain ⟨g4, rfl⟩ := o4.spot (Nat.succ_pos m); have oP4 := HoPd.out.mk t4 HM3d.out; have T4 := T3d.trans t4; have sz4 := T4.size) | (refine stepMany w4 rfl (.tmp 38) (.tmp 44) rfl w.heap.size (.slice (some ⟨gS, 0, none⟩) i cO) i lo g4 (m + 1) d4 _ (by simp [Act.eval]) (by simp [Act.eval]) o4.has (Nat.succ_pos m) oP4.2 (by omega) (by omega) sz4 ?_; intro gB cB w5 own5 g5))) | fail
        have n4b : n4 ≤ n3 + 6 * m := by have h5 := M4.len; have h6 := carTo_gates (addSteps (N0 + N1)) G3 hi os3 m; have := HN3.out; omega
        have M5 := M4.rowed oP4 g5
        have T5 := T4.grown g5 (fun x e => by have e2 : gS = x := (by simpa [Value.ownBlock] using e); have e3 := (oP4.born ⟨gS, 0, none⟩ rfl).1; simp only at e3; omega)
        have HLEN : Hid (i + (m + 1) = if i + 1 = 1 then m else m + (i + 1)) := by show _ = _; rw [if_neg (by omega)]; omega
        have HNEW : Hid (mulTo (N0 + N1) G us vs (i + 1 - 1) = ((carTo (addStep (N0 + N1)) G3 hi os3 m).1, lo ++ (carOuts (addStep (N0 + N1)) G3 hi os3 m).take 1, (carOuts (addStep (N0 + N1)) G3 hi os3 m).drop 1)) := by
          show _ = _
          have e6 : i + 1 - 1 = (i - 1) + 1 := by omega
          have e7 : i - 1 + 1 = i := by omega
          rw [e6, mulTo_more _ _ _ _ (by omega) hmul.out, e7, ← HV.out, HU.out, hs3.out]
        have own6 : Own w5 w.heap.size (some ⟨gB, 0, none⟩) (i + (m + 1)) cB ((lo ++ (carOuts (addStep (N0 + N1)) G3 hi os3 m).take 1) ++ (carOuts (addStep (N0 + N1)) G3 hi os3 m).drop 1) := by rw [List.append_assoc, List.take_append_drop]; exact own5
        clear HAd HM3d HoPd M4 t4 o4 oP4 T4 own5 g5
        go_wp2_with fail
        go_roundw
        case rel => first | exact ⟨i + 1, R4, n4, c4, _, some ⟨gB, 0, none⟩, i + (m + 1), cB, _, _, by omega, by omega, by go_num, rfl, HLEN, by omega, HNEW, own6, M5, T5⟩ | ((repeat apply Exists.intro); exact ⟨⟨i + 1, R4, n4, c4, _, some ⟨gB, 0, none⟩, i + (m + 1), cB, _, _, by omega, by omega, by go_num, rfl, HLEN, by omega, HNEW, own6, M5, T5⟩, rfl⟩)
        case measure => simp [intOf]; omega
    · obtain rfl : i = m := by omega
      go_wp2_with fail
      go_ret
      exact ⟨R2, n2, c2, O, l, cO, Gk, lo, hi, rfl, hmul.out, oS, M2, T2⟩

end Go.Proofs.Ytnelcbjegbchkaa
