/- The model adds and subtracts: the gates, the sums or differences, the last carry or borrow. For lists of at most 1000 wires. -/
import Derived.Test.YteiibneaihdmbaaGdG1
import Derived.Test.YteiibneaihdmbaaGdM1
import Derived.Deep.DeepCutAuto
namespace Go.Proofs.Yteiibneaihdmbaa
open Go Go.RowKit
set_option maxRecDepth 100000

set_option maxRecDepth 100000 in
set_option maxHeartbeats 4000000 in
theorem gdSub_any (q B N0 N1 : Nat) (R : Option Addr) (n c : Nat) (G : List Ga) (A : Option Addr) (na ca : Nat) (us : List Int) (A2 : Option Addr) (nb cb : Nat) (vs : List Int) (w : World) (hM : Mk w 118 q B N0 N1 R n c G) (h0 : N0 ≤ 1000) (h1 : N1 ≤ 1000) (hn : n ≤ 900000) (hA : HasI w A na us) (hB : HasI w A2 nb vs) (hab : na ≤ nb) (ha0 : 0 < na) (ha : na ≤ 1000) :
    Calls Try.prog 142 #[.pointer (some ⟨q, 0, none⟩), .slice A na ca, .slice A2 nb cb] w fun e w' => ∃ (R' : Option Addr) (n' c' : Nat) (O : Option Addr) (cO : Nat), e = .returned (.slice O (na + 1) cO) ∧ Own w' w.heap.size O (na + 1) cO (carOuts (subStep (N0 + N1)) G us vs na) ∧ Mk w' 118 q B N0 N1 R' n' c' (carTo (subStep (N0 + N1)) G us vs na).1 ∧ MkTo q w (blockOf R) w' (blockOf R') := by
  have oldHA := hA.old
  have oldHB := hB.old
  have HL := Lib.hid hM.len
  have HST := Lib.hid (subSteps (N0 + N1))
  have T0 := MkTo.refl q w (blockOf R)
  go_enter Try.func142, Try.ntmps142
  go_wp2_with fail
  go_loopw [7, 8, 19] (fun ov cv iv wr => ∃ (k : Nat) (R' : Option Addr) (n' c' : Nat) (O : Option Addr) (cO : Nat) (Gk : List Ga) (ok : List Int) (ck : Int), k ≤ na ∧ iv = .int .i64 k ∧ ov = .slice O k cO ∧ cv = .int .i64 ck ∧ Hid (carTo (subStep (N0 + N1)) G us vs k = (Gk, ok, ck)) ∧ n' ≤ n + 6 * k ∧ (k = 0 ∧ ck = -1 ∨ 0 < k ∧ 0 ≤ ck) ∧ Mk wr 118 q B N0 N1 R' n' c' Gk ∧ Own wr w.heap.size O k cO ok ∧ MkTo q w (blockOf R) wr (blockOf R')) (fun _ _ iv _ => na - (intOf iv).toNat)
  case atStart => exact ⟨0, R, n, c, none, 0, G, [], -1, Nat.zero_le _, rfl, rfl, rfl, rfl, by omega, .inl ⟨rfl, rfl⟩, hM, Own.nil_ _ _, T0⟩
  case round =>
    obtain ⟨k, R1, n1, c1, O, cO, Gk, ok, ck, hk, rfl, rfl, rfl, HS, hn1, hck, M1, O1, T1⟩ := hrel
    have HA1 : HasI wr A na us := hA.to T1 hM
    have HB1 : HasI wr A2 nb vs := hB.to T1 hM
    by_cases hlt : k < na
    · have hltb : k < nb := by omega
      obtain ⟨ad, u, rfl, hcu, HU⟩ := HA1.1.elem hlt
      obtain ⟨bd, v, rfl, hcv, HV⟩ := HB1.1.elem hltb
      have q0 : (0 : Int) ≤ (k : Int) := by omega
      have q1 : (k : Int) < (nb : Int) := by omega
      have q2 : (k : Int) < (na : Int) := by omega
      have HG1 := Lib.hid M1.len
      rcases hck with ⟨rfl, rfl⟩ | ⟨hk0, hck⟩
      · obtain ⟨rfl, rfl⟩ : G = Gk ∧ [] = ok := by have := HS.out; simpa [carTo] using this
        have hcu0 : wr.cell? ad = some (.int .i64 u) := by simpa [Addr.add] using hcu
        have hcv0 : wr.cell? bd = some (.int .i64 v) := by simpa [Addr.add] using hcv
        go_wp2_with fail
        refine (mkXor_any u v q B N0 N1 _ _ _ _ _ M1 h0 h1 (by omega)).mono ?_
        rintro e w2 ⟨R2, c2, z2, rfl, hz2, M2, t2⟩
        have T2 := T1.trans t2
        have O2 := O1.mk t2 M1
        have HA2 := HA1.mk t2 M1
        have HB2 := HB1.mk t2 M1
        clear t2 T1 M1 O1 HA1 HB1
        have sz2 : w.heap.size ≤ w2.heap.size := T2.size
        go_wp2_with (at_builtin; refine appendIntG w2 rfl (.tmp 30) (.tmp 35) rfl z2 w.heap.size (.slice O 0 cO) 0 [] rfl rfl O2.2 (by omega) sz2 ?_; intro v3 w3 own3 b3 g3)
        rw [ownBlockOf] at g3
        obtain ⟨X3, cX3, rfl, O3⟩ := ownOf own3
        have M3 := M2.rowed O2 g3
        have T3 := T2.grown g3 (O2.rowGe)
        have HA3 := HA2.marked g3 oldHA O2 (Nat.le_refl _)
        have HB3 := HB2.marked g3 oldHB O2 (Nat.le_refl _)
        clear own3 b3 g3 T2 M2 O2 HA2 HB2
        go_wp2_with fail
        refine (mkNot_any u q B N0 N1 _ _ _ _ _ M3 h0 h1 (by omega)).mono ?_
        rintro e w4 ⟨R4, c4, z4, rfl, hz4, M4, t4⟩
        have T4 := T3.trans t4
        have O4 := O3.mk t4 M3
        have HA4 := HA3.mk t4 M3
        have HB4 := HB3.mk t4 M3
        clear t4 T3 M3 O3 HA3 HB3
        go_wp2_with fail
        refine (mkAnd_any z4 v q B N0 N1 _ _ _ _ _ M4 h0 h1 (by omega)).mono ?_
        rintro e w5 ⟨R5, c5, z5, rfl, hz5, M5, t5⟩
        have T5 := T4.trans t5
        have O5 := O4.mk t5 M4
        have HA5 := HA4.mk t5 M4
        have HB5 := HB4.mk t5 M4
        clear t5 T4 M4 O4 HA4 HB4
        have key : Hid (carTo (subStep (N0 + N1)) G us vs 1 = (G ++ [(0, u, v), (2, u, 0), (1, z4, v)], [] ++ [z2], z5)) := by
          show _ = _
          rw [carTo_succ, ← HU.out, ← HV.out, hz2.out, hz4.out, hz5.out]
          simp [carTo, subStep, HG1.out]
          try omega
        have hcc : 0 ≤ z5 := by rw [hz5.out]; omega
        clear HS
        go_wp2_with fail
        go_roundw
        case rel => exact ⟨1, R5, n1 + 1 + 1 + 1, c5, X3, cX3, _, _, z5, by omega, by go_num, rfl, rfl, key, by omega, .inr ⟨by omega, hcc⟩, by simpa using M5, O5, T5⟩
        case measure => simp [intOf]; omega
      · have hck1 : ¬ ck < 0 := by omega
        go_wp2_with fail
        refine (mkXor_any u ck q B N0 N1 _ _ _ _ _ M1 h0 h1 (by omega)).mono ?_
        rintro e w2 ⟨R2, c2, z2, rfl, hz2, M2, t2⟩
        have T2 := T1.trans t2
        have O2 := O1.mk t2 M1
        have HA2 := HA1.mk t2 M1
        have HB2 := HB1.mk t2 M1
        clear t2 T1 M1 O1 HA1 HB1
        go_wp2_with fail
        refine (mkXor_any v ck q B N0 N1 _ _ _ _ _ M2 h0 h1 (by omega)).mono ?_
        rintro e w3 ⟨R3, c3, z3, rfl, hz3, M3, t3⟩
        have T3 := T2.trans t3
        have O3 := O2.mk t3 M2
        have HA3 := HA2.mk t3 M2
        have HB3 := HB2.mk t3 M2
        clear t3 T2 M2 O2 HA2 HB2
        go_wp2_with fail
        refine (mkXor_any z2 v q B N0 N1 _ _ _ _ _ M3 h0 h1 (by omega)).mono ?_
        rintro e w4 ⟨R4, c4, z4, rfl, hz4, M4, t4⟩
        have T4 := T3.trans t4
        have O4 := O3.mk t4 M3
        have HA4 := HA3.mk t4 M3
        have HB4 := HB3.mk t4 M3
        clear t4 T3 M3 O3 HA3 HB3
        have sz4 : w.heap.size ≤ w4.heap.size := T4.size
        go_wp2_with (at_builtin; refine appendIntG w4 rfl (.tmp 52) (.tmp 57) rfl z4 w.heap.size (.slice O k cO) k ok rfl rfl O4.2 (by omega) sz4 ?_; intro v5 w5 own5 b5 g5)
        rw [ownBlockOf] at g5
        obtain ⟨X5, cX5, rfl, O5⟩ := ownOf own5
        have M5 := M4.rowed O4 g5
        have T5 := T4.grown g5 (O4.rowGe)
        have HA5 := HA4.marked g5 oldHA O4 (Nat.le_refl _)
        have HB5 := HB4.marked g5 oldHB O4 (Nat.le_refl _)
        clear own5 b5 g5 T4 M4 O4 HA4 HB4
        go_wp2_with fail
        refine (mkNot_any z2 q B N0 N1 _ _ _ _ _ M5 h0 h1 (by omega)).mono ?_
        rintro e w6 ⟨R6, c6, z6, rfl, hz6, M6, t6⟩
        have T6 := T5.trans t6
        have O6 := O5.mk t6 M5
        have HA6 := HA5.mk t6 M5
        have HB6 := HB5.mk t6 M5
        clear t6 T5 M5 O5 HA5 HB5
        go_wp2_with fail
        refine (mkAnd_any z6 z3 q B N0 N1 _ _ _ _ _ M6 h0 h1 (by omega)).mono ?_
        rintro e w7 ⟨R7, c7, z7, rfl, hz7, M7, t7⟩
        have T7 := T6.trans t7
        have O7 := O6.mk t7 M6
        have HA7 := HA6.mk t7 M6
        have HB7 := HB6.mk t7 M6
        clear t7 T6 M6 O6 HA6 HB6
        go_wp2_with fail
        refine (mkXor_any z7 ck q B N0 N1 _ _ _ _ _ M7 h0 h1 (by omega)).mono ?_
        rintro e w8 ⟨R8, c8, z8, rfl, hz8, M8, t8⟩
        have T8 := T7.trans t8
        have O8 := O7.mk t8 M7
        have HA8 := HA7.mk t8 M7
        have HB8 := HB7.mk t8 M7
        clear t8 T7 M7 O7 HA7 HB7
        have key : Hid (carTo (subStep (N0 + N1)) G us vs (k + 1) = (Gk ++ [(0, u, ck), (0, v, ck), (0, z2, v), (2, z2, 0), (1, z6, z3), (0, z7, ck)], ok ++ [z4], z8)) := by
          show _ = _
          rw [carTo_succ, HS.out, ← HU.out, ← HV.out, hz2.out, hz3.out, hz4.out, hz6.out, hz7.out, hz8.out]
          simp [subStep, HG1.out, show ¬ k = 0 by omega]
          try omega
        have hcc : 0 ≤ z8 := by rw [hz8.out]; omega
        clear HS
        go_wp2_with fail
        go_roundw
        case rel => exact ⟨k + 1, R8, n1 + 1 + 1 + 1 + 1 + 1 + 1, c8, X5, cX5, _, _, z8, by omega, by go_num, rfl, rfl, key, by omega, .inr ⟨by omega, hcc⟩, by simpa using M8, O8, T8⟩
        case measure => simp [intOf]; omega
    · obtain rfl : k = na := by omega
      obtain ⟨wq, hwq⟩ : ∃ w1, w1 = wr := ⟨_, rfl⟩
      subst hwq
      clear HA1 HB1
      have sz1 : w.heap.size ≤ wq.heap.size := T1.size
      go_wp2_with (at_builtin; refine appendIntG wq rfl (.tmp 71) (.tmp 73) rfl ck w.heap.size (.slice O k cO) k ok rfl rfl O1.2 (by omega) sz1 ?_; intro v2 w2 own2 b2 g2)
      rw [ownBlockOf] at g2
      obtain ⟨X2, cX2, rfl, O2⟩ := ownOf own2
      have M2 := M1.rowed O1 g2
      have T2 := T1.grown g2 O1.rowGe
      go_ret
      refine ⟨R1, n1, c1, X2, cX2, rfl, ?_, ?_, T2⟩
      · rw [carOuts, HS.out]; exact O2
      · rw [HS.out]; exact M2

end Go.Proofs.Yteiibneaihdmbaa
