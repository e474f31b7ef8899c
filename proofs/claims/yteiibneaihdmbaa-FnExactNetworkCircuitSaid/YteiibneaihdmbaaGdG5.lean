/- The model compares and chooses: the gates and the wires. For lists of at most 1000 wires. -/
import Derived.Test.YteiibneaihdmbaaGdG1
import Derived.Test.YteiibneaihdmbaaGdM1
import Derived.Deep.DeepCutAuto
namespace Go.Proofs.Yteiibneaihdmbaa
open Go Go.RowKit
set_option maxRecDepth 100000

set_option maxRecDepth 100000 in
set_option maxHeartbeats 4000000 in
theorem gdPick_any (s : Int) (q B N0 N1 : Nat) (R : Option Addr) (n c : Nat) (G : List Ga) (A : Option Addr) (na ca : Nat) (us : List Int) (A2 : Option Addr) (nb cb : Nat) (vs : List Int) (w : World) (hM : Mk w 118 q B N0 N1 R n c G) (h0 : N0 ≤ 1000) (h1 : N1 ≤ 1000) (hn : n ≤ 900000) (hA : HasI w A na us) (hB : HasI w A2 nb vs) (hab : na ≤ nb) (ha0 : 0 < na) (ha : na ≤ 1000) :
    Calls Try.prog 143 #[.pointer (some ⟨q, 0, none⟩), .int .i64 s, .slice A na ca, .slice A2 nb cb] w fun e w' => ∃ (R' : Option Addr) (n' c' : Nat) (O : Option Addr) (cO : Nat) (G' : List Ga) (os : List Int), e = .returned (.slice O na cO) ∧ Hid (eachTo (pickStep (N0 + N1) s us vs) G na = (G', os)) ∧ Own w' w.heap.size O na cO os ∧ Mk w' 118 q B N0 N1 R' n' c' G' ∧ MkTo q w (blockOf R) w' (blockOf R') := by
  have oldHA := hA.old
  have oldHB := hB.old
  have T0 := MkTo.refl q w (blockOf R)
  go_enter Try.func143, Try.ntmps143
  go_wp2_with fail
  go_loopw [9, 16] (fun ov iv wr => ∃ (k : Nat) (R' : Option Addr) (n' c' : Nat) (O : Option Addr) (cO : Nat) (Gk : List Ga) (ok : List Int), k ≤ na ∧ iv = .int .i64 k ∧ ov = .slice O k cO ∧ Hid (eachTo (pickStep (N0 + N1) s us vs) G k = (Gk, ok)) ∧ n' ≤ n + 3 * k ∧ Mk wr 118 q B N0 N1 R' n' c' Gk ∧ Own wr w.heap.size O k cO ok ∧ MkTo q w (blockOf R) wr (blockOf R')) (fun _ iv _ => na - (intOf iv).toNat)
  case atStart => exact ⟨0, R, n, c, none, 0, G, [], Nat.zero_le _, rfl, rfl, rfl, by omega, hM, Own.nil_ _ _, T0⟩
  case round =>
    obtain ⟨k, R1, n1, c1, O, cO, Gk, ok, hk, rfl, rfl, HS, hn1, M1, O1, T1⟩ := hrel
    have HA1 : HasI wr A na us := hA.to T1 hM
    have HB1 : HasI wr A2 nb vs := hB.to T1 hM
    by_cases hlt : k < na
    · have hltb : k < nb := by omega
      obtain ⟨ad, u, rfl, hcu, HU⟩ := HA1.1.elem hlt
      obtain ⟨bd, v, rfl, hcv, HV⟩ := HB1.1.elem hltb
      have q0 : (0 : Int) ≤ (k : Int) := by omega
      have q1 : (k : Int) < (nb : Int) := by omega
      have q2 : (k : Int) < (na : Int) := by omega
      have HG1 := Lib.hid M1.len
      go_wp2_with fail
      refine (mkXor_any u v q B N0 N1 _ _ _ _ _ M1 h0 h1 (by omega)).mono ?_
      rintro e w2 ⟨R2, c2, z2, rfl, hz2, M2, t2⟩
      have T2 := T1.trans t2
      have O2 := O1.mk t2 M1
      have HA2 := HA1.mk t2 M1
      have HB2 := HB1.mk t2 M1
      clear t2 T1 M1 O1 HA1 HB1
      go_wp2_with fail
      refine (mkAnd_any s z2 q B N0 N1 _ _ _ _ _ M2 h0 h1 (by omega)).mono ?_
      rintro e w3 ⟨R3, c3, z3, rfl, hz3, M3, t3⟩
      have T3 := T2.trans t3
      have O3 := O2.mk t3 M2
      have HA3 := HA2.mk t3 M2
      have HB3 := HB2.mk t3 M2
      clear t3 T2 M2 O2 HA2 HB2
      have hcv3 : w3.cell? (bd.add k) = some (.int .i64 v) := by
        obtain ⟨bd2, e2, _, hc2⟩ := HB3.1.2 (by omega)
        injection e2 with e2
        subst e2
        rw [HV.out]
        exact hc2 k hltb
      go_wp2_with fail
      refine (mkXor_any z3 v q B N0 N1 _ _ _ _ _ M3 h0 h1 (by omega)).mono ?_
      rintro e w4 ⟨R4, c4, z4, rfl, hz4, M4, t4⟩
      have T4 := T3.trans t4
      have O4 := O3.mk t4 M3
      have HA4 := HA3.mk t4 M3
      have HB4 := HB3.mk t4 M3
      clear t4 T3 M3 O3 HA3 HB3
      have sz4 : w.heap.size ≤ w4.heap.size := T4.size
      go_wp2_with (at_builtin; refine appendIntG w4 rfl (.tmp 32) (.tmp 40) rfl z4 w.heap.size (.slice O k cO) k ok rfl rfl O4.2 (by omega) sz4 ?_; intro v5 w5 own5 b5 g5)
      rw [ownBlockOf] at g5
      obtain ⟨X5, cX5, rfl, O5⟩ := ownOf own5
      have M5 := M4.rowed O4 g5
      have T5 := T4.grown g5 (O4.rowGe)
      have HA5 := HA4.marked g5 oldHA O4 (Nat.le_refl _)
      have HB5 := HB4.marked g5 oldHB O4 (Nat.le_refl _)
      clear own5 b5 g5 T4 M4 O4 HA4 HB4
      have key : Hid (eachTo (pickStep (N0 + N1) s us vs) G (k + 1) = (Gk ++ [(0, u, v), (1, s, z2), (0, z3, v)], ok ++ [z4])) := by
        show _ = _
        rw [eachTo_succ, HS.out]
        simp only [pickStep]
        rw [← HU.out, ← HV.out, HG1.out, hz2.out, hz3.out, hz4.out]
        simp
        try omega
      clear HS
      go_wp2_with fail
      go_roundw
      case rel => exact ⟨k + 1, R4, n1 + 1 + 1 + 1, c4, X5, cX5, _, _, by omega, by go_num, rfl, key, by omega, by simpa using M5, O5, T5⟩
      case measure => simp [intOf]; omega
    · obtain rfl : k = na := by omega
      clear HA1 HB1
      go_wp2_with fail
      go_ret
      exact ⟨R1, n1, c1, O, cO, Gk, ok, rfl, HS, O1, M1, T1⟩

end Go.Proofs.Yteiibneaihdmbaa
