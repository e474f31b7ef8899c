/- The program adds and subtracts: the gates, the sums or differences, the last carry or borrow (carried, at the method values that add and subtract). For lists of at most 1000 wires. -/
import Derived.Test.YteiibneaihdmbaaGdI2
import Derived.Deep.RegionHeld3
import Derived.Deep.DeepCutAuto
namespace Go.Proofs.Yteiibneaihdmbaa
open Go Go.RowKit
set_option maxRecDepth 100000

set_option maxRecDepth 100000 in
set_option maxHeartbeats 2000000 in
theorem carriedSub_any (q B N0 N1 : Nat) (R : Option Addr) (n c : Nat) (G : List Ga) (A : Option Addr) (na ca : Nat) (us : List Int) (A2 : Option Addr) (nb cb : Nat) (vs : List Int) (w : World) (hM : Mk w 82 q B N0 N1 R n c G) (h0 : N0 ≤ 1000) (h1 : N1 ≤ 1000) (hn : n ≤ 900000) (hA : HasI w A na us) (hB : HasI w A2 nb vs) (hab : na ≤ nb) (ha0 : 0 < na) (ha : na ≤ 1000) :
    Calls Try.prog 172 #[.slice A na ca, .slice A2 nb cb, .func (.func 173) #[.pointer (some ⟨q, 0, none⟩)] #[], .func (.func 174) #[.pointer (some ⟨q, 0, none⟩)] #[]] w fun e w' => ∃ (R' : Option Addr) (n' c' : Nat) (O : Option Addr) (cO : Nat), e = .returned (.slice O (na + 1) cO) ∧ Own w' w.heap.size O (na + 1) cO (carOuts (subStep (N0 + N1)) G us vs na) ∧ Mk w' 82 q B N0 N1 R' n' c' (carTo (subStep (N0 + N1)) G us vs na).1 ∧ MkTo q w (blockOf R) w' (blockOf R') := by
  have oldHA := hA.old
  have oldHB := hB.old
  have HST := Lib.hid (subSteps (N0 + N1))
  have HKK : Hid (∀ (k : Nat) (u v : Int) (ad bd : Addr) (R1 R' : Option Addr) (n1 c1 : Nat) (G1 : List Ga) (w1 w' : World), A = some ad → A2 = some bd → k < na → u = us.getD k 0 → v = vs.getD k 0 → HasI w1 A na us → HasI w1 A2 nb vs → Mk w1 82 q B N0 N1 R1 n1 c1 G1 → MkTo q w1 (blockOf R1) w' (blockOf R') → w'.cell? (ad.add k) = some (.int .i64 u) ∧ w'.cell? (bd.add k) = some (.int .i64 v)) := by
    rintro k u v ad bd R1 R' n1 c1 G1 w1 w' rfl rfl hk rfl rfl hA1 hB1 M1 hT
    obtain ⟨_, e1, _, g1⟩ := (hA1.mk hT M1).1.2 (by omega)
    obtain ⟨_, e2, _, g2⟩ := (hB1.mk hT M1).1.2 (by omega)
    injection e1 with e1
    injection e2 with e2
    subst e1
    subst e2
    exact ⟨g1 k hk, g2 k (by omega)⟩
  have HL := Lib.hid hM.len
  obtain ⟨ad, u, eA, hcu, HU⟩ := hA.1.elem (k := 0) ha0
  obtain ⟨bd, v, eB, hcv, HV⟩ := hB.1.elem (k := 0) (by omega)
  have HK0 : Hid (∀ (R' : Option Addr) (w' : World), MkTo q w (blockOf R) w' (blockOf R') → w'.cell? ad = some (.int .i64 u) ∧ w'.cell? bd = some (.int .i64 v)) := fun R' w' hT => by
    have := HKK.out 0 u v ad bd R R' n c G w w' eA eB ha0 HU.out HV.out hA hB hM hT
    simpa [Addr.add] using this
  subst eA
  subst eB
  have hcu0 : w.cell? ad = some (.int .i64 u) := by simpa [Addr.add] using hcu
  have hcv0 : w.cell? bd = some (.int .i64 v) := by simpa [Addr.add] using hcv
  have q0 : (0 : Int) < (na : Int) := by omega
  have q1 : (0 : Int) < (nb : Int) := by omega
  have hb0 : 0 < nb := by omega
  have HC := Lib.hid (subtractFirst_any u v q B N0 N1 R n c G w.drew hM.drew h0 h1 (by omega))
  have T0 : MkTo q w (blockOf R) w.drew (blockOf R) := (MkTo.refl q w _).drew
  clear hcu hcv
  go_enter Try.func172, Try.ntmps172
  go_wp2_with fail
  first | (go_region_held3 (fun w' => w'.cell? ad = some (.int .i64 u) ∧ w'.cell? bd = some (.int .i64 v)) (first | exact HK0.out _ _ T0 | exact HK0.out _ _ T1 | go_keep) (first | (refine (HC.out).mono ?_; rintro e w1 ⟨R1, n1, c1, G1, y1, z1, rfl, hs1, hn1, M1, t1⟩; have T1 := T0.trans t1))) | fail
  have key1 : Hid (carTo (subStep (N0 + N1)) G us vs 1 = (G1, [] ++ [y1], z1)) := by
    show _ = _
    rw [carTo_succ, ← HU.out, ← HV.out]
    have e0 : carTo (subStep (N0 + N1)) G us vs 0 = (G, [], -1) := rfl
    rw [e0]
    simp only
    rw [hs1.out]
  have hz1 : 0 ≤ z1 := by have := carTo_carry HST.out G us vs 0; rw [key1.out] at this; exact this
  have s1 : w.heap.size ≤ w1.heap.size := T1.size
  have O2 : Own (w1.alloc (.cells #[.int .i64 y1] 3)) w.heap.size (some ⟨w1.heap.size, 0, none⟩) 1 1 [y1] := ⟨rfl, World.ownsRow_lit w1 #[.int .i64 y1] 1 s1 (by decide) rfl⟩
  have b2 := belowNew w1 (.cells #[.int .i64 y1] 3)
  have M2 := M1.below b2
  have T2 := T1.next b2
  obtain ⟨w2, hw2⟩ : ∃ w2, w2 = w1.alloc (.cells #[.int .i64 y1] 3) := ⟨_, rfl⟩
  rw [← hw2] at O2 M2 T2
  clear HC HK0 hcu0 hcv0 T0 hs1 T1 M1 b2 t1 HU HV
  go_upto_region 3 with fail
  rw [← hw2]
  clear hw2 s1
  go_wp2_with fail
  go_loopw [9, 10, 11, 12] (fun yv cv ov iv wr => ∃ (k : Nat) (R' : Option Addr) (n' c' : Nat) (O : Option Addr) (cO : Nat) (Gk : List Ga) (ok : List Int) (ck yk : Int), 0 < k ∧ k ≤ na ∧ iv = .int .i64 k ∧ ov = .slice O k cO ∧ cv = .int .i64 ck ∧ yv = .int .i64 yk ∧ Hid (carTo (subStep (N0 + N1)) G us vs k = (Gk, ok, ck)) ∧ n' ≤ n + 6 * k ∧ Mk wr 82 q B N0 N1 R' n' c' Gk ∧ Own wr w.heap.size O k cO ok ∧ MkTo q w (blockOf R) wr (blockOf R')) (fun _ _ _ iv _ => na - (intOf iv).toNat)
  case atStart => exact ⟨1, R1, n1, c1, _, _, G1, _, z1, y1, by omega, by omega, rfl, rfl, rfl, rfl, key1, by omega, M2, O2, T2⟩
  case round =>
    obtain ⟨k, R3, n3, c3, O, cO, Gk, ok, ck, yk, hk0, hk, rfl, rfl, rfl, rfl, HS, hn3, M3, O3, T3⟩ := hrel
    have HA3 := hA.to T3 hM
    have HB3 := hB.to T3 hM
    by_cases hlt : k < na
    · obtain ⟨_, u, eA, hcu, HU⟩ := HA3.1.elem hlt
      obtain ⟨_, v, eB, hcv, HV⟩ := HB3.1.elem (k := k) (by omega)
      injection eA with eA
      injection eB with eB
      subst eA
      subst eB
      have r0 : (0 : Int) ≤ (k : Int) := by omega
      have r1 : (k : Int) < (na : Int) := by omega
      have r2 : (k : Int) < (nb : Int) := by omega
      have HKr : Hid (∀ (R' : Option Addr) (w' : World), MkTo q wr (blockOf R3) w' (blockOf R') → w'.cell? (ad.add k) = some (.int .i64 u) ∧ w'.cell? (bd.add k) = some (.int .i64 v)) := fun R' w' hT => HKK.out k u v ad bd R3 R' n3 c3 Gk wr w' rfl rfl hlt HU.out HV.out HA3 HB3 M3 hT
      have HC := Lib.hid (subtractNext_any u v ck k hk0 q B N0 N1 R3 n3 c3 Gk wr.drew M3.drew h0 h1 (by omega))
      have T0 : MkTo q wr (blockOf R3) wr.drew (blockOf R3) := (MkTo.refl q wr _).drew
      have HM3 := Lib.hid M3.drew
      have HK1 := Lib.hid hk0
      clear M3 hk0
      go_wp2_with fail
      first | (go_region_held3 (fun w' => w'.cell? (ad.add k) = some (.int .i64 u) ∧ w'.cell? (bd.add k) = some (.int .i64 v)) (first | exact HKr.out _ _ T0 | exact HKr.out _ _ T4 | go_keep) (first | (refine call_eq (args1 := #[.pointer (some ⟨q, 0, none⟩), .int .i64 u, .int .i64 v, .int .i64 ck]) (w1 := wr.drew) (by simp) rfl ?_; refine Calls.mono HC.out ?_; rintro e w4 ⟨R4, n4, c4, G4, y4, z4, rfl, hs4, hn4, M4, t4⟩; have T4 := T0.trans t4))) | fail
      have O4 := (show Own wr.drew w.heap.size O k cO ok from O3).mk t4 HM3.out
      have T5 := T3.trans T4
      have s4 : w.heap.size ≤ w4.heap.size := T5.size
      have key : Hid (carTo (subStep (N0 + N1)) G us vs (k + 1) = (G4, ok ++ [y4], z4)) := by
        show _ = _
        rw [carTo_succ, HS.out, ← HU.out, ← HV.out]
        simp only
        rw [hs4.out]
      clear HC HKr hcu hcv T0 hs4 T4 t4 HU HV HM3 T3 O3 HS HA3 HB3
      go_wp2_with (at_builtin; refine appendIntG w4 rfl (.tmp 46) (.tmp 48) rfl y4 w.heap.size (.slice O k cO) k ok rfl rfl O4.2 (by omega) s4 ?_; intro v6 w6 own6 b6 g6)
      rw [ownBlockOf] at g6
      obtain ⟨X6, cX6, rfl, O6⟩ := ownOf own6
      have M6 := M4.rowed O4 g6
      have T6 := T5.grown g6 O4.rowGe
      clear own6 b6 g6 T5 O4 M4
      go_wp2_with fail
      go_roundw
      case rel => exact ⟨k + 1, R4, n4, c4, X6, cX6, G4, _, z4, y4, by omega, by omega, by go_num, rfl, rfl, rfl, key, by omega, M6, O6, T6⟩
      case measure => simp [intOf]; omega
    · obtain rfl : k = na := by omega
      have sz1 : w.heap.size ≤ wr.heap.size := T3.size
      clear HA3 HB3
      go_wp2_with (at_builtin; refine appendIntG wr rfl (.tmp 50) (.tmp 52) rfl ck w.heap.size (.slice O k cO) k ok rfl rfl O3.2 (by omega) sz1 ?_; intro v2 w5 own2 b2 g2)
      rw [ownBlockOf] at g2
      obtain ⟨X2, cX2, rfl, O2'⟩ := ownOf own2
      have M5 := M3.rowed O3 g2
      have T5 := T3.grown g2 O3.rowGe
      go_ret
      refine ⟨R3, n3, c3, X2, cX2, rfl, ?_, ?_, T5⟩
      · rw [carOuts, HS.out]; exact O2'
      · rw [HS.out]; exact M5

set_option maxHeartbeats 1000000 in
theorem gmSub_any (q B N0 N1 : Nat) (R : Option Addr) (n c : Nat) (G : List Ga) (A : Option Addr) (na ca : Nat) (us : List Int) (A2 : Option Addr) (nb cb : Nat) (vs : List Int) (w : World) (hM : Mk w 82 q B N0 N1 R n c G) (h0 : N0 ≤ 1000) (h1 : N1 ≤ 1000) (hn : n ≤ 900000) (hA : HasI w A na us) (hB : HasI w A2 nb vs) (hab : na ≤ nb) (ha0 : 0 < na) (ha : na ≤ 1000) :
    Calls Try.prog 163 #[.pointer (some ⟨q, 0, none⟩), .slice A na ca, .slice A2 nb cb] w fun e w' => ∃ (R' : Option Addr) (n' c' : Nat) (O : Option Addr) (cO : Nat), e = .returned (.slice O (na + 1) cO) ∧ Own w' w.heap.size O (na + 1) cO (carOuts (subStep (N0 + N1)) G us vs na) ∧ Mk w' 82 q B N0 N1 R' n' c' (carTo (subStep (N0 + N1)) G us vs na).1 ∧ MkTo q w (blockOf R) w' (blockOf R') := by
  have HC := Lib.hid (carriedSub_any q B N0 N1 R n c G A na ca us A2 nb cb vs w hM h0 h1 hn hA hB hab ha0 ha)
  clear hM hA hB
  go_enter Try.func163, Try.ntmps163
  go_wp2_with fail
  refine (HC.out).mono ?_
  rintro e w2 ⟨R', n', c', O, cO, rfl, h2, h3, h4⟩
  go_wp2_with fail
  go_ret
  exact ⟨R', n', c', O, cO, rfl, h2, h3, h4⟩

end Go.Proofs.Yteiibneaihdmbaa
