/- The program compares and chooses: equal, choose, less, greatest. For lists of at most 1000 wires. -/
import Derived.Test.YtnelcbjegbchkaaGdI6
namespace Go.Proofs.Ytnelcbjegbchkaa
open Go Go.RowKit
set_option maxRecDepth 100000

set_option maxHeartbeats 1000000 in
theorem gmChoose_any (s : Int) (A : Option Addr) (na ca : Nat) (us : List Int) (A2 : Option Addr) (nb cb : Nat) (vs : List Int) (q B N0 N1 : Nat) (R : Option Addr) (n c : Nat) (G : List Ga) (w : World) (hM : Mk w 85 q B N0 N1 R n c G) (h0 : N0 ≤ 1000) (h1 : N1 ≤ 1000) (hn : n ≤ 900000) (hA : HasI w A na us) (hB : HasI w A2 nb vs) (hab : na ≤ nb) (ha : na ≤ 1000) :
    Calls Try.prog 128 #[.pointer (some ⟨q, 0, none⟩), .int .i64 s, .slice A na ca, .slice A2 nb cb] w fun e w' => ∃ (R' : Option Addr) (n' c' : Nat) (O : Option Addr) (G' : List Ga) (os : List Int), e = .returned (.slice O na na) ∧ Hid (eachTo (pickStep (N0 + N1) s us vs) G na = (G', os)) ∧ Own w' w.heap.size O na na os ∧ Mk w' 85 q B N0 N1 R' n' c' G' ∧ MkTo q w (blockOf R) w' (blockOf R') := by
  have y1 := Blk.new w #[.pointer (some ⟨q, 0, none⟩)] 112
  have b1 := belowNew w (.cells #[.pointer (some ⟨q, 0, none⟩)] 112)
  obtain ⟨w1, hw1⟩ : ∃ W, W = w.alloc (.cells #[.pointer (some ⟨q, 0, none⟩)] 112) := ⟨_, rfl⟩
  rw [← hw1] at y1 b1
  have s1 : w1.heap.size = w.heap.size + 1 := by rw [hw1]; simp
  have y2 := Blk.newAt (k := w.heap.size + 1) w1 #[.int .i64 s] 3 s1.symm
  have b2 := belowNew w1 (.cells #[.int .i64 s] 3)
  obtain ⟨w2, hw2⟩ : ∃ W, W = w1.alloc (.cells #[.int .i64 s] 3) := ⟨_, rfl⟩
  rw [← hw2] at y2 b2
  have x2 := y1.below' b2
  have B2 := b1.trans (b2.mono b1.size)
  have sz := B2.size
  have HC := Lib.hid (eachPick_any A na ca us A2 nb cb vs w.heap.size (w.heap.size + 1) s q B N0 N1 R n c G w2 (hM.below B2) h0 h1 hn (hA.below B2) (hB.below B2) hab ha x2 y2)
  have HB2 := Lib.hid B2
  clear y1 b1 y2 b2 x2 B2 s1
  go_enter Try.func128, Try.ntmps128
  go_wp2_with fail
  rw [← hw1, ← hw2]
  clear hw1 hw2
  refine call_eq (args1 := #[.slice A na ca, .slice A2 nb cb, .func (.func 188) #[] #[.pointer (some ⟨w.heap.size, 0, none⟩), .pointer (some ⟨w.heap.size + 1, 0, none⟩)]]) (w1 := w2) (by simp) rfl (Calls.mono HC.out ?_)
  rintro e w3 ⟨R', n', c', O, G', os, rfl, h2, h3, h4, h5⟩
  go_wp2_with fail
  go_ret
  exact ⟨R', n', c', O, G', os, rfl, h2, h3.mono sz, h4, MkTo.after HB2.out h5⟩

set_option maxRecDepth 100000 in
set_option maxHeartbeats 2000000 in
theorem gmAll_any (f : Int) (A : Option Addr) (na ca : Nat) (es : List Int) (q B N0 N1 : Nat) (R : Option Addr) (n c : Nat) (G : List Ga) (w : World) (hM : Mk w 85 q B N0 N1 R n c G) (h0 : N0 ≤ 1000) (h1 : N1 ≤ 1000) (hn : n ≤ 900000) (hA : HasI w A na es) (ha : na ≤ 1000) :
    Calls Try.prog 187 #[.pointer (some ⟨q, 0, none⟩), .int .i64 f, .slice A na ca] w fun e w' => ∃ (R' : Option Addr) (n' c' : Nat) (G' : List Ga) (z : Int), e = .returned (.int .i64 z) ∧ Hid (allTo (N0 + N1) G (f :: es) na = (G', z)) ∧ Mk w' 85 q B N0 N1 R' n' c' G' ∧ MkTo q w (blockOf R) w' (blockOf R') := by
  have T0 := MkTo.refl q w (blockOf R)
  go_enter Try.func187, Try.ntmps187
  go_wp2_with fail
  go_loopw [7, 13] (fun ov iv wr => ∃ (k : Nat) (R' : Option Addr) (n' c' : Nat) (Gk : List Ga) (z : Int), k ≤ na ∧ iv = .int .i64 k ∧ ov = .int .i64 z ∧ Hid (allTo (N0 + N1) G (f :: es) k = (Gk, z)) ∧ n' ≤ n + k ∧ Mk wr 85 q B N0 N1 R' n' c' Gk ∧ MkTo q w (blockOf R) wr (blockOf R')) (fun _ iv _ => na - (intOf iv).toNat)
  case atStart => exact ⟨0, R, n, c, G, f, Nat.zero_le _, rfl, rfl, rfl, by omega, hM, T0⟩
  case round =>
    obtain ⟨k, R1, n1, c1, Gk, z, hk, rfl, rfl, HS, hn1, M1, T1⟩ := hrel
    have HA1 := hA.to T1 hM
    by_cases hlt : k < na
    · obtain ⟨ad, u, rfl, hcu, HU⟩ := HA1.1.elem hlt
      have q0 : (0 : Int) ≤ (k : Int) := by omega
      have q1 : (k : Int) < (na : Int) := by omega
      have HG1 := Lib.hid M1.len
      clear HA1
      go_wp2_with fail
      refine (gmAnd_any z u q B N0 N1 _ _ _ _ _ M1 h0 h1 (by omega)).mono ?_
      rintro e w2 ⟨R2, c2, z2, rfl, hz2, M2, t2⟩
      have T2 := T1.trans t2
      clear t2 T1 M1 
      have key : Hid (allTo (N0 + N1) G (f :: es) (k + 1) = (Gk ++ [(1, z, u)], z2)) := by
        show _ = _
        rw [allTo_succ, HS.out]
        have e1 : (f :: es).getD (k + 1) 0 = u := by rw [HU.out]; simp [List.getD]
        simp only
        rw [e1, HG1.out, hz2.out]
      clear HS
      go_wp2_with fail
      go_roundw
      case rel => exact ⟨k + 1, R2, n1 + 1, c2, _, z2, by omega, by go_num, rfl, key, by omega, M2, T2⟩
      case measure => simp [intOf]; omega
    · obtain rfl : k = na := by omega
      clear HA1
      go_wp2_with fail
      go_ret
      exact ⟨R1, n1, c1, Gk, z, rfl, HS, M1, T1⟩

set_option maxRecDepth 100000 in
set_option maxHeartbeats 2000000 in
theorem gmEqual_any (q B N0 N1 : Nat) (R : Option Addr) (n c : Nat) (G : List Ga) (A : Option Addr) (na ca : Nat) (us : List Int) (A2 : Option Addr) (nb cb : Nat) (vs : List Int) (w : World) (hM : Mk w 85 q B N0 N1 R n c G) (h0 : N0 ≤ 1000) (h1 : N1 ≤ 1000) (hn : n ≤ 900000) (hA : HasI w A na us) (hB : HasI w A2 nb vs) (hab : na ≤ nb) (ha0 : 0 < na) (ha : na ≤ 1000) (hn2 : n + 3 * na ≤ 900000) :
    Calls Try.prog 125 #[.pointer (some ⟨q, 0, none⟩), .slice A na ca, .slice A2 nb cb] w fun e w' => ∃ (R' : Option Addr) (n' c' : Nat) (O : Option Addr) (cO : Nat) (G' : List Ga) (z : Int), e = .returned (.slice O 1 cO) ∧ Hid (eqlTo (N0 + N1) G us vs na = (G', z)) ∧ Own w' w.heap.size O 1 cO [z] ∧ Mk w' 85 q B N0 N1 R' n' c' G' ∧ MkTo q w (blockOf R) w' (blockOf R') := by
  have HC := Lib.hid (eachSame_any A na ca us A2 nb cb vs q B N0 N1 R n c G w hM h0 h1 hn hA hB hab ha)
  have HL := Lib.hid hM.len
  clear hM hA hB
  go_enter Try.func125, Try.ntmps125
  go_wp2_with fail
  refine call_eq (args1 := #[.slice A na ca, .slice A2 nb cb, .func (.func 186) #[.pointer (some ⟨q, 0, none⟩)] #[]]) (w1 := w) (by simp) rfl (Calls.mono HC.out ?_)
  rintro e w1 ⟨R1, n1, c1, O, G1, os, rfl, h2, o1, M1, T1⟩
  clear HC
  obtain ⟨g, rfl⟩ := o1.spot ha0
  have c0 := o1.cellR (k := 0) ha0
  obtain ⟨e0, he0⟩ : ∃ e0, os.getD 0 0 = e0 := ⟨_, rfl⟩
  rw [he0] at c0
  have hos : os = e0 :: os.drop 1 := by
    have hl := o1.1
    cases os with
    | nil => simp at hl; omega
    | cons x xs => simp at he0; simp [he0]
  have HOS := Lib.hid hos
  have hgl : n1 ≤ n + 2 * na := by
    have h5 := M1.len
    have h6 := eachTo_gates (sameStep_le (N0 + N1) us vs) G na
    have h7 := HL.out
    rw [h2.out] at h6
    simp only at h6
    omega
  have lt1 : w.heap.size ≤ w1.heap.size := T1.size
  have HK : Hid (∀ (R' : Option Addr) (w' : World), MkTo q w1 (blockOf R1) w' (blockOf R') → w'.cell? ⟨g, 0, none⟩ = some (.int .i64 e0)) := fun R' w' hT => by
    have := (o1.mk hT M1).cellR (k := 0) ha0
    rw [he0] at this
    exact this
  have T0 : MkTo q w1 (blockOf R1) w1.drew (blockOf R1) := (MkTo.refl q w1 _).drew
  have i1 : (1 : Int) ≤ (na : Int) := by omega
  have M1d := M1.drew
  rcases (by omega : na = 1 ∨ 1 < na) with rfl | hna
  · have hb : HasI w1.drew (some ⟨g, 0, none⟩) 0 [] := ⟨⟨rfl, fun h => absurd h (by omega)⟩, fun _ h => absurd h (by omega)⟩
    have hd : os.drop 1 = [] := by have := o1.1; cases os with | nil => rfl | cons x xs => simp at this; simp [this]
    have HA := Lib.hid (gmAll_any e0 (some ⟨g, 0, none⟩) 0 0 [] q B N0 N1 R1 n1 c1 G1 w1.drew M1d h0 h1 (by omega) hb (by omega))
    have HD := Lib.hid hd
    clear hb he0 hos hd
    go_wp2_with fail
    first | (go_region_held3 (fun w' => w'.cell? ⟨g, 0, none⟩ = some (.int .i64 e0)) (first | exact HK.out _ _ T0 | exact HK.out _ _ T2 | exact HK3 | go_keep) (first | (refine call_eq (args1 := #[.pointer (some ⟨q, 0, none⟩), .int .i64 e0, .slice (some ⟨g, 0, none⟩) 0 0]) (w1 := w1.drew) (by simp <;> omega) rfl ?_; refine Calls.mono HA.out ?_; rintro e w2 ⟨R2, n2, c2, G2, z2, rfl, hs2, M2, t2⟩; have T2 := T0.trans t2; have HK3 : (w2.alloc (.cells #[.int .i64 z2] 3)).cell? ⟨g, 0, none⟩ = some (.int .i64 e0) := cellKept (belowNew w2 _) (by have := ((o1.mk T2 M1).born ⟨g, 0, none⟩ rfl).2; exact this) (HK.out _ _ T2)))) | fail
    have b3 := belowNew w2 (.cells #[.int .i64 z2] 3)
    have T3 := (T1.trans T2)
    have sz2 : w.heap.size ≤ w2.heap.size := T3.size
    have o3 : Own (w2.alloc (.cells #[.int .i64 z2] 3)) w.heap.size (some ⟨w2.heap.size, 0, none⟩) 1 1 [z2] := ⟨rfl, World.ownsRow_lit w2 #[.int .i64 z2] 1 sz2 (by decide) rfl⟩
    have M3 := M2.below b3
    have T4 := T3.next b3
    go_wp2_with fail
    go_ret
    refine ⟨R2, n2, c2, some ⟨w2.heap.size, 0, none⟩, 1, G2, z2, rfl, ?_, o3, M3, T4⟩
    show _ = _
    rw [eqlTo, h2.out, ← hs2.out]
    show allTo _ _ os 0 = _
    rw [HOS.out, HD.out]
  · have hb : HasI w1.drew (some ⟨g, 1, none⟩) (na - 1) (os.drop 1) := by
      have := (show HasI w1.drew (some ⟨g, 0, none⟩) na os from o1.hasI).drop (k := 1) hna
      rwa [show ((⟨g, 0, none⟩ : Addr).add 1) = ⟨g, 1, none⟩ from addNone' g 1] at this
    have i2 : (1 : Int) < (na : Int) := by omega
    have hne : ¬ na = 1 := by omega
    have HA := Lib.hid (gmAll_any e0 (some ⟨g, 1, none⟩) (na - 1) (na - 1) (os.drop 1) q B N0 N1 R1 n1 c1 G1 w1.drew M1d h0 h1 (by omega) hb (by omega))
    clear hb he0 hos
    go_wp2_with fail
    first | (go_region_held3 (fun w' => w'.cell? ⟨g, 0, none⟩ = some (.int .i64 e0)) (first | exact HK.out _ _ T0 | exact HK.out _ _ T2 | exact HK3 | go_keep) (first | (refine call_eq (args1 := #[.pointer (some ⟨q, 0, none⟩), .int .i64 e0, .slice (some ⟨g, 1, none⟩) (na - 1) (na - 1)]) (w1 := w1.drew) (by simp <;> omega) rfl ?_; refine Calls.mono HA.out ?_; rintro e w2 ⟨R2, n2, c2, G2, z2, rfl, hs2, M2, t2⟩; have T2 := T0.trans t2; have HK3 : (w2.alloc (.cells #[.int .i64 z2] 3)).cell? ⟨g, 0, none⟩ = some (.int .i64 e0) := cellKept (belowNew w2 _) (by have := ((o1.mk T2 M1).born ⟨g, 0, none⟩ rfl).2; exact this) (HK.out _ _ T2)))) | fail
    have b3 := belowNew w2 (.cells #[.int .i64 z2] 3)
    have T3 := (T1.trans T2)
    have sz2 : w.heap.size ≤ w2.heap.size := T3.size
    have o3 : Own (w2.alloc (.cells #[.int .i64 z2] 3)) w.heap.size (some ⟨w2.heap.size, 0, none⟩) 1 1 [z2] := ⟨rfl, World.ownsRow_lit w2 #[.int .i64 z2] 1 sz2 (by decide) rfl⟩
    have M3 := M2.below b3
    have T4 := T3.next b3
    go_wp2_with fail
    go_ret
    refine ⟨R2, n2, c2, some ⟨w2.heap.size, 0, none⟩, 1, G2, z2, rfl, ?_, o3, M3, T4⟩
    show _ = _
    rw [eqlTo, h2.out, ← hs2.out]
    rw [← HOS.out]

set_option maxHeartbeats 1000000 in
theorem gmLess_any (q B N0 N1 : Nat) (R : Option Addr) (n c : Nat) (G : List Ga) (A : Option Addr) (na ca : Nat) (us : List Int) (A2 : Option Addr) (nb cb : Nat) (vs : List Int) (w : World) (hM : Mk w 85 q B N0 N1 R n c G) (h0 : N0 ≤ 1000) (h1 : N1 ≤ 1000) (hn : n ≤ 900000) (hA : HasI w A na us) (hB : HasI w A2 nb vs) (hab : na ≤ nb) (ha0 : 0 < na) (ha : na ≤ 1000) :
    Calls Try.prog 124 #[.pointer (some ⟨q, 0, none⟩), .slice A na ca, .slice A2 nb cb] w fun e w' => ∃ (R' : Option Addr) (n' c' g cO : Nat), e = .returned (.slice (some ⟨g, na, none⟩) 1 (cO - na)) ∧ Own w' w.heap.size (some ⟨g, 0, none⟩) (na + 1) cO (carOuts (subStep (N0 + N1)) G us vs na) ∧ Mk w' 85 q B N0 N1 R' n' c' (carTo (subStep (N0 + N1)) G us vs na).1 ∧ MkTo q w (blockOf R) w' (blockOf R') := by
  have HC := Lib.hid (gmSub_any q B N0 N1 R n c G A na ca us A2 nb cb vs w hM h0 h1 hn hA hB hab ha0 ha)
  clear hM hA hB
  go_enter Try.func124, Try.ntmps124
  go_wp2_with fail
  refine (HC.out).mono ?_
  rintro e w2 ⟨R', n', c', O, cO, rfl, h2, h3, h4⟩
  obtain ⟨g, rfl⟩ := h2.spot (Nat.succ_pos na)
  have hc := h2.capLe
  have hc2 : na < cO := by omega
  have hne : ¬ na = cO := by omega
  have i0 : (na : Int) ≤ (na : Int) + 1 := by omega
  have i2 : (na : Int) ≤ (cO : Int) := by omega
  go_wp2_with fail
  go_ret
  exact ⟨R', n', c', g, cO, by simp, h2, h3, h4⟩

set_option maxHeartbeats 2000000 in
theorem gmGreatest_any (q B N0 N1 : Nat) (R : Option Addr) (n c : Nat) (G : List Ga) (A : Option Addr) (na ca : Nat) (us : List Int) (A2 : Option Addr) (cb : Nat) (vs : List Int) (w : World) (hM : Mk w 85 q B N0 N1 R n c G) (h0 : N0 ≤ 1000) (h1 : N1 ≤ 1000) (hn : n ≤ 800000) (hA : HasI w A na us) (hB : HasI w A2 na vs) (ha0 : 0 < na) (ha : na ≤ 1000) :
    Calls Try.prog 129 #[.pointer (some ⟨q, 0, none⟩), .slice A na ca, .slice A2 na cb] w fun e w' => ∃ (R' : Option Addr) (n' c' : Nat) (O : Option Addr) (G' : List Ga) (os : List Int), e = .returned (.slice O na na) ∧ Hid ((let s := carTo (subStep (N0 + N1)) G us vs na; eachTo (pickStep (N0 + N1) s.2.2 vs us) s.1 na) = (G', os)) ∧ Own w' w.heap.size O na na os ∧ Mk w' 85 q B N0 N1 R' n' c' G' ∧ MkTo q w (blockOf R) w' (blockOf R') := by
  have HC := Lib.hid (gmLess_any q B N0 N1 R n c G A na ca us A2 na cb vs w hM h0 h1 (by omega) hA hB (Nat.le_refl _) ha0 ha)
  have HL := Lib.hid hM.len
  go_enter Try.func129, Try.ntmps129
  go_wp2_with fail
  refine (HC.out).mono ?_
  rintro e w2 ⟨R2, n2, c2, g, cO, rfl, o2, M2, T2⟩
  have cc := o2.cellR (k := na) (Nat.lt_succ_self na)
  have e1 : (carOuts (subStep (N0 + N1)) G us vs na).getD na 0 = (carTo (subStep (N0 + N1)) G us vs na).2.2 := by
    have := carTo_outs (subStep (N0 + N1)) G us vs na
    simp [carOuts, List.getD, this]
  rw [e1] at cc
  obtain ⟨sb, hsb⟩ : ∃ sb, (carTo (subStep (N0 + N1)) G us vs na).2.2 = sb := ⟨_, rfl⟩
  rw [hsb] at cc
  have HSB := Lib.hid hsb
  have hn2 : n2 ≤ n + 6 * na := by have h5 := M2.len; have h6 := carTo_gates (subSteps (N0 + N1)) G us vs na; have := HL.out; omega
  have hA2 := hA.to T2 hM
  have hB2 := hB.to T2 hM
  have HD := Lib.hid (gmChoose_any sb A2 na cb vs A na ca us q B N0 N1 R2 n2 c2 _ w2 M2 h0 h1 (by omega) hB2 hA2 (Nat.le_refl _) ha)
  have sz := T2.size
  clear HC hM e1 hsb hA hB hA2 hB2 M2 o2
  go_wp2_with fail
  refine (HD.out).mono ?_
  rintro e w3 ⟨R', n', c', O, G', os, rfl, h2, h3, h4, h5⟩
  go_wp2_with fail
  go_ret
  refine ⟨R', n', c', O, G', os, rfl, ?_, h3.mono sz, h4, T2.trans h5⟩
  show _ = _
  rw [HSB.out]
  exact h2.out

end Go.Proofs.Ytnelcbjegbchkaa
