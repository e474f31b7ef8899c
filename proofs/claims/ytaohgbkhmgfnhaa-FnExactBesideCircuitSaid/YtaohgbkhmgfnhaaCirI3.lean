/- The program's test of a circuit: IsCircuit. For every circuit of at most 1048576 gates and outs. -/
import Derived.Test.YtaohgbkhmgfnhaaCirI2
import Derived.Test.YtaohgbkhmgfnhaaCirG3
namespace Go.Proofs.Ytaohgbkhmgfnhaa
open Go.RowKit
set_option maxRecDepth 100000

theorem allIn_no {lo hi : Int} {zs : List Int} {k : Nat} (hk : k < zs.length) (h : ¬ (lo ≤ zs.getD k 0 ∧ zs.getD k 0 ≤ hi)) : allIn lo hi zs = false := by
  cases e : allIn lo hi zs with
  | false => rfl
  | true => exact absurd (allIn_yes e k hk) h

/-- The closure that IsCircuit hands to the library: is a number no wire of the circuit? -/
theorem isCircuit1_any (q : Nat) (G : Option Addr) (n c : Nat) (O : Option Addr) (m d : Nat) (C : Ci) (z : Int) (b : Bool) (w : World) (hb : (decide (0 ≤ z) && decide (z ≤ C.wires - 1)) = b)
    (h : HasC w (.agg #[.int .i64 C.in0, .int .i64 C.in1, .slice G n c, .slice O m d]) C) (hq : Blk w q #[.int .i64 C.in0, .int .i64 C.in1, .slice G n c, .slice O m d] 30)
    (h0 : 0 ≤ C.in0) (h1 : C.in0 ≤ 1000) (h2 : 0 ≤ C.in1) (h3 : C.in1 ≤ 1000) (hl : C.gs.length ≤ 1048576) :
    Calls Try.prog 46 #[.int .i64 z, .pointer (some ⟨q, 0, none⟩)] w fun e w' => e = .returned (.bool (!b)) ∧ Below w.heap.size w w' := by
  obtain ⟨k0, k1, k2, k3⟩ := hq.four
  have HW := Lib.hid (fun w h => wiresIn_any (.agg #[.int .i64 C.in0, .int .i64 C.in1, .slice G n c, .slice O m d]) C w h h0 h1 h2 h3 hl)
  have HB : Hid (∀ w : World, Calls Try.prog 43 #[.int .i64 z, .int .i64 C.wires] w fun e w' => e = .returned (.bool b) ∧ w = w') := fun w => isBelow_any z C.wires b w (by rw [← hb]; exact wireOk_lt C.wires z)
  have HH := Lib.hid h
  clear h hb
  go_enter Try.func46, Try.ntmps46
  go_wp2_with fail
  refine (HW.out _ HH.out).mono ?_
  rintro e w2 ⟨rfl, b2⟩
  go_wp2_with fail
  refine (HB.out _).mono ?_
  rintro e w3 ⟨rfl, rfl⟩
  go_wp2_with fail
  go_ret
  exact ⟨rfl, b2⟩

set_option maxHeartbeats 2000000 in
/-- The library's search (slices.IndexFunc) with that closure: the first out that is no wire. -/
theorem isCircuitIdx_any (q : Nat) (G : Option Addr) (n c : Nat) (O : Option Addr) (m d : Nat) (C : Ci) (b : Bool) (w : World) (hb : allIn 0 (C.wires - 1) C.os = b)
    (h : HasC w (.agg #[.int .i64 C.in0, .int .i64 C.in1, .slice G n c, .slice O m d]) C) (hO : Has w O m C.os) (hm : m ≤ 1048576) (hq : Blk w q #[.int .i64 C.in0, .int .i64 C.in1, .slice G n c, .slice O m d] 30)
    (h0 : 0 ≤ C.in0) (h1 : C.in0 ≤ 1000) (h2 : 0 ≤ C.in1) (h3 : C.in1 ≤ 1000) (hl : C.gs.length ≤ 1048576) :
    Calls Try.prog 87 #[.slice O m d, .func (.func 46) #[] #[.pointer (some ⟨q, 0, none⟩)]] w fun e w' => ∃ j : Int, e = .returned (.int .i64 j) ∧ decide (0 ≤ j) = (!b) ∧ Below w.heap.size w w' := by
  have HL := Lib.hid hO.1
  have HB := Lib.hid hb
  clear hb
  go_enter Try.func87, Try.ntmps87
  go_wp2_with fail
  go_loopw [8] (fun i wr => ∃ k : Nat, k ≤ m ∧ i = .int .i64 k ∧ Hid (∀ j, j < k → 0 ≤ C.os.getD j 0 ∧ C.os.getD j 0 ≤ C.wires - 1) ∧ Below w.heap.size w wr) (fun i _ => m - (intOf i).toNat)
  case atStart => exact ⟨0, Nat.zero_le _, rfl, fun j hj => absurd hj (by omega), Below.refl _ _⟩
  case round =>
    obtain ⟨k, hk, rfl, HN, bk⟩ := hrel
    by_cases hlt : k < m
    · obtain ⟨ad, z, rfl, hc, HZ⟩ := (hO.below bk).elem hlt
      have hk1 := h.below bk
      have hqk := hq.below' bk
      have q0 : (0 : Int) ≤ (k : Int) := by omega
      have q1 : (k : Int) < (m : Int) := by omega
      obtain ⟨y, hy⟩ : ∃ y, (decide (0 ≤ z) && decide (z ≤ C.wires - 1)) = y := ⟨_, rfl⟩
      have HC := Lib.hid (isCircuit1_any q G n c (some ad) m d C z y wr hy hk1 hqk h0 h1 h2 h3 hl)
      have HY := Lib.hid hy
      have BK := Lib.hid bk
      clear hy hk1 hqk bk
      cases y with
      | false =>
        have e : b = false := by
          rw [← HB.out]
          refine allIn_no (k := k) (by rw [HL.out]; exact hlt) ?_
          rw [← HZ.out]
          rintro ⟨a1, a2⟩
          have := HY.out
          rw [decide_eq_true a1, decide_eq_true a2] at this
          cases this
        subst e
        go_wp2_with fail
        refine (HC.out).mono ?_
        rintro e w2 ⟨rfl, b2⟩
        go_wp2_with fail
        go_ret
        exact ⟨(k : Int), rfl, by simp, BK.out.trans (b2.mono BK.out.size)⟩
      | true =>
        have HN2 : Hid (∀ j, j < k + 1 → 0 ≤ C.os.getD j 0 ∧ C.os.getD j 0 ≤ C.wires - 1) := fun j hj => by
          by_cases e : j = k
          · rw [e, ← HZ.out]
            have := HY.out
            simp at this
            omega
          · exact HN.out j (by omega)
        go_wp2_with fail
        refine (HC.out).mono ?_
        rintro e w2 ⟨rfl, b2⟩
        go_wp2_with fail
        go_roundw
        case rel => exact ⟨k + 1, by omega, by go_num, HN2, BK.out.trans (b2.mono BK.out.size)⟩
        case measure => simp [intOf]; omega
    · have e : b = true := by rw [← HB.out]; exact allIn_mk (fun j hj => HN.out j (by have := HL.out; omega))
      subst e
      go_wp2_with fail
      go_ret
      exact ⟨-1, rfl, rfl, bk⟩

set_option maxHeartbeats 1000000 in
theorem isCircuitAny_any (q : Nat) (G : Option Addr) (n c : Nat) (O : Option Addr) (m d : Nat) (C : Ci) (b : Bool) (w : World) (hb : allIn 0 (C.wires - 1) C.os = b)
    (h : HasC w (.agg #[.int .i64 C.in0, .int .i64 C.in1, .slice G n c, .slice O m d]) C) (hO : Has w O m C.os) (hm : m ≤ 1048576) (hq : Blk w q #[.int .i64 C.in0, .int .i64 C.in1, .slice G n c, .slice O m d] 30)
    (h0 : 0 ≤ C.in0) (h1 : C.in0 ≤ 1000) (h2 : 0 ≤ C.in1) (h3 : C.in1 ≤ 1000) (hl : C.gs.length ≤ 1048576) :
    Calls Try.prog 45 #[.slice O m d, .func (.func 46) #[] #[.pointer (some ⟨q, 0, none⟩)]] w fun e w' => e = .returned (.bool (!b)) ∧ Below w.heap.size w w' := by
  have HI := Lib.hid (isCircuitIdx_any q G n c O m d C b w hb h hO hm hq h0 h1 h2 h3 hl)
  clear hb h hO hq
  go_enter Try.func45, Try.ntmps45
  go_wp2_with fail
  refine (HI.out).mono ?_
  rintro e w2 ⟨j, rfl, hj, b2⟩
  have HJ := Lib.hid hj
  clear hj
  go_wp2_with fail
  go_ret
  exact ⟨by rw [← HJ.out]; rfl, b2⟩

set_option maxHeartbeats 4000000 in
/-- IsCircuit: the program's. -/
theorem isCircuit_any (v : Value) (C : Ci) (b : Bool) (w : World) (h : HasC w v C) (hf : C.gs.length ≤ 1048576 ∧ C.os.length ≤ 1048576) (hb : gd C = b) :
    Calls Try.prog 15 #[v] w fun e w' => e = .returned (.bool b) ∧ Below w.heap.size w w' := by
  obtain ⟨hn, hm⟩ := hf
  obtain ⟨G, n, c, O, m, d, rfl, hG, hO, _, _, _, _⟩ := id h
  have hgl := hG.1
  have hol := hO.1
  have HB := Lib.hid hb
  clear hb
  have B1 := belowNew w (.cells #[.int .i64 C.in0, .int .i64 C.in1, .slice G n c, .slice O m d] 30)
  have p1 := Blk.new w #[.int .i64 C.in0, .int .i64 C.in1, .slice G n c, .slice O m d] 30
  obtain ⟨W1, hW1⟩ : ∃ W, W = w.alloc (.cells #[.int .i64 C.in0, .int .i64 C.in1, .slice G n c, .slice O m d] 30) := ⟨_, rfl⟩
  rw [← hW1] at B1 p1
  have h1 := h.below B1
  have hG1 := hG.below B1
  have hO1 := hO.below B1
  obtain ⟨k0, k1, k2, k3⟩ := p1.four
  have HL : Hid (∀ (q : Int) (w : World), Calls Try.prog 43 #[.int .i64 q, .int .i64 21] w fun e w' => e = .returned (.bool (decide (0 ≤ q) && decide (q < 21))) ∧ w = w') := fun q w => isBelow_any q 21 _ w rfl
  have HP := Lib.hid p1
  have HBel := Lib.hid B1
  have HG := Lib.hid hgl
  have HO := Lib.hid hol
  clear h hG hO hgl hol p1 B1
  cases ea : (decide (0 ≤ C.in0) && decide (C.in0 < 21)) with
  | false =>
    have e : b = false := by
      rw [← HB.out, gd, decide_eq_false (by intro hh; rw [decide_eq_true hh.1, decide_eq_true (show C.in0 < 21 by omega)] at ea; cases ea)]; rfl
    subst e
    go_enter Try.func15, Try.ntmps15
    go_wp2_with fail
    rw [← hW1]
    refine (HL.out _ _).mono ?_
    rintro e w2 ⟨rfl, rfl⟩
    rw [ea]
    go_wp2_with fail
    go_ret
    exact ⟨rfl, belowNew _ _⟩
  | true =>
  cases eb : (decide (0 ≤ C.in1) && decide (C.in1 < 21)) with
  | false =>
    have e : b = false := by
      rw [← HB.out, gd, decide_eq_false (by intro hh; rw [decide_eq_true hh.2.2.1, decide_eq_true (show C.in1 < 21 by omega)] at eb; cases eb)]; rfl
    subst e
    go_enter Try.func15, Try.ntmps15
    go_wp2_with fail
    rw [← hW1]
    refine (HL.out _ _).mono ?_
    rintro e w2 ⟨rfl, rfl⟩
    rw [ea]
    go_wp2_with fail
    refine (HL.out _ _).mono ?_
    rintro e w2 ⟨rfl, rfl⟩
    rw [eb]
    go_wp2_with fail
    go_ret
    exact ⟨rfl, belowNew _ _⟩
  | true =>
  have ea' : 0 ≤ C.in0 ∧ C.in0 < 21 := by simpa using ea
  have eb' : 0 ≤ C.in1 ∧ C.in1 < 21 := by simpa using eb
  have EA := Lib.hid ea
  have EB := Lib.hid eb
  clear ea eb
  obtain ⟨i0, i1⟩ := ea'
  obtain ⟨j0, j1⟩ := eb'
  by_cases c300 : 300 < n
  · have e : b = false := by rw [← HB.out, gd, decide_eq_false (by intro hh; have := HG.out; omega)]; rfl
    subst e
    go_enter Try.func15, Try.ntmps15
    go_wp2_with fail
    rw [← hW1]
    refine (HL.out _ _).mono ?_
    rintro e w2 ⟨rfl, rfl⟩
    rw [EA.out]
    go_wp2_with fail
    refine (HL.out _ _).mono ?_
    rintro e w2 ⟨rfl, rfl⟩
    rw [EB.out]
    go_wp2_with fail
    go_ret
    exact ⟨rfl, belowNew _ _⟩
  · by_cases c40 : 40 < m
    · have e : b = false := by rw [← HB.out, gd, decide_eq_false (by intro hh; have := HO.out; omega)]; rfl
      subst e
      go_enter Try.func15, Try.ntmps15
      go_wp2_with fail
      rw [← hW1]
      refine (HL.out _ _).mono ?_
      rintro e w2 ⟨rfl, rfl⟩
      rw [EA.out]
      go_wp2_with fail
      refine (HL.out _ _).mono ?_
      rintro e w2 ⟨rfl, rfl⟩
      rw [EB.out]
      go_wp2_with fail
      go_ret
      exact ⟨rfl, belowNew _ _⟩
    · have hb2 : (gatesTo C n && allIn 0 (C.wires - 1) C.os) = b := by
        rw [← HB.out, gd, decide_eq_true ⟨i0, by omega, j0, by omega, by have := HG.out; omega, by have := HO.out; omega⟩, Bool.true_and, HG.out]
      have HB2 := Lib.hid hb2
      clear hb2 HB
      have hwi : IntKind.i64.wrap (C.in0 + C.in1) = C.in0 + C.in1 := wrapIn (by omega) (by omega)
      have HWI := Lib.hid hwi
      clear hwi
      go_enter Try.func15, Try.ntmps15
      go_wp2_with fail
      rw [← hW1]
      clear hW1
      refine (HL.out _ _).mono ?_
      rintro e w2 ⟨rfl, rfl⟩
      rw [EA.out]
      go_wp2_with fail
      refine (HL.out _ _).mono ?_
      rintro e w2 ⟨rfl, rfl⟩
      rw [EB.out]
      go_wp2_with fail
      clear k0 k1 k2 k3
      go_loopw [30] (fun iv wr => ∃ k : Nat, k ≤ n ∧ iv = .int .i64 k ∧ Hid (gatesTo C k = true) ∧ Below W1.heap.size W1 wr) (fun iv _ => n - (intOf iv).toNat)
      case atStart => exact ⟨0, Nat.zero_le _, rfl, rfl, Below.refl _ _⟩
      case round =>
        obtain ⟨k, hk, rfl, HT, bk⟩ := hrel
        have pk := HP.out.below' bk
        by_cases hlt : k < n
        · obtain ⟨ad, x, y, z, rfl, hx, hy, hz, HE⟩ := (hG1.below bk).elem hlt
          have q0 : (0 : Int) ≤ (k : Int) := by omega
          have q1 : (k : Int) < (n : Int) := by omega
          have b2 := belowNew wr (.cells #[.int .i64 x, .int .i64 y, .int .i64 z] 51)
          have y2 := Blk.new wr #[.int .i64 x, .int .i64 y, .int .i64 z] 51
          have p2 := pk.below' b2
          obtain ⟨w2, hw2⟩ : ∃ W, W = wr.alloc (.cells #[.int .i64 x, .int .i64 y, .int .i64 z] 51) := ⟨_, rfl⟩
          rw [← hw2] at b2 y2 p2
          obtain ⟨k0, k1, k2, k3⟩ := p2.four
          have g0c := y2.cell (i := 0) rfl
          have g1c := y2.cell (i := 1) rfl
          have g2c := y2.cell (i := 2) rfl
          have hwi := HWI.out
          have hwr : IntKind.i64.wrap (C.in0 + C.in1 + (k : Int)) = C.in0 + C.in1 + (k : Int) := wrapIn (by omega) (by omega)
          obtain ⟨gb, hgb⟩ : ∃ gb, gateOk (C.in0 + C.in1 + (k : Int)) (x, y, z) = gb := ⟨_, rfl⟩
          have HGA := Lib.hid (fun w => isGate_any x y z (C.in0 + C.in1 + (k : Int)) gb w hgb)
          have hgb2 : gateOk (C.ins + (k : Int)) (C.gs.getD k g0) = gb := by rw [HE.out]; exact hgb
          have HGB := Lib.hid hgb2
          have BK := Lib.hid (bk.trans (b2.mono bk.size))
          clear hgb hgb2 bk b2
          go_upto_region 6 with fail
          rw [← hw2]
          clear hw2 hx hy hz
          go_wp2_with fail
          refine (HGA.out _).mono ?_
          rintro e w4 ⟨rfl, b4⟩
          have BE := BK.out.trans (b4.mono BK.out.size)
          clear k0 k1 k2 k3 g0c g1c g2c
          cases gb with
          | false =>
            have e : b = false := by rw [← HB2.out, gatesTo_no hlt HGB.out, Bool.false_and]
            subst e
            go_wp2_with fail
            go_ret
            exact ⟨rfl, HBel.out.trans (BE.mono HBel.out.size)⟩
          | true =>
            go_wp2_with fail
            go_roundw
            case rel => exact ⟨k + 1, by omega, by go_num, by show _ = _; rw [gatesTo, HT.out, HGB.out]; rfl, BE⟩
            case measure => simp [intOf]; omega
        · obtain rfl : k = n := by omega
          have hal : allIn 0 (C.wires - 1) C.os = b := by rw [← HB2.out, HT.out, Bool.true_and]
          have HA := Lib.hid (isCircuitAny_any w.heap.size G k c O m d C b wr hal (h1.below bk) (hO1.below bk) (by have := HO.out; omega) pk i0 (by omega) j0 (by omega) hn)
          obtain ⟨k0, k1, k2, k3⟩ := pk.four
          have BK := Lib.hid bk
          clear hal bk
          go_wp2_with fail
          refine (HA.out).mono ?_
          rintro e w3 ⟨rfl, b3⟩
          go_wp2_with fail
          go_ret
          exact ⟨by cases b <;> rfl, HBel.out.trans ((BK.out.trans (b3.mono BK.out.size)).mono HBel.out.size)⟩

theorem impl_IsCircuit (v : Value) (C : Ci) (r : Bool) (w : World) (h : HasC w v C) (hf : Fit C) (hm : m_IsCircuit C = r) :
    Calls Try.prog 15 #[v] w fun e w' => e = .returned (.bool r) ∧ Below w.heap.size w w' := isCircuit_any v C r w h (fitLen hf) hm

end Go.Proofs.Ytaohgbkhmgfnhaa
