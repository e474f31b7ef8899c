/- The model's test of a circuit. For every circuit of at most 1048576 gates and outs. -/
import Derived.Test.YteiibneaihdmbaaCirM1
import Derived.Deep.RegionHeld3
import Derived.Deep.DeepCutAuto
namespace Go.Proofs.Yteiibneaihdmbaa
open Go.RowKit
set_option maxRecDepth 100000

set_option maxHeartbeats 1000000 in
theorem ciInputs_any (v : Value) (C : Ci) (w : World) (h : HasC w v C) (h0 : 0 ≤ C.in0) (h1 : C.in0 ≤ 1000) (h2 : 0 ≤ C.in1) (h3 : C.in1 ≤ 1000) :
    Calls Try.prog 62 #[v] w fun e w' => e = .returned (.int .i64 C.ins) ∧ Below w.heap.size w w' := by
  obtain ⟨G, n, c, O, m, d, rfl, _, _, _, _, _, _⟩ := h
  have hw : IntKind.i64.wrap (C.in0 + C.in1) = C.in0 + C.in1 := wrapIn (by omega) (by omega)
  have B1 := belowNew w (.cells #[.int .i64 C.in0, .int .i64 C.in1, .slice G n c, .slice O m d] 29)
  go_enter Try.func62, Try.ntmps62
  go_wp2
  go_ret
  exact ⟨rfl, B1⟩

set_option maxHeartbeats 1000000 in
theorem ciGate_any (x y z n : Int) (b : Bool) (w : World) (n0 : 0 ≤ n) (n1 : n ≤ 1000000) (hb : gateOk n (x, y, z) = b) :
    Calls Try.prog 115 #[.agg #[.int .i64 x, .int .i64 y, .int .i64 z], .int .i64 n] w fun e w' => e = .returned (.bool b) ∧ Below w.heap.size w w' := by
  have hw : IntKind.i64.wrap (n - 1) = n - 1 := wrapIn (by omega) (by omega)
  have B1 := belowNew w (.cells #[.int .i64 x, .int .i64 y, .int .i64 z] 69)
  have hl : ∀ (q : Int) (w : World), Calls Try.prog 98 #[.int .i64 q, .int .i64 0, .int .i64 (n - 1)] w fun e w' => e = .returned (.bool (wireOk n q)) ∧ w = w' := fun q w => l1In_any q 0 (n - 1) _ w rfl
  have HL := Lib.hid hl
  clear hl
  by_cases c0 : x = 0 ∨ x = 1
  · have hb' : (wireOk n y && wireOk n z) = b := by rw [← hb, gateOk, if_pos c0]
    have HB := Lib.hid hb'
    clear hb hb'
    cases hy : wireOk n y with
    | false =>
      have e : b = false := by rw [← HB.out, hy, Bool.false_and]
      subst e
      rcases c0 with rfl | rfl
      all_goals
        go_enter Try.func115, Try.ntmps115
        go_wp2_with fail
        refine (HL.out y _).mono ?_
        rintro e w1 ⟨rfl, rfl⟩
        rw [hy]
        go_wp2_with fail
        go_ret
        exact ⟨rfl, B1⟩
    | true =>
      have e : b = wireOk n z := by rw [← HB.out, hy, Bool.true_and]
      subst e
      rcases c0 with rfl | rfl
      all_goals
        go_enter Try.func115, Try.ntmps115
        go_wp2_with fail
        refine (HL.out y _).mono ?_
        rintro e w1 ⟨rfl, rfl⟩
        rw [hy]
        go_wp2_with fail
        refine (HL.out z _).mono ?_
        rintro e w1 ⟨rfl, rfl⟩
        go_wp2_with fail
        go_ret
        exact ⟨rfl, B1⟩
  · by_cases c2 : x = 2
    · have hb' : (wireOk n y && decide (z = 0)) = b := by rw [← hb, gateOk, if_neg c0, if_pos c2]
      have HB := Lib.hid hb'
      clear hb hb' c0
      subst c2
      cases hy : wireOk n y with
      | false =>
        have e : b = false := by rw [← HB.out, hy, Bool.false_and]
        subst e
        go_enter Try.func115, Try.ntmps115
        go_wp2_with fail
        refine (HL.out y _).mono ?_
        rintro e w1 ⟨rfl, rfl⟩
        rw [hy]
        go_wp2_with fail
        go_ret
        exact ⟨rfl, B1⟩
      | true =>
        have e : b = decide (z = 0) := by rw [← HB.out, hy, Bool.true_and]
        subst e
        go_enter Try.func115, Try.ntmps115
        go_wp2_with fail
        refine (HL.out y _).mono ?_
        rintro e w1 ⟨rfl, rfl⟩
        rw [hy]
        go_wp2_with fail
        go_ret
        exact ⟨by congr 2, B1⟩
    · have hb' : decide ((x, y, z) = ((3, 0, 0) : Ga)) = b := by rw [← hb, gateOk, if_neg c0, if_neg c2]
      have HB := Lib.hid hb'
      have x0 : x ≠ 0 := fun e => c0 (.inl e)
      have x1 : x ≠ 1 := fun e => c0 (.inr e)
      clear hb hb' c0
      go_enter Try.func115, Try.ntmps115
      go_wp2_with fail
      all_goals
        go_ret
        refine ⟨?_, belowNew w _⟩
        have hbb := HB.out
        clear HB HL B1
        rw [← hbb]
        simp_all

set_option maxHeartbeats 1000000 in
theorem ciWires_any (v : Value) (C : Ci) (w : World) (h : HasC w v C) (h0 : 0 ≤ C.in0) (h1 : C.in0 ≤ 1000) (h2 : 0 ≤ C.in1) (h3 : C.in1 ≤ 1000) (hl : C.gs.length ≤ 1048576) :
    Calls Try.prog 60 #[v] w fun e w' => e = .returned (.int .i64 C.wires) ∧ Below w.heap.size w w' := by
  obtain ⟨G, n, c, O, m, d, rfl, hG, hO, h5⟩ := h
  have hgl := hG.1
  have hw : C.ins + (n : Int) = C.wires := by rw [Ci.ins, Ci.wires, hgl]
  have hw2 : IntKind.i64.wrap (C.ins + (n : Int)) = C.ins + (n : Int) := wrapIn (by unfold Ci.ins; omega) (by unfold Ci.ins; omega)
  have B1 := belowNew w (.cells #[.int .i64 C.in0, .int .i64 C.in1, .slice G n c, .slice O m d] 29)
  have h' : HasC (w.alloc (.cells #[.int .i64 C.in0, .int .i64 C.in1, .slice G n c, .slice O m d] 29)) (.agg #[.int .i64 C.in0, .int .i64 C.in1, .slice G n c, .slice O m d]) C := HasC.below ⟨G, n, c, O, m, d, rfl, hG, hO, h5⟩ B1
  have p0 := Blk.new w #[.int .i64 C.in0, .int .i64 C.in1, .slice G n c, .slice O m d] 29
  clear hG hO h5
  obtain ⟨W1, hW1⟩ : ∃ W, W = w.alloc (.cells #[.int .i64 C.in0, .int .i64 C.in1, .slice G n c, .slice O m d] 29) := ⟨_, rfl⟩
  rw [← hW1] at B1 h' p0
  have D : Below W1.heap.size W1 W1.drew := (Below.refl _ W1).drew
  have hK : Hid (∀ W', Below W1.heap.size W1 W' → W'.cell? ⟨w.heap.size, 0, none⟩ = some (.int .i64 C.in0) ∧ W'.cell? ⟨w.heap.size, 1, none⟩ = some (.int .i64 C.in1) ∧ W'.cell? ⟨w.heap.size, 2, none⟩ = some (.slice G n c) ∧ W'.cell? ⟨w.heap.size, 3, none⟩ = some (.slice O m d)) := fun W' hb => ⟨(p0.below' hb).cell (i := 0) rfl, (p0.below' hb).cell (i := 1) rfl, (p0.below' hb).cell (i := 2) rfl, (p0.below' hb).cell (i := 3) rfl⟩
  have HI := Lib.hid (ciInputs_any _ C W1.drew (h'.below D) h0 h1 h2 h3)
  have BB := Lib.hid B1
  have HW := Lib.hid hw
  clear h' p0 B1 hw
  go_enter Try.func60, Try.ntmps60
  go_wp2_with fail
  rw [← hW1]
  clear hW1
  go_region_held3 (fun w' => w'.cell? ⟨w.heap.size, 0, none⟩ = some (.int .i64 C.in0) ∧ w'.cell? ⟨w.heap.size, 1, none⟩ = some (.int .i64 C.in1) ∧ w'.cell? ⟨w.heap.size, 2, none⟩ = some (.slice G n c) ∧ w'.cell? ⟨w.heap.size, 3, none⟩ = some (.slice O m d)) (first | exact hK.out _ D | exact hK.out _ Bq | go_keep) (first | (go_at_call 62; refine (HI.out).mono ?_; rintro e w2 ⟨rfl, b2⟩; have Bq := D.trans (b2.mono D.size)))
  go_wp2
  go_ret
  exact ⟨retI HW.out, BB.out.trans (Bq.mono BB.out.size)⟩

theorem fitLen {C : Ci} (h : Fit C) : C.gs.length ≤ 1048576 ∧ C.os.length ≤ 1048576 := ⟨h.1, h.2.1⟩

set_option maxRecDepth 100000 in
set_option maxHeartbeats 4000000 in
theorem ciGood_any (v : Value) (C : Ci) (b : Bool) (w : World) (h : HasC w v C) (hf : C.gs.length ≤ 1048576 ∧ C.os.length ≤ 1048576) (hb : gd C = b) :
    Calls Try.prog 58 #[v] w fun e w' => e = .returned (.bool b) ∧ Below w.heap.size w w' := by
  obtain ⟨hn, hm⟩ := hf
  obtain ⟨G, n, c, O, m, d, rfl, hG, hO, _, _, _, _⟩ := id h
  have hgl := hG.1
  have hol := hO.1
  have HB := Lib.hid hb
  clear hb
  have B1 := belowNew w (.cells #[.int .i64 C.in0, .int .i64 C.in1, .slice G n c, .slice O m d] 29)
  have p1 := Blk.new w #[.int .i64 C.in0, .int .i64 C.in1, .slice G n c, .slice O m d] 29
  obtain ⟨W1, hW1⟩ : ∃ W, W = w.alloc (.cells #[.int .i64 C.in0, .int .i64 C.in1, .slice G n c, .slice O m d] 29) := ⟨_, rfl⟩
  rw [← hW1] at B1 p1
  have h1 := h.below B1
  have hG1 := hG.below B1
  have hO1 := hO.below B1
  have k0 := p1.cell (i := 0) rfl
  have k1 := p1.cell (i := 1) rfl
  have k2 := p1.cell (i := 2) rfl
  have k3 := p1.cell (i := 3) rfl
  have HL : Hid (∀ (q : Int) (w : World), Calls Try.prog 98 #[.int .i64 q, .int .i64 0, .int .i64 20] w fun e w' => e = .returned (.bool (decide (0 ≤ q) && decide (q ≤ 20))) ∧ w = w') := fun q w => l1In_any q 0 20 _ w rfl
  clear h hG hO
  go_enter Try.func58, Try.ntmps58
  go_upto_region 1 with fail
  rw [← hW1]
  clear hW1
  go_cut [26] (fun vq wx => vq = .bool (!decide (0 ≤ C.in0 ∧ C.in0 ≤ 20 ∧ 0 ≤ C.in1 ∧ C.in1 ≤ 20 ∧ C.gs.length ≤ 300 ∧ C.os.length ≤ 40)) ∧ W1 = wx)
  case first =>
    have HG := Lib.hid hgl
    have HO := Lib.hid hol
    clear hgl hol hG1 hO1 h1 p1 B1
    cases ea : (decide (0 ≤ C.in0) && decide (C.in0 ≤ 20)) with
    | false =>
      go_wp2_with fail
      refine (HL.out _ _).mono ?_
      rintro e w2 ⟨rfl, rfl⟩
      rw [ea]
      go_wp2_with fail
      go_meet
      exact ⟨by congr 1; simp at ea ⊢; omega, rfl⟩
    | true =>
    cases eb : (decide (0 ≤ C.in1) && decide (C.in1 ≤ 20)) with
    | false =>
      go_wp2_with fail
      refine (HL.out _ _).mono ?_
      rintro e w2 ⟨rfl, rfl⟩
      rw [ea]
      go_wp2_with fail
      refine (HL.out _ _).mono ?_
      rintro e w2 ⟨rfl, rfl⟩
      rw [eb]
      go_wp2_with fail
      go_meet
      exact ⟨by congr 1; simp at eb ⊢; omega, rfl⟩
    | true =>
    have ea' : 0 ≤ C.in0 ∧ C.in0 ≤ 20 := by simpa using ea
    have eb' : 0 ≤ C.in1 ∧ C.in1 ≤ 20 := by simpa using eb
    have EA := Lib.hid ea'
    have EB := Lib.hid eb'
    clear ea' eb'
    by_cases c300 : 300 < n
    · have HF : Hid (decide (0 ≤ C.in0 ∧ C.in0 ≤ 20 ∧ 0 ≤ C.in1 ∧ C.in1 ≤ 20 ∧ C.gs.length ≤ 300 ∧ C.os.length ≤ 40) = false) := decide_eq_false (fun hh => absurd hh.2.2.2.2.1 (by have := HG.out; omega))
      go_wp2_with fail
      refine (HL.out _ _).mono ?_
      rintro e w2 ⟨rfl, rfl⟩
      rw [ea]
      go_wp2_with fail
      refine (HL.out _ _).mono ?_
      rintro e w2 ⟨rfl, rfl⟩
      rw [eb]
      go_wp2_with fail
      go_meet
      exact ⟨by rw [HF.out]; simp; try omega, rfl⟩
    · by_cases c40 : 40 < m
      · have HF : Hid (decide (0 ≤ C.in0 ∧ C.in0 ≤ 20 ∧ 0 ≤ C.in1 ∧ C.in1 ≤ 20 ∧ C.gs.length ≤ 300 ∧ C.os.length ≤ 40) = false) := decide_eq_false (fun hh => absurd hh.2.2.2.2.2 (by have := HO.out; omega))
        go_wp2_with fail
        refine (HL.out _ _).mono ?_
        rintro e w2 ⟨rfl, rfl⟩
        rw [ea]
        go_wp2_with fail
        refine (HL.out _ _).mono ?_
        rintro e w2 ⟨rfl, rfl⟩
        rw [eb]
        go_wp2_with fail
        go_meet
        exact ⟨by rw [HF.out]; simp; try omega, rfl⟩
      · have HF : Hid (decide (0 ≤ C.in0 ∧ C.in0 ≤ 20 ∧ 0 ≤ C.in1 ∧ C.in1 ≤ 20 ∧ C.gs.length ≤ 300 ∧ C.os.length ≤ 40) = true) := decide_eq_true ⟨EA.out.1, EA.out.2, EB.out.1, EB.out.2, by have := HG.out; omega, by have := HO.out; omega⟩
        go_wp2_with fail
        refine (HL.out _ _).mono ?_
        rintro e w2 ⟨rfl, rfl⟩
        rw [ea]
        go_wp2_with fail
        refine (HL.out _ _).mono ?_
        rintro e w2 ⟨rfl, rfl⟩
        rw [eb]
        go_wp2_with fail
        go_meet
        exact ⟨by rw [HF.out]; simp; try omega, rfl⟩
  case rest =>
    obtain ⟨rfl, rfl⟩ := hcut
    by_cases hok : 0 ≤ C.in0 ∧ C.in0 ≤ 20 ∧ 0 ≤ C.in1 ∧ C.in1 ≤ 20 ∧ C.gs.length ≤ 300 ∧ C.os.length ≤ 40
    · have hd : decide (0 ≤ C.in0 ∧ C.in0 ≤ 20 ∧ 0 ≤ C.in1 ∧ C.in1 ≤ 20 ∧ C.gs.length ≤ 300 ∧ C.os.length ≤ 40) = true := decide_eq_true hok
      have hb2 : (gatesTo C C.gs.length && allIn 0 (C.wires - 1) C.os) = b := by rw [← HB.out, gd, hd, Bool.true_and]
      rw [hgl] at hb2
      have HB2 := Lib.hid hb2
      rw [hd]
      obtain ⟨i0, i1, j0, j1, g300, o40⟩ := hok
      clear HB hb2 hd HL
      go_wp2_with fail
      have hins : 0 ≤ C.ins ∧ C.ins ≤ 40 := by unfold Ci.ins; omega
      have hwir : C.wires = C.ins + (n : Int) := by rw [Ci.wires, Ci.ins, hgl]
      have HWI := Lib.hid hwir
      obtain ⟨in0, in1⟩ := hins
      clear k0 k1 k2 k3 hwir
      go_loopw [30] (fun iv wr => ∃ k : Nat, k ≤ n ∧ iv = .int .i64 k ∧ Hid (gatesTo C k = true) ∧ Below W1.heap.size W1 wr) (fun iv _ => n - (intOf iv).toNat)
      case atStart => exact ⟨0, Nat.zero_le _, rfl, rfl, Below.refl _ _⟩
      case round =>
        obtain ⟨k, hk, rfl, HT, bk⟩ := hrel
        have pk := p1.below' bk
        have hk1 := h1.below bk
        by_cases hlt : k < n
        · obtain ⟨ad, x, y, z, rfl, hx, hy, hz, HE⟩ := (hG1.below bk).elem hlt
          have q0 : (0 : Int) ≤ (k : Int) := by omega
          have q1 : (k : Int) < (n : Int) := by omega
          have b2 := belowNew wr (.cells #[.int .i64 x, .int .i64 y, .int .i64 z] 69)
          have y2 := Blk.new wr #[.int .i64 x, .int .i64 y, .int .i64 z] 69
          have p2 := pk.below' b2
          have h2 := hk1.below b2
          obtain ⟨w2, hw2⟩ : ∃ W, W = wr.alloc (.cells #[.int .i64 x, .int .i64 y, .int .i64 z] 69) := ⟨_, rfl⟩
          rw [← hw2] at b2 y2 p2 h2
          have D : Below w2.heap.size w2 w2.drew := (Below.refl _ w2).drew
          have hK : Hid (∀ W', Below w2.heap.size w2 W' → (W'.cell? ⟨wr.heap.size, 0, none⟩ = some (.int .i64 x) ∧ W'.cell? ⟨wr.heap.size, 1, none⟩ = some (.int .i64 y) ∧ W'.cell? ⟨wr.heap.size, 2, none⟩ = some (.int .i64 z)) ∧ W'.cell? ⟨w.heap.size, 0, none⟩ = some (.int .i64 C.in0) ∧ W'.cell? ⟨w.heap.size, 1, none⟩ = some (.int .i64 C.in1) ∧ W'.cell? ⟨w.heap.size, 2, none⟩ = some (.slice (some ad) n c) ∧ W'.cell? ⟨w.heap.size, 3, none⟩ = some (.slice O m d)) := fun W' hb => ⟨⟨(y2.below' hb).cell (i := 0) rfl, (y2.below' hb).cell (i := 1) rfl, (y2.below' hb).cell (i := 2) rfl⟩, (p2.below' hb).cell (i := 0) rfl, (p2.below' hb).cell (i := 1) rfl, (p2.below' hb).cell (i := 2) rfl, (p2.below' hb).cell (i := 3) rfl⟩
          have HI := Lib.hid (ciInputs_any _ C w2.drew (h2.below D) i0 (by omega) j0 (by omega))
          have hwr : IntKind.i64.wrap (C.ins + (k : Int)) = C.ins + (k : Int) := wrapIn (by omega) (by omega)
          obtain ⟨gb, hgb⟩ : ∃ gb, gateOk (C.ins + (k : Int)) (x, y, z) = gb := ⟨_, rfl⟩
          have HGA := Lib.hid (fun w => ciGate_any x y z (C.ins + (k : Int)) gb w (by omega) (by omega) hgb)
          have hgb2 : gateOk (C.ins + (k : Int)) (C.gs.getD k g0) = gb := by rw [HE.out]; exact hgb
          have HGB := Lib.hid hgb2
          have BK := Lib.hid (bk.trans (b2.mono bk.size))
          clear hgb hgb2 bk b2
          go_wp2_with fail
          rw [← hw2]
          clear hw2 hx hy hz
          go_region_held3 (fun w' => (w'.cell? ⟨wr.heap.size, 0, none⟩ = some (.int .i64 x) ∧ w'.cell? ⟨wr.heap.size, 1, none⟩ = some (.int .i64 y) ∧ w'.cell? ⟨wr.heap.size, 2, none⟩ = some (.int .i64 z)) ∧ w'.cell? ⟨w.heap.size, 0, none⟩ = some (.int .i64 C.in0) ∧ w'.cell? ⟨w.heap.size, 1, none⟩ = some (.int .i64 C.in1) ∧ w'.cell? ⟨w.heap.size, 2, none⟩ = some (.slice (some ad) n c) ∧ w'.cell? ⟨w.heap.size, 3, none⟩ = some (.slice O m d)) (first | exact hK.out _ D | exact hK.out _ Bq | exact hK.out _ Br | go_keep) (first | (go_at_call 115; refine (HGA.out _).mono ?_; rintro e w4 ⟨rfl, b4⟩; have Br := Bq.trans (b4.mono Bq.size)) | (go_at_call 62; refine (HI.out).mono ?_; rintro e w3 ⟨rfl, b3⟩; have Bq := D.trans (b3.mono D.size)))
          have BE := BK.out.trans (Br.mono BK.out.size)
          cases gb with
          | false =>
            have e : b = false := by rw [← HB2.out, gatesTo_no hlt HGB.out, Bool.false_and]
            subst e
            go_wp2_with fail
            go_ret
            exact ⟨rfl, B1.trans (BE.mono B1.size)⟩
          | true =>
            go_wp2_with fail
            go_roundw
            case rel => exact ⟨_, _, _, _, _, _, _, _, _, _, _, _, _, _, _, _, ⟨k + 1, by omega, by go_num, by show _ = _; rw [gatesTo, HT.out, HGB.out]; rfl, BE⟩, rfl⟩
            case measure => simp [intOf]; omega
        · obtain rfl : k = n := by omega
          have D : Below wr.heap.size wr wr.drew := (Below.refl _ wr).drew
          have hK : Hid (∀ W', Below wr.heap.size wr W' → W'.cell? ⟨w.heap.size, 0, none⟩ = some (.int .i64 C.in0) ∧ W'.cell? ⟨w.heap.size, 1, none⟩ = some (.int .i64 C.in1) ∧ W'.cell? ⟨w.heap.size, 2, none⟩ = some (.slice G k c) ∧ W'.cell? ⟨w.heap.size, 3, none⟩ = some (.slice O m d)) := fun W' hb => ⟨(pk.below' hb).cell (i := 0) rfl, (pk.below' hb).cell (i := 1) rfl, (pk.below' hb).cell (i := 2) rfl, (pk.below' hb).cell (i := 3) rfl⟩
          have HW := Lib.hid (ciWires_any _ C wr.drew (hk1.below D) i0 (by omega) j0 (by omega) hn)
          have hwr : IntKind.i64.wrap (C.wires - 1) = C.wires - 1 := wrapIn (by have := HWI.out; omega) (by have := HWI.out; omega)
          have hal : allIn 0 (C.wires - 1) C.os = b := by rw [← HB2.out, HT.out, Bool.true_and]
          have HA : Hid (∀ W', Below wr.heap.size wr W' → Calls Try.prog 91 #[.slice O m d, .int .i64 0, .int .i64 (C.wires - 1)] W' fun e w' => e = .returned (.bool b) ∧ W' = w') := fun W' hb => l1All_any O m d C.os 0 (C.wires - 1) b W' ((hO1.below bk).below hb) (by omega) hal
          have BK := Lib.hid bk
          clear hal bk
          go_wp2_with fail
          go_region_held3 (fun w' => w'.cell? ⟨w.heap.size, 0, none⟩ = some (.int .i64 C.in0) ∧ w'.cell? ⟨w.heap.size, 1, none⟩ = some (.int .i64 C.in1) ∧ w'.cell? ⟨w.heap.size, 2, none⟩ = some (.slice G k c) ∧ w'.cell? ⟨w.heap.size, 3, none⟩ = some (.slice O m d)) (first | exact hK.out _ D | exact hK.out _ Bq | go_keep) (first | (go_at_call 91; refine (HA.out _ Bq).mono ?_; rintro e w4 ⟨rfl, rfl⟩) | (go_at_call 60; refine (HW.out).mono ?_; rintro e w3 ⟨rfl, b3⟩; have Bq := D.trans (b3.mono D.size)))
          go_wp2
          go_ret
          exact ⟨rfl, B1.trans ((BK.out.trans (Bq.mono BK.out.size)).mono B1.size)⟩
    · have hd : decide (0 ≤ C.in0 ∧ C.in0 ≤ 20 ∧ 0 ≤ C.in1 ∧ C.in1 ≤ 20 ∧ C.gs.length ≤ 300 ∧ C.os.length ≤ 40) = false := decide_eq_false hok
      have e : b = false := by rw [← HB.out, gd, hd, Bool.false_and, Bool.false_and]
      subst e
      rw [hd]
      clear hok hd HB HL
      go_wp2_with fail
      go_ret
      exact ⟨rfl, B1⟩

end Go.Proofs.Yteiibneaihdmbaa
