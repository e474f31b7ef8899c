/- The model's WireValues and EvalCircuit. For every circuit of at most 1048576 gates and outs and every two lists of at most 16777216 numbers. -/
import Derived.Test.YtibaiajanggbdaaGreatDoorCirG3
namespace Go.Proofs.YtibaiajanggbdaaGreatDoor
open Go.RowKit
set_option maxRecDepth 100000

set_option maxRecDepth 100000 in
set_option maxHeartbeats 2000000 in
theorem spec_WireValues (v : Value) (C : Ci) (A : Option Addr) (n1 c1 : Nat) (xs : List Int) (B : Option Addr) (n2 c2 : Nat) (ys : List Int) (rs : List Int) (rb : Bool) (w : World) (h : HasC w v C) (hf : Fit C) (hx : Has w A n1 xs) (hn : n1 ≤ 16777216) (hnil : NilOk A n1 c1) (hy : Has w B n2 ys) (hn2 : n2 ≤ 16777216) (hnil2 : NilOk B n2 c2) (hm : m_WireValues C xs ys = (rs, rb)) :
    Calls Tryz.prog 13 #[v, .slice A n1 c1, .slice B n2 c2] w fun e w' => ∃ R m c', e = .returned (.tuple #[.slice R m c', .bool rb]) ∧ Has w' R m rs ∧ m ≤ 16777216 ∧ Below w.heap.size w w' := by
  obtain ⟨G, n, c, O, q, d, rfl, hGs, hO, _, _, _, _⟩ := id h
  have HX := Lib.hid hx.1
  have HY := Lib.hid hy.1
  have HM := Lib.hid hm
  have B1 := belowNew w (.cells #[.int .i64 C.in0, .int .i64 C.in1, .slice G n c, .slice O q d] 27)
  have p1 := Blk.new w #[.int .i64 C.in0, .int .i64 C.in1, .slice G n c, .slice O q d] 27
  have h1 := h.below B1
  have hx1 := hx.below B1
  have hy1 := hy.below B1
  obtain ⟨W1, hW1⟩ : ∃ W, W = w.alloc (.cells #[.int .i64 C.in0, .int .i64 C.in1, .slice G n c, .slice O q d] 27) := ⟨_, rfl⟩
  rw [← hW1] at B1 p1 h1 hx1 hy1
  clear h hx hy hm
  obtain ⟨ok, hok⟩ : ∃ ok, asked C xs ys = ok := ⟨_, rfl⟩
  have HA := Lib.hid (ciAsked_any _ C A n1 c1 xs B n2 c2 ys ok W1 h1 hf hx1 hn hy1 hn2 hok)
  obtain ⟨k0, k1, k2, k3⟩ := p1.four
  cases ok with
  | false =>
    have e := HM.out
    rw [m_WireValues, hok] at e
    obtain ⟨rfl, rfl⟩ := Prod.mk.inj e
    clear e
    go_enter Tryz.func13, Tryz.ntmps13
    go_wp2_with fail
    rw [← hW1]
    refine (HA.out).mono ?_
    rintro e w2 ⟨rfl, b2⟩
    go_wp2_with fail
    go_ret2
    exact ⟨none, 0, 0, rfl, Has.nil_, by omega, B1.trans (b2.mono B1.size)⟩
  | true =>
    have e := HM.out
    rw [m_WireValues, if_pos hok] at e
    obtain ⟨e1, rfl⟩ := Prod.mk.inj e
    have HR := Lib.hid e1
    obtain ⟨y1, y2, y3, y4, y5⟩ := asked_yes hok
    have hGood := gd_yes y1
    have hbits : Bits (xs ++ ys) := bits_append (bits_good y2) (bits_good y3)
    have hlen : ((n1 + n2 : Nat) : Int) = C.ins := by have := HX.out; have := HY.out; unfold Ci.ins; push_cast; omega
    have n20 : n1 ≤ 20 ∧ n2 ≤ 20 := by have := HX.out; have := HY.out; have := (good_yes y2).1; have := (good_yes y3).1; omega
    obtain ⟨n1_20, n2_20⟩ := n20
    have HL := Lib.hid hlen
    have gl := Lib.hid (show C.gs.length ≤ 300 from hGood.g)
    clear e e1 hok y1 y2 y3 y4 y5 hlen
    go_enter Tryz.func13, Tryz.ntmps13
    go_wp2_with fail
    rw [← hW1]
    clear hW1
    refine (HA.out).mono ?_
    rintro e w2 ⟨rfl, b2⟩
    have p2 := p1.below' b2
    have h2 := h1.below b2
    have hx2 := hx1.below b2
    have hy2 := hy1.below b2
    have B2 := B1.trans (b2.mono B1.size)
    obtain ⟨k0, k1, k2, k3⟩ := p2.four
    clear p1 h1 hx1 hy1 B1 b2 HA
    go_wp2_with fail
    have D : Below w2.heap.size w2 w2.drew := (Below.refl _ w2).drew
    have hK : Hid (∀ W', Below w2.heap.size w2 W' → W'.cell? ⟨w.heap.size, 0, none⟩ = some (.int .i64 C.in0) ∧ W'.cell? ⟨w.heap.size, 1, none⟩ = some (.int .i64 C.in1) ∧ W'.cell? ⟨w.heap.size, 2, none⟩ = some (.slice G n c) ∧ W'.cell? ⟨w.heap.size, 3, none⟩ = some (.slice O q d)) := fun W' hb => (p2.below' hb).four
    have HJ := Lib.hid (ciJoin_any A n1 c1 xs B n2 c2 ys w2.drew (hx2.below D) (by omega) hnil (hy2.below D) (by omega) hnil2)
    have HV : Hid (∀ R c' W', Below w2.heap.size w2 W' → Own W' w2.heap.size R (n1 + n2) c' (xs ++ ys) → Calls Tryz.prog 41 #[.agg #[.int .i64 C.in0, .int .i64 C.in1, .slice G n c, .slice O q d], .slice R (n1 + n2) c'] W' fun e w' => ∃ R3 c3, e = .returned (.slice R3 (n1 + n2 + C.gs.length) c3) ∧ Own w' W'.heap.size R3 (n1 + n2 + C.gs.length) c3 (valsC C (xs ++ ys)) ∧ Below W'.heap.size W' w') := fun R c' W' hb ho => ciValues_any _ C R (n1 + n2) c' (xs ++ ys) W' (h2.below hb) hGood ho.has (own_nilOk ho) hbits HL.out
    go_region_held3 (fun w' => w'.cell? ⟨w.heap.size, 0, none⟩ = some (.int .i64 C.in0) ∧ w'.cell? ⟨w.heap.size, 1, none⟩ = some (.int .i64 C.in1) ∧ w'.cell? ⟨w.heap.size, 2, none⟩ = some (.slice G n c) ∧ w'.cell? ⟨w.heap.size, 3, none⟩ = some (.slice O q d)) (first | exact hK.out _ D | exact hK.out _ Bq | exact hK.out _ Br | go_keep) (first | (go_at_call 41; refine (HV.out R3 c3 w3 Bq (o3.mono D.size)).mono ?_; rintro e w4 ⟨R4, c4, rfl, o4, b4⟩; have Br := Bq.trans (b4.mono Bq.size)) | (go_at_call 31; refine (HJ.out).mono ?_; rintro e w3 ⟨R3, c3, rfl, o3, b3⟩; have Bq := D.trans (b3.mono D.size)))
    go_wp2_with fail
    go_ret2
    have := gl.out
    exact ⟨R4, _, c4, rfl, by rw [← HR.out]; exact o4.has, by omega, B2.trans (Br.mono B2.size)⟩

/-- The outs' wires of a valid circuit. -/
theorem outsIn {C : Ci} (h : Good C) {m : Nat} (hm : (m : Int) = C.wires) : ∀ k, k < C.os.length → 0 ≤ C.os.getD k 0 ∧ C.os.getD k 0 < (m : Int) := fun k hk => by
  have := h.out k hk
  omega

set_option maxRecDepth 100000 in
set_option maxHeartbeats 2000000 in
theorem ciOuts_any (v : Value) (C : Ci) (A : Option Addr) (m cA : Nat) (xs : List Int) (w : World) (h : HasC w v C) (hG : Good C) (hx : Has w A m xs) (hnil : NilOk A m cA) (hb : Bits xs) (hl : (m : Int) = C.ins) :
    Calls Tryz.prog 30 #[v, .slice A m cA] w fun e w' => ∃ R c', e = .returned (.slice R C.os.length c') ∧ Own w' w.heap.size R C.os.length c' (pickL (valsC C xs) C.os) ∧ Below w.heap.size w w' := by
  obtain ⟨G, n, c, O, q, d, rfl, hGs, hO, _, _, _, _⟩ := id h
  have hol := hO.1
  have m40 : m ≤ 40 := by have := hG.a1; have := hG.b1; unfold Ci.ins at hl; omega
  have gl := Lib.hid (show C.gs.length ≤ 300 from hG.g)
  have o40 : q ≤ 40 := by have := hG.o; omega
  have hwir : ((m + C.gs.length : Nat) : Int) = C.wires := by rw [Ci.wires]; unfold Ci.ins at hl; push_cast; omega
  have HIn := Lib.hid (outsIn hG hwir)
  have B1 := belowNew w (.cells #[.int .i64 C.in0, .int .i64 C.in1, .slice G n c, .slice O q d] 27)
  have p1 := Blk.new w #[.int .i64 C.in0, .int .i64 C.in1, .slice G n c, .slice O q d] 27
  have h1 := h.below B1
  have hx1 := hx.below B1
  have hO1 := hO.below B1
  obtain ⟨W1, hW1⟩ : ∃ W, W = w.alloc (.cells #[.int .i64 C.in0, .int .i64 C.in1, .slice G n c, .slice O q d] 27) := ⟨_, rfl⟩
  rw [← hW1] at B1 p1 h1 hx1 hO1
  have D : Below W1.heap.size W1 W1.drew := (Below.refl _ W1).drew
  have hK : Hid (∀ W', Below W1.heap.size W1 W' → W'.cell? ⟨w.heap.size, 0, none⟩ = some (.int .i64 C.in0) ∧ W'.cell? ⟨w.heap.size, 1, none⟩ = some (.int .i64 C.in1) ∧ W'.cell? ⟨w.heap.size, 2, none⟩ = some (.slice G n c) ∧ W'.cell? ⟨w.heap.size, 3, none⟩ = some (.slice O q d)) := fun W' hb => (p1.below' hb).four
  have HV := Lib.hid (ciValues_any _ C A m cA xs W1.drew (h1.below D) hG (hx1.below D) hnil hb hl)
  have HP : Hid (∀ R c' W', Below W1.heap.size W1 W' → Own W' W1.heap.size R (m + C.gs.length) c' (valsC C xs) → Calls Tryz.prog 55 #[.slice R (m + C.gs.length) c', .slice O q d] W' fun e w' => ∃ R3 c3, e = .returned (.slice R3 q c3) ∧ Own w' W'.heap.size R3 q c3 (pickL (valsC C xs) C.os) ∧ Below W'.heap.size W' w') := fun R c' W' hb ho => ciPick_any R (m + C.gs.length) c' _ O q d C.os W' ho.has (by have := gl.out; omega) (hO1.below hb) (by omega) HIn.out
  rw [hol]
  clear h hG hx hl hwir h1 hx1 hO1 hGs hO hb
  go_enter Tryz.func30, Tryz.ntmps30
  go_wp2_with fail
  rw [← hW1]
  clear hW1
  go_region_held3 (fun w' => w'.cell? ⟨w.heap.size, 0, none⟩ = some (.int .i64 C.in0) ∧ w'.cell? ⟨w.heap.size, 1, none⟩ = some (.int .i64 C.in1) ∧ w'.cell? ⟨w.heap.size, 2, none⟩ = some (.slice G n c) ∧ w'.cell? ⟨w.heap.size, 3, none⟩ = some (.slice O q d)) (first | exact hK.out _ D | exact hK.out _ Bq | exact hK.out _ Br | go_keep) (first | (go_at_call 55; refine (HP.out R3 c3 w3 Bq (o3.mono D.size)).mono ?_; rintro e w4 ⟨R4, c4, rfl, o4, b4⟩; have Br := Bq.trans (b4.mono Bq.size)) | (go_at_call 41; refine (HV.out).mono ?_; rintro e w3 ⟨R3, c3, rfl, o3, b3⟩; have Bq := D.trans (b3.mono D.size)))
  go_wp2_with fail
  go_ret
  exact ⟨R4, c4, rfl, o4.mono (Nat.le_trans B1.size Bq.size), B1.trans (Br.mono B1.size)⟩

set_option maxRecDepth 100000 in
set_option maxHeartbeats 2000000 in
theorem spec_EvalCircuit (v : Value) (C : Ci) (A : Option Addr) (n1 c1 : Nat) (xs : List Int) (B : Option Addr) (n2 c2 : Nat) (ys : List Int) (rs : List Int) (rb : Bool) (w : World) (h : HasC w v C) (hf : Fit C) (hx : Has w A n1 xs) (hn : n1 ≤ 16777216) (hnil : NilOk A n1 c1) (hy : Has w B n2 ys) (hn2 : n2 ≤ 16777216) (hnil2 : NilOk B n2 c2) (hm : m_EvalCircuit C xs ys = (rs, rb)) :
    Calls Tryz.prog 8 #[v, .slice A n1 c1, .slice B n2 c2] w fun e w' => ∃ R m c', e = .returned (.tuple #[.slice R m c', .bool rb]) ∧ Has w' R m rs ∧ m ≤ 16777216 ∧ Below w.heap.size w w' := by
  obtain ⟨G, n, c, O, q, d, rfl, hGs, hO, _, _, _, _⟩ := id h
  have HX := Lib.hid hx.1
  have HY := Lib.hid hy.1
  have HM := Lib.hid hm
  have B1 := belowNew w (.cells #[.int .i64 C.in0, .int .i64 C.in1, .slice G n c, .slice O q d] 27)
  have p1 := Blk.new w #[.int .i64 C.in0, .int .i64 C.in1, .slice G n c, .slice O q d] 27
  have h1 := h.below B1
  have hx1 := hx.below B1
  have hy1 := hy.below B1
  obtain ⟨W1, hW1⟩ : ∃ W, W = w.alloc (.cells #[.int .i64 C.in0, .int .i64 C.in1, .slice G n c, .slice O q d] 27) := ⟨_, rfl⟩
  rw [← hW1] at B1 p1 h1 hx1 hy1
  clear h hx hy hm
  obtain ⟨ok, hok⟩ : ∃ ok, asked C xs ys = ok := ⟨_, rfl⟩
  have HA := Lib.hid (ciAsked_any _ C A n1 c1 xs B n2 c2 ys ok W1 h1 hf hx1 hn hy1 hn2 hok)
  obtain ⟨k0, k1, k2, k3⟩ := p1.four
  cases ok with
  | false =>
    have e := HM.out
    rw [m_EvalCircuit, hok] at e
    obtain ⟨rfl, rfl⟩ := Prod.mk.inj e
    clear e
    go_enter Tryz.func8, Tryz.ntmps8
    go_wp2_with fail
    rw [← hW1]
    refine (HA.out).mono ?_
    rintro e w2 ⟨rfl, b2⟩
    go_wp2_with fail
    go_ret2
    exact ⟨none, 0, 0, rfl, Has.nil_, by omega, B1.trans (b2.mono B1.size)⟩
  | true =>
    have e := HM.out
    rw [m_EvalCircuit, if_pos hok] at e
    obtain ⟨e1, rfl⟩ := Prod.mk.inj e
    have HR := Lib.hid e1
    obtain ⟨y1, y2, y3, y4, y5⟩ := asked_yes hok
    have hGood := gd_yes y1
    have hbits : Bits (xs ++ ys) := bits_append (bits_good y2) (bits_good y3)
    have hlen : ((n1 + n2 : Nat) : Int) = C.ins := by have := HX.out; have := HY.out; unfold Ci.ins; push_cast; omega
    have n20 : n1 ≤ 20 ∧ n2 ≤ 20 := by have := HX.out; have := HY.out; have := (good_yes y2).1; have := (good_yes y3).1; omega
    obtain ⟨n1_20, n2_20⟩ := n20
    have HL := Lib.hid hlen
    have gl := Lib.hid (show C.gs.length ≤ 300 from hGood.g)
    clear e e1 hok y1 y2 y3 y4 y5 hlen
    go_enter Tryz.func8, Tryz.ntmps8
    go_wp2_with fail
    rw [← hW1]
    clear hW1
    refine (HA.out).mono ?_
    rintro e w2 ⟨rfl, b2⟩
    have p2 := p1.below' b2
    have h2 := h1.below b2
    have hx2 := hx1.below b2
    have hy2 := hy1.below b2
    have B2 := B1.trans (b2.mono B1.size)
    obtain ⟨k0, k1, k2, k3⟩ := p2.four
    clear p1 h1 hx1 hy1 B1 b2 HA
    go_wp2_with fail
    have D : Below w2.heap.size w2 w2.drew := (Below.refl _ w2).drew
    have hK : Hid (∀ W', Below w2.heap.size w2 W' → W'.cell? ⟨w.heap.size, 0, none⟩ = some (.int .i64 C.in0) ∧ W'.cell? ⟨w.heap.size, 1, none⟩ = some (.int .i64 C.in1) ∧ W'.cell? ⟨w.heap.size, 2, none⟩ = some (.slice G n c) ∧ W'.cell? ⟨w.heap.size, 3, none⟩ = some (.slice O q d)) := fun W' hb => (p2.below' hb).four
    have HJ := Lib.hid (ciJoin_any A n1 c1 xs B n2 c2 ys w2.drew (hx2.below D) (by omega) hnil (hy2.below D) (by omega) hnil2)
    have ol := Lib.hid (show C.os.length ≤ 40 from hGood.o)
    have HV : Hid (∀ R c' W', Below w2.heap.size w2 W' → Own W' w2.heap.size R (n1 + n2) c' (xs ++ ys) → Calls Tryz.prog 30 #[.agg #[.int .i64 C.in0, .int .i64 C.in1, .slice G n c, .slice O q d], .slice R (n1 + n2) c'] W' fun e w' => ∃ R3 c3, e = .returned (.slice R3 C.os.length c3) ∧ Own w' W'.heap.size R3 C.os.length c3 (pickL (valsC C (xs ++ ys)) C.os) ∧ Below W'.heap.size W' w') := fun R c' W' hb ho => ciOuts_any _ C R (n1 + n2) c' (xs ++ ys) W' (h2.below hb) hGood ho.has (own_nilOk ho) hbits HL.out
    go_region_held3 (fun w' => w'.cell? ⟨w.heap.size, 0, none⟩ = some (.int .i64 C.in0) ∧ w'.cell? ⟨w.heap.size, 1, none⟩ = some (.int .i64 C.in1) ∧ w'.cell? ⟨w.heap.size, 2, none⟩ = some (.slice G n c) ∧ w'.cell? ⟨w.heap.size, 3, none⟩ = some (.slice O q d)) (first | exact hK.out _ D | exact hK.out _ Bq | exact hK.out _ Br | go_keep) (first | (go_at_call 30; refine (HV.out R3 c3 w3 Bq (o3.mono D.size)).mono ?_; rintro e w4 ⟨R4, c4, rfl, o4, b4⟩; have Br := Bq.trans (b4.mono Bq.size)) | (go_at_call 31; refine (HJ.out).mono ?_; rintro e w3 ⟨R3, c3, rfl, o3, b3⟩; have Bq := D.trans (b3.mono D.size)))
    go_wp2_with fail
    go_ret2
    have := ol.out
    exact ⟨R4, _, c4, rfl, by rw [← HR.out]; exact o4.has, by omega, B2.trans (Br.mono B2.size)⟩

end Go.Proofs.YtibaiajanggbdaaGreatDoor
