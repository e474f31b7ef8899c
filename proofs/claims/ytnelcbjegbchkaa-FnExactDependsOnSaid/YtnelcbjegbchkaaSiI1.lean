/- The program's small circuits and the table of their outs: isSmall, outsTable, TruthTable. For every circuit of at most 1048576 gates and outs. -/
import Derived.Test.YtnelcbjegbchkaaSiM1
import Derived.Test.YtnelcbjegbchkaaSiC1
import Derived.Test.YtnelcbjegbchkaaCirI6
namespace Go.Proofs.Ytnelcbjegbchkaa
open Go.RowKit Go.Shelf
set_option maxRecDepth 100000

set_option maxRecDepth 100000 in
set_option maxHeartbeats 2000000 in
theorem isSmall_any (v : Value) (C : Ci) (b : Bool) (w : World) (h : HasC w v C) (hf : Fit C) (hb : tiny C = b) :
    Calls Try.prog 65 #[v] w fun e w' => e = .returned (.bool b) ∧ Below w.heap.size w w' := by
  obtain ⟨G, n, c, O, q, d, rfl, _, hO, _, _, _, _⟩ := id h
  have HB := Lib.hid hb
  have B1 := belowNew w (.cells #[.int .i64 C.in0, .int .i64 C.in1, .slice G n c, .slice O q d] 34)
  have p1 := Blk.new w #[.int .i64 C.in0, .int .i64 C.in1, .slice G n c, .slice O q d] 34
  have h1 := h.below B1
  obtain ⟨W1, hW1⟩ : ∃ W, W = w.alloc (.cells #[.int .i64 C.in0, .int .i64 C.in1, .slice G n c, .slice O q d] 34) := ⟨_, rfl⟩
  rw [← hW1] at B1 p1 h1
  clear h hO hb
  have HG := Lib.hid (isCircuit_any _ C (gd C) W1 h1 (fitLen hf) rfl)
  obtain ⟨k0, k1, k2, k3⟩ := p1.four
  cases eg : gd C with
  | false =>
    have e : b = false := by rw [← HB.out, tiny, eg]; rfl
    subst e
    go_enter Try.func65, Try.ntmps65
    go_wp2_with fail
    rw [← hW1]
    refine (HG.out).mono ?_
    rintro e w2 ⟨rfl, b2⟩
    rw [eg]
    go_wp2_with fail
    go_ret
    exact ⟨rfl, B1.trans (b2.mono B1.size)⟩
  | true =>
    have hGood := gd_yes eg
    have hd : decide (C.in0 + C.in1 ≤ 10) = b := by rw [← HB.out, tiny, eg, Ci.ins]; simp
    obtain ⟨i0, i1, j0, j1⟩ : 0 ≤ C.in0 ∧ C.in0 ≤ 20 ∧ 0 ≤ C.in1 ∧ C.in1 ≤ 20 := ⟨hGood.a0, hGood.a1, hGood.b0, hGood.b1⟩
    have HD := Lib.hid hd
    clear hd hGood
    go_enter Try.func65, Try.ntmps65
    go_wp2_with fail
    rw [← hW1]
    clear hW1
    refine (HG.out).mono ?_
    rintro e w2 ⟨rfl, b2⟩
    rw [eg]
    have p2 := p1.below' b2
    have B2 := B1.trans (b2.mono B1.size)
    clear p1 h1 b2 B1 k0 k1 k2 k3 HG eg
    obtain ⟨k0, k1, k2, k3⟩ := p2.four
    go_wp2_with fail
    go_ret
    exact ⟨retBl (by rw [← HD.out]), B2⟩

set_option maxRecDepth 100000 in
set_option maxHeartbeats 4000000 in
theorem outsClosure_any (C : Ci) (G : Option Addr) (n c : Nat) (O : Option Addr) (q d : Nat) (p N k bi bc : Nat) (y : Int) (w : World) (h : HasC w (.agg #[.int .i64 C.in0, .int .i64 C.in1, .slice G n c, .slice O q d]) C) (hG : Good C)
    (hp : C.ins = (p : Int)) (p10 : p ≤ 10) (hN : (2 : Int) ^ p = (N : Int)) (hN1 : N ≤ 1024) (hk : k < N) (hI : w.cell? ⟨bi, 0, none⟩ = some (.int .i64 (p : Int))) 
    (hc : Blk w bc #[.int .i64 C.in0, .int .i64 C.in1, .slice G n c, .slice O q d] 34) :
    Calls Try.prog 136 #[.int .i64 (k : Int), .int .i64 y, .pointer (some ⟨bi, 0, none⟩), .pointer (some ⟨bc, 0, none⟩)] w fun e w' => ∃ R m c', e = .returned (.slice R m c') ∧ Own w' w.heap.size R m c' (outBits C (k : Int)) ∧ m ≤ 16777216 ∧ Below w.heap.size w w' := by
  have HGO := Lib.hid hG
  have HP := Lib.hid hp
  have hpp : C.ins.toNat = p := by omega
  have HPP := Lib.hid hpp
  have o40 := hG.o
  have HBo := Lib.hid (impl_BitsOf (k : Int) (p : Int) (inBits C (k : Int)) true w ⟨by omega, by omega⟩ ⟨by omega, by omega⟩ (by
    rw [m_BitsOf, if_pos ⟨by omega, by omega, by omega, by rw [show (p : Int).toNat = p by omega, hN]; omega⟩, show (p : Int).toNat = p by omega, inBits, hpp]))
  have HIL : Hid ((inBits C (k : Int)).length = p) := by show _ = _; rw [inBits_length]; exact hpp
  obtain ⟨k0, k1, k2, k3⟩ := hc.four
  have HH := Lib.hid h
  have HBK := Lib.hid hc
  clear hG hp hpp h
  go_enter Try.func136, Try.ntmps136
  go_wp2_with fail
  refine (HBo.out).mono ?_
  rintro e w4 ⟨R4, m4, c4, rfl, o4, m4s, b4⟩
  have hm4 : m4 = p := by rw [← o4.1]; exact HIL.out
  subst hm4
  have hk4 := HH.out.below b4
  have D : Below w4.heap.size w4 w4.drew := (Below.refl _ w4).drew
  have hK : Hid (∀ W', Below w4.heap.size w4 W' → W'.cell? ⟨bc, 0, none⟩ = some (.int .i64 C.in0) ∧ W'.cell? ⟨bc, 1, none⟩ = some (.int .i64 C.in1) ∧ W'.cell? ⟨bc, 2, none⟩ = some (.slice G n c) ∧ W'.cell? ⟨bc, 3, none⟩ = some (.slice O q d)) := fun W' hb => ((HBK.out.below' b4).below' hb).four
  have HV := Lib.hid (wireValues_any _ C R4 m4 c4 (inBits C (k : Int)) w4.drew (hk4.below D) HGO.out (o4.has.below D) (own_nilOk o4) (inBits_bits C (k : Int)) HP.out.symm)
  have HO : Hid (∀ R c' W', Below w4.heap.size w4 W' → Has W' R (m4 + C.gs.length) (valsC C (inBits C (k : Int))) → Calls Try.prog 138 #[.agg #[.int .i64 C.in0, .int .i64 C.in1, .slice G n c, .slice O q d], .slice R (m4 + C.gs.length) c'] W' fun e w' => ∃ R, e = .returned (.slice R C.os.length C.os.length) ∧ Own w' W'.heap.size R C.os.length C.os.length (outBits C (k : Int)) ∧ Below W'.heap.size W' w') := fun R c' W' hb ho => outValues_any _ C R _ c' _ W' (hk4.below hb) HGO.out ho (by have := HP.out; unfold Ci.wires Ci.ins at *; push_cast; omega)
  clear k0 k1 k2 k3 hI
  go_wp2_with fail
  first
    | go_region_held3 (fun w' => w'.cell? ⟨bc, 0, none⟩ = some (.int .i64 C.in0) ∧ w'.cell? ⟨bc, 1, none⟩ = some (.int .i64 C.in1) ∧ w'.cell? ⟨bc, 2, none⟩ = some (.slice G n c) ∧ w'.cell? ⟨bc, 3, none⟩ = some (.slice O q d)) (first | exact hK.out _ D | exact hK.out _ Bq | exact hK.out _ Br | go_keep) (first
      | (go_at_call 138; refine (HO.out R5 c5 w5 Bq o5.has).mono ?_; rintro e w6 ⟨R6, rfl, o6, b6⟩; have Br := Bq.trans (b6.mono Bq.size))
      | (go_at_call 139; refine (HV.out).mono ?_; rintro e w5 ⟨R5, c5, rfl, o5, b5⟩; have Bq := D.trans (b5.mono D.size)))
    | fail
  go_wp2_with fail
  go_ret
  exact ⟨R6, _, _, rfl, o6.mono (by have := b4.size; have := Bq.size; omega), by omega, b4.trans (Br.mono b4.size)⟩

set_option maxRecDepth 100000 in
set_option maxHeartbeats 2000000 in
theorem outsTable_any (v : Value) (C : Ci) (w : World) (h : HasC w v C) (hS : tiny C = true) :
    Calls Try.prog 67 #[v] w fun e w' => ∃ q, e = .returned (.slice (some ⟨q, 0, none⟩) (rowsN C) (rowsN C)) ∧ MatR w' w.heap.size q (rowsN C) (fun k => outBits C (k : Int)) ∧ Below w.heap.size w w' := by
  obtain ⟨p, N, hp, hpp, p10, hN, hNI, N0, N1⟩ := tinyPow hS
  have hG := gd_yes (tiny_yes hS).1
  obtain ⟨G, n, c, O, q, d, rfl, _, hO, _, _, _, _⟩ := id h
  rw [hN]
  have B1 := belowNew w (.cells #[.int .i64 C.in0, .int .i64 C.in1, .slice G n c, .slice O q d] 34)
  have p1 := Blk.new w #[.int .i64 C.in0, .int .i64 C.in1, .slice G n c, .slice O q d] 34
  obtain ⟨W1, hW1⟩ : ∃ W, W = w.alloc (.cells #[.int .i64 C.in0, .int .i64 C.in1, .slice G n c, .slice O q d] 34) := ⟨_, rfl⟩
  have s1 : W1.heap.size = w.heap.size + 1 := by rw [hW1]; simp
  rw [← hW1] at B1 p1
  have b2 := belowNew W1 (.cells #[.int .i64 (C.in0 + C.in1)] 3)
  have r2 := Blk.newAt (k := w.heap.size + 1) W1 #[.int .i64 (C.in0 + C.in1)] 3 s1.symm
  have p2 := p1.below' b2
  obtain ⟨W2, hW2⟩ : ∃ W, W = W1.alloc (.cells #[.int .i64 (C.in0 + C.in1)] 3) := ⟨_, rfl⟩
  rw [← hW2] at b2 r2 p2
  have B2 := B1.trans (b2.mono B1.size)
  have h2 := h.below B2
  have hip : C.in0 + C.in1 = (p : Int) := hp
  have e64 : Hid (wrap64 (2 ^ (C.in0 + C.in1).toNat) = (N : Int)) := by show _ = _; rw [show (C.in0 + C.in1).toNat = p by omega, hNI]; unfold wrap64; omega
  obtain ⟨i0, i1, j0, j1⟩ : 0 ≤ C.in0 ∧ C.in0 ≤ 20 ∧ 0 ≤ C.in1 ∧ C.in1 ≤ 20 := ⟨hG.a0, hG.a1, hG.b0, hG.b1⟩
  obtain ⟨k0, k1, k2, k3⟩ := p1.four
  have c0 := r2.cell (i := 0) rfl
  have HC : Hid (∀ R W', Below W2.heap.size W2 W' → Has W' R N (mapTo (fun _ => 0) N) → Calls Try.prog 135 #[.slice R N N, .func (.func 136) #[] #[.pointer (some ⟨w.heap.size + 1, 0, none⟩), .pointer (some ⟨w.heap.size, 0, none⟩)]] W' fun e w' => ∃ q, e = .returned (.slice (some ⟨q, 0, none⟩) N N) ∧ MatR w' W'.heap.size q N (fun k => outBits C (k : Int)) ∧ Below W'.heap.size W' w') :=
    fun R W' hb hz => changedIR_any 136 _ (enters_of Try.func136 (by kernel_rfl) rfl) _ R N N _ W' hz (by omega) (fun W k hk hbW =>
      outsClosure_any C G n c O q d p N k (w.heap.size + 1) w.heap.size _ W ((h2.below hb).below hbW) hG hp p10 hNI N1 hk (by rw [← hip]; exact ((r2.below' hb).below' hbW).cell (i := 0) rfl) ((p2.below' hb).below' hbW))
  have c10 : C.in0 + C.in1 ≤ 10 := by omega
  clear h hG hS hO h2 hNI hp hpp hip
  go_enter Try.func67, Try.ntmps67
  go_upto_region 2 with fail
  rw [← hW1, ← hW2]
  clear hW1 hW2 k0 k1 k2 k3
  go_wp2_with (at_make; refine makeRow _ rfl _ rfl N (congrArg (Value.int .i64) e64.out) (by omega) ?_; intro w3 hrow hb3)
  refine (HC.out _ w3 hb3 hrow.own.has).mono ?_
  rintro e w4 ⟨g, rfl, hM, b4⟩
  have B3 := B2.trans (hb3.mono B2.size)
  go_wp2_with fail
  go_ret
  exact ⟨g, rfl, hM.mono B3.size, B3.trans (b4.mono B3.size)⟩

end Go.Proofs.Ytnelcbjegbchkaa
